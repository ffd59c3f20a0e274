/-
  The closure in fill.standardOf: a letter more.
-/
import Derived.Test.YtmbpcapjldbkbaaGreatDoorSCl
import Derived.BigQuiet
import Derived.Deep.RegionLaw
namespace Go.Proofs.YtmbpcapjldbkbaaGreatDoor
open Go.RowKit

/-- Behind the append. -/
def AftR (H : Nat) (w0 wk : World) (l0 R lo m : Nat) (vl : Value) (us vs : List Value) (t : List (List Nat)) (k c : Nat) (wz : World) : Prop :=
  ∃ v2 w2, wz = w2.setCell ⟨R, k, none⟩ v2 ∧ KeepB (rowv vs k) v2 wk w2 ∧ (NearA (rowv vs k) v2 (rwN t k).length ((rwN t k).length + 1) ∨ FarA wk w2 v2) ∧ TX H w0 wz l0 R lo m vl us (vs.set k v2) (endN t k c)
/-- What a call of the closure does, f boxes being left. -/
def SS (H : Nat) (w0 : World) (l0 R lo m bp bs bf : Nat) (zs : List Int) (f : Nat) : Prop :=
  ∀ (c : Nat) (us vs : List Value) (vl : Value) (w : World) (t : List (List Nat)), TX H w0 w l0 R lo m vl us vs t → us.length ≤ 2001 → (∀ i, i < m → lnN t i ≤ pF zs i) → sZ (fun i => ((pF zs i : Nat) : Int)) m = f + sZ (fun i => ((lnN t i : Nat) : Int)) m → c + f ≤ 1000 → (∀ l ∈ t, l.length ≤ 1000 ∧ ∀ z ∈ l, z ≤ 1000) →
    Calls Tryz.prog 72 #[.int .i64 (c : Int), bxP l0, bxP bs, bxP bp, bxP bf] w fun e w' => e = .returned (.tuple #[]) ∧ SEnd H w0 w l0 R lo m vl us vs t ((stS (pF zs) m f t c).take (2001 - us.length)) w'
theorem SEnd.refl {H : Nat} {w0 w : World} {l0 R lo m : Nat} {vl : Value} {us vs : List Value} {t : List (List Nat)} (h : TX H w0 w l0 R lo m vl us vs t) : SEnd H w0 w l0 R lo m vl us vs t [] w :=
  ⟨vl, [], by rw [List.append_nil]; exact h, ⟨Nat.le_refl _, fun _ _ _ _ _ _ => rfl⟩, fun _ e => .inl e, trivial⟩
theorem SEnd.trans {H : Nat} {w0 w w1 w2 : World} {l0 R lo m : Nat} {vl vl1 : Value} {us nw vs : List Value} {t : List (List Nat)} {L1 L2 : List (List (List Nat))} (hz : l0 < w.heap.size ∧ R < w.heap.size) (h1 : KeepS w w1 l0 R m vl vs) (h2 : LiesS w vl vl1) (hE : Els w1 w.heap.size m vl1 vs nw L1) (h3 : SEnd H w0 w1 l0 R lo m vl1 (us ++ nw) vs t L2 w2) : SEnd H w0 w l0 R lo m vl us vs t (L1 ++ L2) w2 := by
  obtain ⟨vl', nw', hx, hk, hv, hE2⟩ := h3
  have h1s := h1.1
  refine ⟨vl', nw ++ nw', by rw [← List.append_assoc]; exact hx, ⟨Nat.le_trans h1.1 hk.1, fun k b1 b2 b3 b4 b5 => ?_⟩, fun k e => ?_, Els.app (Els.imp (fun u s hu => ?_) hE) (Els.imp (fun u s hu => ?_) hE2)⟩
  · rw [hk.2 k (Nat.lt_of_lt_of_le b1 h1.1) b2 b3 (fun e => ?_) b5, h1.2 k b1 b2 b3 b4 b5]
    rcases h2 k e with z | z
    · exact b4 z
    · omega
  · rcases hv k e with z | z
    · exact h2 k z
    · right; exact Nat.le_trans h1.1 z
  · obtain ⟨x', y, c1, c2, c3, c4, c5⟩ := hu
    refine ⟨x', y, c1, Nat.le_trans c2 hk.1, fun g hg hxg => ?_, c4, fun W hW => c5 W fun j j1 j2 => ?_⟩
    · rcases hv g hg with z | z
      · exact c3 g z hxg
      · omega
    · rw [hW j j1 j2]
      exact hk.2 j (by omega) (by omega) (by omega) (fun e => by have := c3 j e j1; omega) (fun i hi e => by have := c4 i hi j e j1; omega)
  · obtain ⟨x', y, c1, c2, c3, c4, c5⟩ := hu
    exact ⟨x', y, by omega, c2, c3, c4, c5⟩
theorem Sd_zero {H : Nat} {w0 : World} {l0 R lo m bp bs bf cp : Nat} {zs : List Int} {ap : Option Addr} (E : SE w0 l0 R lo m bp bs bf zs ap cp) : SS H w0 l0 R lo m bp bs bf zs 0 := fun c us vs vl w t h hu hle hs _ hbt => by
  by_cases h1 : us.length = 2001
  · refine (Sd_many bs bp bf _ h h1).mono ?_
    rintro e w' ⟨rfl, rfl⟩
    refine ⟨rfl, ?_⟩
    rw [h1, Nat.sub_self, List.take_zero]
    exact SEnd.refl h
  · refine (Sd_leaf c E h (by omega) (fun i hi => ?_) hbt).mono ?_
    · have := sZ_tight (f := fun i => ((lnN t i : Nat) : Int)) (g := fun i => ((pF zs i : Nat) : Int)) m (fun i hi => by have := hle i hi; omega) (by rw [hs]; simp) i hi
      omega
    · rintro e w' ⟨rfl, hE⟩
      refine ⟨rfl, ?_⟩
      rw [stS, List.take_of_length_le (by rw [List.length_singleton]; omega)]
      exact hE

set_option maxHeartbeats 16000000 in
set_option maxRecDepth 100000 in
theorem Sd_succ {H : Nat} {w0 : World} {l0 R lo m bp bs bf cp f : Nat} {zs : List Int} {ap : Option Addr} (E : SE w0 l0 R lo m bp bs bf zs ap cp) (IH : SS H w0 l0 R lo m bp bs bf zs f) : SS H w0 l0 R lo m bp bs bf zs (f + 1) := fun c us vs vl w t h hu hle hs hc hbt => by
  by_cases hu1 : us.length = 2001
  · refine (Sd_many bs bp bf _ h hu1).mono ?_
    rintro e w' ⟨rfl, rfl⟩
    refine ⟨rfl, ?_⟩
    rw [hu1, Nat.sub_self, List.take_zero]
    exact SEnd.refl h
  obtain ⟨av, cv, hvl⟩ := h.shape
  obtain ⟨n, HN⟩ : ∃ n, Hid (n = us.length) := ⟨_, rfl⟩
  rw [← HN.out] at hvl
  have hn : n ≤ 2000 := by rw [HN.out]; omega
  have c0 := (cell_oneX h.lb).1
  rw [hvl] at c0
  obtain ⟨s1, s2, s3⟩ := E.cs w h.st
  have hm40 : m ≤ 40 := by rw [E.hm]; exact E.pt.len
  have HE : Hid (SE w0 l0 R lo m bp bs bf zs ap cp) := E
  have HIH : Hid (SS H w0 l0 R lo m bp bs bf zs f) := IH
  have HLe : Hid (∀ i, i < m → lnN t i ≤ pF zs i) := hle
  have HSs : Hid (sZ (fun i => ((pF zs i : Nat) : Int)) m = ((f + 1 : Nat) : Int) + sZ (fun i => ((lnN t i : Nat) : Int)) m) := hs
  have HBt : Hid (∀ l ∈ t, l.length ≤ 1000 ∧ ∀ z ∈ l, z ≤ 1000) := hbt
  have HRm : Hid (t.length = m) := h.rm
  have hc1000 : c ≤ 1000 := by omega
  have HWz : Hid (l0 < w.heap.size ∧ R < w.heap.size) := ⟨Nat.lt_of_lt_of_le h.lt.1 h.sz, Nat.lt_of_lt_of_le h.lt.2.1 h.sz⟩
  have HU0 : Hid (us.length ≤ 2001) := hu
  have HCf : Hid (c + 1 + f ≤ 1000) := by show _ ≤ _; omega
  have HS0 : Hid (SEnd H w0 w l0 R lo m vl us vs t ((stK (pF zs) m f t c 0).take (2001 - us.length)) w) := by
    show SEnd _ _ _ _ _ _ _ _ _ _ _ _ _
    rw [show (stK (pF zs) m f t c 0).take (2001 - us.length) = [] by simp [stK]]
    exact SEnd.refl h
  have hgt : ¬ ((n : Int) > 2000) := by omega
  clear h hu hle hs hbt E IH hvl hc
  go_enter Tryz.func72, Tryz.ntmps72
  go_wp2
  clear c0 s1 s2 s3
  go_loopw [6, 15] (fun fv iv wr => ∃ (k : Nat) (fb : Bool), k ≤ m ∧ iv = .int .i64 k ∧ fv = .bool fb ∧ Hid (fb = true → ∀ i, i < k → lnN t i = pF zs i) ∧ Hid (SEnd H w0 w l0 R lo m vl us vs t ((stK (pF zs) m f t c k).take (2001 - us.length)) wr)) (fun _ iv _ => m - (intOf iv).toNat)
  case atStart => exact ⟨0, true, Nat.zero_le _, rfl, rfl, fun _ i hi => absurd hi (Nat.not_lt_zero _), HS0⟩
  case round =>
    clear HS0
    obtain ⟨k, fb, hk, rfl, rfl, HFb, HSE⟩ := hrel
    obtain ⟨wk, hwk⟩ : ∃ wk, wk = wr := ⟨_, rfl⟩
    subst hwk
    by_cases hlt : k < m
    · have hlt' : (k : Int) < (m : Int) := by omega
      obtain ⟨vl1, nw, hx1, hks1, hlv1, hel1⟩ := HSE.out
      have HEl1 : Hid (Els wk w.heap.size m vl1 vs nw ((stK (pF zs) m f t c k).take (2001 - us.length))) := hel1
      obtain ⟨us1, HUs⟩ : ∃ us1, Hid (us1 = us ++ nw) := ⟨_, rfl⟩
      rw [← HUs.out] at hx1
      have HK1 : Hid (KeepS w wk l0 R m vl vs) := hks1
      have HV1 : Hid (LiesS w vl vl1) := hlv1
      have HU1 : Hid (us1.length = us.length + min (2001 - us.length) (stK (pF zs) m f t c k).length) := by
        show _ = _
        rw [HUs.out, List.length_append, hel1.len, List.length_take]
      have hrl : k < (castT t).length := by rw [castT_len, HRm.out]; exact hlt
      have hti : (castT t).getD k [] = castL (rwN t k) := by
        unfold castT rwN
        simp only [List.getD, List.getElem?_map]
        cases t[k]? <;> rfl
      obtain ⟨q, hql⟩ : ∃ q, (rwN t k).length = q := ⟨_, rfl⟩
      have HQl : Hid (lnN t k = q) := hql
      obtain ⟨ar, cr, hrv⟩ := (hx1.tb.rows k hrl).shape
      rw [hti, castL_len, hql] at hrv
      obtain ⟨g9, n9, cap9, e9, -, hg9, hgs9, hfr9, hce9⟩ := hx1.tb.head (by omega)
      simp only [Value.slice.injEq, Option.some.injEq, Addr.mk.injEq, and_true] at e9
      obtain ⟨rfl, -, -⟩ := e9
      have cR : wk.cell? ⟨R, k, none⟩ = some (.slice ar q cr) := by rw [hce9 k hrl, hrv]
      obtain ⟨t1, t2, t3⟩ := HE.out.cs wk hx1.st
      obtain ⟨pb, po, hap, hcp⟩ := HE.out.ps wk hx1.st k hlt
      subst hap
      obtain ⟨p, HPe⟩ : ∃ p, Hid (p = pF zs k) := ⟨_, rfl⟩
      rw [← HPe.out] at hcp
      have hp40 : p ≤ 40 := by rw [HPe.out]; exact pF_le HE.out.pt k
      have hqp : q ≤ p := by rw [HPe.out, ← hql]; exact HLe.out k hlt
      have hq40 : q ≤ 40 := by omega
      by_cases hqe : q = p
      · have hqb : ((q : Int) == (p : Int)) = true := by simp [hqe]
        have HS2 : Hid (SEnd H w0 w l0 R lo m vl us vs t ((stK (pF zs) m f t c (k + 1)).take (2001 - us.length)) wk) := by
          have hno : canN (pF zs) t k = false := by unfold canN; rw [HQl.out, ← HPe.out, hqe]; simp
          show SEnd _ _ _ _ _ _ _ _ _ _ _ _ _
          rw [stK_succ, hno]; simpa using HSE.out
        have HF2 : Hid (fb = true → ∀ i, i < k + 1 → lnN t i = pF zs i) := fun hfb i hi => by
          by_cases e : i = k
          · subst i; rw [HQl.out, ← HPe.out]; exact hqe
          · exact HFb.out hfb i (by omega)
        clear hx1 hce9 HSE
        go_wp2
        exact ⟨⟨k + 1, fb, by omega, by go_num, rfl, HF2, HS2⟩, by simp [intOf]; omega⟩
      · have hqb : ((q : Int) == (p : Int)) = false := by rw [beq_eq_false_iff_ne]; omega
        rcases Nat.eq_zero_or_pos k with hk0 | hk0
        · have hkb : ((k : Int) == 0) = true := by rw [hk0]; rfl
          have HCan : Hid (canN (pF zs) t k = true) := by
            show _ = _; unfold canN; rw [HQl.out, ← HPe.out]; simp [hqe, hk0]
          clear hk0
          have hOr := hx1.tb.rows k hrl
          rw [hti] at hOr
          have hOl : Owns wk lo (rowv vs k) (castL (rwN t k)) := by
            refine ⟨hOr.1, ?_⟩
            rcases hOr.2 with z | ⟨gg, cp', cur, hv, hgg, rest⟩
            · exact Or.inl z
            · exact Or.inr ⟨gg, cp', cur, hv, hx1.rl k hlt gg (by rw [hv]; rfl), rest⟩
          rw [hrv] at hOl
          have hszl := hx1.sz
          have hloR := hx1.lt
          obtain ⟨xs, HXs⟩ : ∃ xs, Hid (xs = (castL (rwN t k)).map (Value.int .i64)) := ⟨_, rfl⟩
          have HXl : Hid (xs.length ≤ 2000) := by show _ ≤ _; rw [HXs.out, List.length_map, castL_len, hql]; omega
          have HXq : Hid (xs.length = q) := by show _ = _; rw [HXs.out, List.length_map, castL_len, hql]
          have HOw : Hid (∀ W : World, W.heap = wk.heap → W.ownsRow lo 3 1 (.slice ar q cr) xs.length xs) := fun W hW => by
            have h1 := vals_of_owns hOl
            rw [← HXs.out] at h1
            exact ownsRow_blocks h1 (fun k _ => by rw [hW])
          have d4 : (wk.alloc (.cells #[.int .i64 (c : Int)] 3)).cell? ⟨bs, 0, none⟩ = some (.slice (some ⟨R, 0, none⟩) m m) := (HE.out.cs _ (hx1.below ((Below.refl _ _).alloc (Nat.le_refl _) _)).st).2.1
          have dR : (wk.alloc (.cells #[.int .i64 (c : Int)] 3)).cell? ⟨R, k, none⟩ = some (.slice ar q cr) := by rw [World.cell?_of_block (Below.heap_alloc wk _ R hgs9)]; exact cR
          have HX1 : Hid (TX H w0 wk l0 R lo m vl1 us1 vs t) := hx1
          have HRV : Hid (rowv vs k = .slice ar q cr) := hrv
          have HEn : Hid (∀ v2 w2, w2.ownsRow lo 3 1 v2 (xs ++ [Value.int .i64 (c : Int)]).length (xs ++ [Value.int .i64 (c : Int)]) → Below lo wk.drew w2 → KeepB (.slice ar q cr) v2 wk.drew w2 → (NearA (.slice ar q cr) v2 xs.length (xs.length + 1) ∨ FarA wk.drew w2 v2) → w2.cell? ⟨R, k, none⟩ = some (.slice ar q cr) ∧ w2.frozen? ⟨R, k, none⟩ = false ∧ w2.cell? ⟨bs, 0, none⟩ = some (.slice (some ⟨R, 0, none⟩) m m) ∧ Hid (AftR H w0 wk l0 R lo m vl1 us1 vs t k c (w2.setCell ⟨R, k, none⟩ v2)) ∧ ∃ a2 m2 k2, v2 = .slice a2 m2 k2) := fun v2 w2 h2 h3 h4 h5 => by
            have hX := HX1.out
            have h3' : Below lo wk w2 := (below_drewN (Below.refl _ _) 1).trans h3
            have h4' : KeepB (.slice ar q cr) v2 wk w2 := ⟨h4.size, h4.block, h4.lies⟩
            have hrb : ∀ j, j < lo → (Value.slice ar q cr).ownBlock ≠ some j := fun j hj e => by rw [← HRV.out] at e; have := hX.rl k hlt j e; omega
            have hob : ∀ j, j < lo → w2.heap[j]? = wk.heap[j]? := fun j hj => h4'.block j (by omega) (hrb j hj)
            have ho : Owns w2 lo v2 (castL (rwN t k ++ [c])) := by
              rw [HXs.out] at h2
              rw [show castL (rwN t k ++ [c]) = castL (rwN t k) ++ [(c : Int)] by simp [castL]]
              exact owns_of_vals h2
            have hk' : KeepB (rowv vs k) v2 wk w2 := by rw [HRV.out]; exact h4'
            have hT := hX.setrow hlt ho h3' hk'
            obtain ⟨a2, c2, hv2⟩ := ho.shape
            have hRR := hob R hloR.2.1
            refine ⟨(World.cell?_of_block (w := wk) (a := ⟨R, k, none⟩) hRR).trans cR, (World.frozen?_of_block (w := wk) (a := ⟨R, k, none⟩) hRR).trans (hfr9 k), (HE.out.cs w2 (fun j j1 j2 j3 => by rw [hob j j1]; exact hX.st j j1 j2 j3)).2.1, ⟨v2, w2, rfl, hk', ?_, hT⟩, a2, _, c2, hv2⟩
            rw [HRV.out, hql]
            rw [HXq.out] at h5
            rcases h5 with z | z
            · exact Or.inl z
            · exact Or.inr ⟨(below_drewN (Below.refl _ _) 1).trans z.1, z.2⟩
          clear hOr hOl hx1 hce9
          go_upto_region 9 with fail
          go_cut [] (fun wz => Hid (AftR H w0 wk l0 R lo m vl1 us1 vs t k c wz))
          case first =>
            go_region_law (refine step_one3 elem_int (w := wk.drew) (N := wk.heap.size) (x := Value.int .i64 (c : Int)) rfl (.tmp 42) (.tmp 44) rfl (by first | (simp [Act.eval]; done) | (simp [Act.eval, Act.put]; done)) (by first | (simp [Act.eval]; done) | (simp [Act.eval, Act.put]; done)) rfl (HOw.out _ rfl) rfl (by have := HXl.out; unfold maxLen; omega) (by have := HXl.out; omega) hszl ?_; intro v2 w2 hO2 hb2 hk2 hn2; obtain ⟨z0, z1, z2, z3, a2, m2, k2, rfl⟩ := HEn.out v2 w2 hO2 hb2 hk2 hn2; clear hO2 hb2 hk2 hn2)
            all_goals go_wp2_with fail
            all_goals go_meet
            all_goals exact z3
          case rest =>
            obtain ⟨wz, hwz'⟩ : ∃ wz, wz = wc := ⟨_, rfl⟩
            subst hwz'
            obtain ⟨v2, w2, hwz, hk2, hn2, hX2⟩ := hcut.out
            have hIc := HIH.out (c + 1) us1 (vs.set k v2) vl1 wz (endN t k c) hX2 (by rw [HU1.out]; have := HU0.out; omega) (fun i hi => by
              rw [lnN_end (by rw [HRm.out]; exact hlt)]
              unfold moreB
              split
              · subst i; rw [HQl.out, ← HPe.out]; omega
              · exact HLe.out i hi) (by
              have h1 := HSs.out
              rw [lnN_end (c := c) (by rw [HRm.out]; exact hlt)]
              have hm2 : lessB (moreB (lnN t) k) k = lnN t := by
                funext r; unfold lessB moreB
                by_cases e : r = k
                · subst r; simp
                · rw [if_neg e, if_neg e]
              have := sum_dn (y := moreB (lnN t) k) (k := k) (by unfold moreB; rw [if_pos rfl]; omega) m hlt
              rw [hm2] at this
              omega) (by have := HCf.out; omega) (fun l hl => by
              unfold endN at hl
              rcases List.mem_or_eq_of_mem_set hl with z | z
              · exact HBt.out l z
              · have hq : (rwN t k).length = q := HQl.out
                refine ⟨by rw [z, List.length_append, hq]; simp; omega, fun y hy => ?_⟩
                rw [z, List.mem_append, List.mem_singleton] at hy
                rcases hy with y1 | y1
                · unfold rwN at y1
                  rw [List.getD, List.getElem?_eq_getElem (by rw [HRm.out]; exact hlt)] at y1
                  exact (HBt.out _ (List.getElem_mem _)).2 y y1
                · omega)
            have HIc : Hid (Calls Tryz.prog 72 #[.int .i64 ((c : Int) + 1), bxP l0, bxP bs, bxP bp, bxP bf] wz fun e w' => e = .returned (.tuple #[]) ∧ Hid (SEnd H w0 wz l0 R lo m vl1 us1 (vs.set k v2) (endN t k c) ((stS (pF zs) m f (endN t k c) (c + 1)).take (2001 - us1.length)) w')) := by
              have h1 := hIc
              rw [show ((c + 1 : Nat) : Int) = (c : Int) + 1 by omega] at h1
              exact h1
            have s5 := (HE.out.cs wz hX2.st).2.2
            have HRd : Hid (∀ w3, SEnd H w0 wz l0 R lo m vl1 us1 (vs.set k v2) (endN t k c) ((stS (pF zs) m f (endN t k c) (c + 1)).take (2001 - us1.length)) w3 → SEnd H w0 w l0 R lo m vl us vs t ((stK (pF zs) m f t c (k + 1)).take (2001 - us.length)) (w3.setCell ⟨R, k, none⟩ (.slice ar q cr)) ∧ w3.cell? ⟨bs, 0, none⟩ = some (.slice (some ⟨R, 0, none⟩) m m) ∧ (∃ y, w3.cell? ⟨R, k, none⟩ = some y) ∧ w3.frozen? ⟨R, k, none⟩ = false) := fun w3 h3 => by
              obtain ⟨vl3, nw3, hx3, hk3, hv3, hE3⟩ := id h3
              rw [hwz] at h3
              have hr := HX1.out.round hlt hk2 hn2 h3
              rw [HRV.out] at hr
              rw [HUs.out] at hr
              have hr2 := SEnd.trans HWz.out HK1.out HV1.out HEl1.out hr
              obtain ⟨g8, n8, cap8, e8, -, hg8, hgs8, hfr8, hce8⟩ := hx3.tb.head (by rw [castT_len, hx3.rm]; omega)
              simp only [Value.slice.injEq, Option.some.injEq, Addr.mk.injEq, and_true] at e8
              obtain ⟨rfl, -, -⟩ := e8
              refine ⟨?_, (HE.out.cs w3 hx3.st).2.1, ⟨_, hce8 k (by rw [castT_len, hx3.rm]; exact hlt)⟩, hfr8 k⟩
              have hcan : canN (pF zs) t k = true := HCan.out
              rw [stK_succ, if_pos hcan, List.take_append]
              rw [← HUs.out, HU1.out, show 2001 - (us.length + min (2001 - us.length) (stK (pF zs) m f t c k).length) = 2001 - us.length - (stK (pF zs) m f t c k).length by omega] at hr2
              exact hr2
            clear hX2 hcut HOw HEn d4 dR hIc hwz hk2 hn2 cR t1 t2 t3 hcp HX1 HRV HSE
            go_wp2_with fail
            refine HIc.out.mono ?_
            rintro e w5 ⟨rfl, HT5⟩
            obtain ⟨hS5, y1, ⟨y2, y3⟩, y4⟩ := HRd.out w5 HT5.out
            have HS5 : Hid (SEnd H w0 w l0 R lo m vl us vs t ((stK (pF zs) m f t c (k + 1)).take (2001 - us.length)) (w5.setCell ⟨R, k, none⟩ (.slice ar q cr))) := hS5
            clear hS5 HIc HRd s5
            go_wp2
            exact ⟨⟨k + 1, false, by omega, by go_num, rfl, fun z => (by cases z), HS5⟩, by simp [intOf]; omega⟩
        · have hkb : ((k : Int) == 0) = false := by rw [beq_eq_false_iff_ne]; omega
          have HK0 : Hid (0 < k) := hk0
          obtain ⟨k1, HK⟩ : ∃ k1, Hid (k = k1 + 1) := ⟨k - 1, by show _ = _; omega⟩
          have hk1e : (k : Int) - 1 = (k1 : Int) := by have := HK.out; omega
          have hk1l : (k1 : Int) < (m : Int) := by have := HK.out; omega
          have hk1m : k1 < m := by have := HK.out; omega
          have hrl1 : k1 < (castT t).length := by rw [castT_len, HRm.out]; exact hk1m
          have hti1 : (castT t).getD k1 [] = castL (rwN t k1) := by
            unfold castT rwN
            simp only [List.getD, List.getElem?_map]
            cases t[k1]? <;> rfl
          obtain ⟨q1, hq1l⟩ : ∃ q1, (rwN t k1).length = q1 := ⟨_, rfl⟩
          have HQ1 : Hid (lnN t k1 = q1) := hq1l
          obtain ⟨ar1, cr1, hrv1⟩ := (hx1.tb.rows k1 hrl1).shape
          rw [hti1, castL_len, hq1l] at hrv1
          have cR1 : wk.cell? ⟨R, k1, none⟩ = some (.slice ar1 q1 cr1) := by rw [hce9 k1 hrl1, hrv1]
          have hq1b : q1 ≤ 40 := by
            have h1 := HLe.out k1 hk1m
            rw [HQ1.out] at h1
            have := pF_le HE.out.pt k1
            omega
          clear hk0 hq1l hrv1 hti1 hrl1
          by_cases hqq : q < q1
          · have hqi : (q : Int) < (q1 : Int) := by omega
            have HCan : Hid (canN (pF zs) t k = true) := by
              show _ = _; unfold canN
              have e1 : k - 1 = k1 := by have := HK.out; omega
              rw [e1, HQ1.out, HQl.out, ← HPe.out]; simp [hqe, hqq]
            have hOr := hx1.tb.rows k hrl
            rw [hti] at hOr
            have hOl : Owns wk lo (rowv vs k) (castL (rwN t k)) := by
              refine ⟨hOr.1, ?_⟩
              rcases hOr.2 with z | ⟨gg, cp', cur, hv, hgg, rest⟩
              · exact Or.inl z
              · exact Or.inr ⟨gg, cp', cur, hv, hx1.rl k hlt gg (by rw [hv]; rfl), rest⟩
            rw [hrv] at hOl
            have hszl := hx1.sz
            have hloR := hx1.lt
            obtain ⟨xs, HXs⟩ : ∃ xs, Hid (xs = (castL (rwN t k)).map (Value.int .i64)) := ⟨_, rfl⟩
            have HXl : Hid (xs.length ≤ 2000) := by show _ ≤ _; rw [HXs.out, List.length_map, castL_len, hql]; omega
            have HXq : Hid (xs.length = q) := by show _ = _; rw [HXs.out, List.length_map, castL_len, hql]
            have HOw : Hid (∀ W : World, W.heap = wk.heap → W.ownsRow lo 3 1 (.slice ar q cr) xs.length xs) := fun W hW => by
              have h1 := vals_of_owns hOl
              rw [← HXs.out] at h1
              exact ownsRow_blocks h1 (fun k _ => by rw [hW])
            have d4 : (wk.alloc (.cells #[.int .i64 (c : Int)] 3)).cell? ⟨bs, 0, none⟩ = some (.slice (some ⟨R, 0, none⟩) m m) := (HE.out.cs _ (hx1.below ((Below.refl _ _).alloc (Nat.le_refl _) _)).st).2.1
            have dR : (wk.alloc (.cells #[.int .i64 (c : Int)] 3)).cell? ⟨R, k, none⟩ = some (.slice ar q cr) := by rw [World.cell?_of_block (Below.heap_alloc wk _ R hgs9)]; exact cR
            have HX1 : Hid (TX H w0 wk l0 R lo m vl1 us1 vs t) := hx1
            have HRV : Hid (rowv vs k = .slice ar q cr) := hrv
            have HEn : Hid (∀ v2 w2, w2.ownsRow lo 3 1 v2 (xs ++ [Value.int .i64 (c : Int)]).length (xs ++ [Value.int .i64 (c : Int)]) → Below lo wk.drew w2 → KeepB (.slice ar q cr) v2 wk.drew w2 → (NearA (.slice ar q cr) v2 xs.length (xs.length + 1) ∨ FarA wk.drew w2 v2) → w2.cell? ⟨R, k, none⟩ = some (.slice ar q cr) ∧ w2.frozen? ⟨R, k, none⟩ = false ∧ w2.cell? ⟨bs, 0, none⟩ = some (.slice (some ⟨R, 0, none⟩) m m) ∧ Hid (AftR H w0 wk l0 R lo m vl1 us1 vs t k c (w2.setCell ⟨R, k, none⟩ v2)) ∧ ∃ a2 m2 k2, v2 = .slice a2 m2 k2) := fun v2 w2 h2 h3 h4 h5 => by
              have hX := HX1.out
              have h3' : Below lo wk w2 := (below_drewN (Below.refl _ _) 1).trans h3
              have h4' : KeepB (.slice ar q cr) v2 wk w2 := ⟨h4.size, h4.block, h4.lies⟩
              have hrb : ∀ j, j < lo → (Value.slice ar q cr).ownBlock ≠ some j := fun j hj e => by rw [← HRV.out] at e; have := hX.rl k hlt j e; omega
              have hob : ∀ j, j < lo → w2.heap[j]? = wk.heap[j]? := fun j hj => h4'.block j (by omega) (hrb j hj)
              have ho : Owns w2 lo v2 (castL (rwN t k ++ [c])) := by
                rw [HXs.out] at h2
                rw [show castL (rwN t k ++ [c]) = castL (rwN t k) ++ [(c : Int)] by simp [castL]]
                exact owns_of_vals h2
              have hk' : KeepB (rowv vs k) v2 wk w2 := by rw [HRV.out]; exact h4'
              have hT := hX.setrow hlt ho h3' hk'
              obtain ⟨a2, c2, hv2⟩ := ho.shape
              have hRR := hob R hloR.2.1
              refine ⟨(World.cell?_of_block (w := wk) (a := ⟨R, k, none⟩) hRR).trans cR, (World.frozen?_of_block (w := wk) (a := ⟨R, k, none⟩) hRR).trans (hfr9 k), (HE.out.cs w2 (fun j j1 j2 j3 => by rw [hob j j1]; exact hX.st j j1 j2 j3)).2.1, ⟨v2, w2, rfl, hk', ?_, hT⟩, a2, _, c2, hv2⟩
              rw [HRV.out, hql]
              rw [HXq.out] at h5
              rcases h5 with z | z
              · exact Or.inl z
              · exact Or.inr ⟨(below_drewN (Below.refl _ _) 1).trans z.1, z.2⟩
            clear hOr hOl hx1 hce9
            go_upto_region 9 with fail
            go_cut [] (fun wz => Hid (AftR H w0 wk l0 R lo m vl1 us1 vs t k c wz))
            case first =>
              go_region_law (refine step_one3 elem_int (w := wk.drew) (N := wk.heap.size) (x := Value.int .i64 (c : Int)) rfl (.tmp 42) (.tmp 44) rfl (by first | (simp [Act.eval]; done) | (simp [Act.eval, Act.put]; done)) (by first | (simp [Act.eval]; done) | (simp [Act.eval, Act.put]; done)) rfl (HOw.out _ rfl) rfl (by have := HXl.out; unfold maxLen; omega) (by have := HXl.out; omega) hszl ?_; intro v2 w2 hO2 hb2 hk2 hn2; obtain ⟨z0, z1, z2, z3, a2, m2, k2, rfl⟩ := HEn.out v2 w2 hO2 hb2 hk2 hn2; clear hO2 hb2 hk2 hn2)
              all_goals go_wp2_with fail
              all_goals go_meet
              all_goals exact z3
            case rest =>
              obtain ⟨wz, hwz'⟩ : ∃ wz, wz = wc := ⟨_, rfl⟩
              subst hwz'
              obtain ⟨v2, w2, hwz, hk2, hn2, hX2⟩ := hcut.out
              have hIc := HIH.out (c + 1) us1 (vs.set k v2) vl1 wz (endN t k c) hX2 (by rw [HU1.out]; have := HU0.out; omega) (fun i hi => by
                rw [lnN_end (by rw [HRm.out]; exact hlt)]
                unfold moreB
                split
                · subst i; rw [HQl.out, ← HPe.out]; omega
                · exact HLe.out i hi) (by
                have h1 := HSs.out
                rw [lnN_end (c := c) (by rw [HRm.out]; exact hlt)]
                have hm2 : lessB (moreB (lnN t) k) k = lnN t := by
                  funext r; unfold lessB moreB
                  by_cases e : r = k
                  · subst r; simp
                  · rw [if_neg e, if_neg e]
                have := sum_dn (y := moreB (lnN t) k) (k := k) (by unfold moreB; rw [if_pos rfl]; omega) m hlt
                rw [hm2] at this
                omega) (by have := HCf.out; omega) (fun l hl => by
                unfold endN at hl
                rcases List.mem_or_eq_of_mem_set hl with z | z
                · exact HBt.out l z
                · have hq : (rwN t k).length = q := HQl.out
                  refine ⟨by rw [z, List.length_append, hq]; simp; omega, fun y hy => ?_⟩
                  rw [z, List.mem_append, List.mem_singleton] at hy
                  rcases hy with y1 | y1
                  · unfold rwN at y1
                    rw [List.getD, List.getElem?_eq_getElem (by rw [HRm.out]; exact hlt)] at y1
                    exact (HBt.out _ (List.getElem_mem _)).2 y y1
                  · omega)
              have HIc : Hid (Calls Tryz.prog 72 #[.int .i64 ((c : Int) + 1), bxP l0, bxP bs, bxP bp, bxP bf] wz fun e w' => e = .returned (.tuple #[]) ∧ Hid (SEnd H w0 wz l0 R lo m vl1 us1 (vs.set k v2) (endN t k c) ((stS (pF zs) m f (endN t k c) (c + 1)).take (2001 - us1.length)) w')) := by
                have h1 := hIc
                rw [show ((c + 1 : Nat) : Int) = (c : Int) + 1 by omega] at h1
                exact h1
              have s5 := (HE.out.cs wz hX2.st).2.2
              have HRd : Hid (∀ w3, SEnd H w0 wz l0 R lo m vl1 us1 (vs.set k v2) (endN t k c) ((stS (pF zs) m f (endN t k c) (c + 1)).take (2001 - us1.length)) w3 → SEnd H w0 w l0 R lo m vl us vs t ((stK (pF zs) m f t c (k + 1)).take (2001 - us.length)) (w3.setCell ⟨R, k, none⟩ (.slice ar q cr)) ∧ w3.cell? ⟨bs, 0, none⟩ = some (.slice (some ⟨R, 0, none⟩) m m) ∧ (∃ y, w3.cell? ⟨R, k, none⟩ = some y) ∧ w3.frozen? ⟨R, k, none⟩ = false) := fun w3 h3 => by
                obtain ⟨vl3, nw3, hx3, hk3, hv3, hE3⟩ := id h3
                rw [hwz] at h3
                have hr := HX1.out.round hlt hk2 hn2 h3
                rw [HRV.out] at hr
                rw [HUs.out] at hr
                have hr2 := SEnd.trans HWz.out HK1.out HV1.out HEl1.out hr
                obtain ⟨g8, n8, cap8, e8, -, hg8, hgs8, hfr8, hce8⟩ := hx3.tb.head (by rw [castT_len, hx3.rm]; omega)
                simp only [Value.slice.injEq, Option.some.injEq, Addr.mk.injEq, and_true] at e8
                obtain ⟨rfl, -, -⟩ := e8
                refine ⟨?_, (HE.out.cs w3 hx3.st).2.1, ⟨_, hce8 k (by rw [castT_len, hx3.rm]; exact hlt)⟩, hfr8 k⟩
                have hcan : canN (pF zs) t k = true := HCan.out
                rw [stK_succ, if_pos hcan, List.take_append]
                rw [← HUs.out, HU1.out, show 2001 - (us.length + min (2001 - us.length) (stK (pF zs) m f t c k).length) = 2001 - us.length - (stK (pF zs) m f t c k).length by omega] at hr2
                exact hr2
              clear hX2 hcut HOw HEn d4 dR hIc hwz hk2 hn2 cR t1 t2 t3 hcp HX1 HRV HSE
              go_wp2_with fail
              refine HIc.out.mono ?_
              rintro e w5 ⟨rfl, HT5⟩
              obtain ⟨hS5, y1, ⟨y2, y3⟩, y4⟩ := HRd.out w5 HT5.out
              have HS5 : Hid (SEnd H w0 w l0 R lo m vl us vs t ((stK (pF zs) m f t c (k + 1)).take (2001 - us.length)) (w5.setCell ⟨R, k, none⟩ (.slice ar q cr))) := hS5
              clear hS5 HIc HRd s5
              go_wp2
              exact ⟨⟨k + 1, false, by omega, by go_num, rfl, fun z => (by cases z), HS5⟩, by simp [intOf]; omega⟩
          · have hqi : ¬ (q : Int) < (q1 : Int) := by omega
            have HS2 : Hid (SEnd H w0 w l0 R lo m vl us vs t ((stK (pF zs) m f t c (k + 1)).take (2001 - us.length)) wk) := by
              have hno : canN (pF zs) t k = false := by
                unfold canN
                have e1 : k - 1 = k1 := by have := HK.out; omega
                have e2 : k ≠ 0 := by have := HK.out; omega
                rw [e1, HQ1.out, HQl.out, ← HPe.out]; simp [hqq, e2]
              show SEnd _ _ _ _ _ _ _ _ _ _ _ _ _
              rw [stK_succ, hno]; simpa using HSE.out
            clear hx1 hce9 HSE
            go_wp2
            exact ⟨⟨k + 1, false, by omega, by go_num, rfl, fun z => (by cases z), HS2⟩, by simp [intOf]; omega⟩
    · have hlt' : ¬ (k : Int) < (m : Int) := by omega
      obtain rfl : k = m := by omega
      cases fb with
      | true =>
        exfalso
        have := sZ_congr (f := fun i => ((lnN t i : Nat) : Int)) (g := fun i => ((pF zs i : Nat) : Int)) k fun i hi => by rw [HFb.out rfl i hi]
        have h2 := HSs.out
        rw [this] at h2
        omega
      | false =>
        have HS2 := hid_t HSE.out
        rw [stK_all] at HS2
        go_wp2
        first | go_end0 | (refine bodyPost_ret (results_none rfl _ _ _) rfl ?_)
        exact ⟨rfl, HS2.out⟩

end Go.Proofs.YtmbpcapjldbkbaaGreatDoor
