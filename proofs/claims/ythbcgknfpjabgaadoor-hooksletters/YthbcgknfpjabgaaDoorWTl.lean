/-
  The closure in fill.tableauxOf: its loop over letters.
-/
import Derived.Test.YthbcgknfpjabgaaDoorWTb
namespace Go.Proofs.YthbcgknfpjabgaaDoor
open Go.RowKit

/-- What the first t letters give. -/
def sS (f : Nat → Nat) (L : Nat) : Nat → Nat
  | 0 => 0
  | t + 1 => sS f L t + f (L + t)
theorem sS_is (f : Nat → Nat) (L : Nat) : ∀ t, ((List.range' L t).map f).sum = sS f L t
  | 0 => rfl
  | t + 1 => by rw [List.range'_1_concat, List.map_append, List.sum_append, sS_is f L t, sS]; simp
theorem tsr_box {zs : List Int} {M m i j : Nat} {g : Nat → Nat → Nat} (hi : i < m) (hj : j < pF zs i) :
    (tsr (hiT zs M) (pF zs) m (rb (pF zs) m i j) g).length = sS (fun x => (tsr (hiT zs M) (pF zs) m (rb (pF zs) m i (j + 1)) (upd2 g i j x)).length) (loT g i j) (hiT zs M i j + 1 - loT g i j) := by
  rw [rb_box hi hj, tsr, List.length_flatMap, sS_is]
theorem loT_pos {g : Nat → Nat → Nat} {i j : Nat} (h : ∀ q, q < j → 1 ≤ g i q) : 1 ≤ loT g i j := by
  unfold loT
  by_cases e : j = 0
  · rw [if_pos e]; omega
  · rw [if_neg e]
    have := h (j - 1) (by omega)
    omega
/-- As the rows stand, whatever their values. -/
def TXs (H : Nat) (w0 : World) (l0 R lo m : Nat) (vl : Value) (us : List Value) (rows : List (List Nat)) (w : World) : Prop := ∃ vs, TX H w0 w l0 R lo m vl us vs rows

set_option maxHeartbeats 8000000 in
set_option maxRecDepth 100000 in
theorem Tb_loop {H : Nat} {w0 w : World} {l0 R lo m bp bs bf bm bh M np cp nh ch i j : Nat} {zs : List Int} {ap ah : Option Addr} {vl : Value} {us vs : List Value} (g : Nat → Nat → Nat) (E : TE w0 l0 R lo m bp bs bf bm bh zs M ap ah np cp nh ch) (h : TX H w0 w l0 R lo m vl us vs (rS (pF zs) g m i j)) (hu : us.length ≤ 2000) (hi : i < m) (hj : j < pF zs i) (hg : ∀ r q, g r q ≤ 1000) (hg1 : ∀ q, q < j → 1 ≤ g i q)
    (IH : ∀ (x : Nat) (us' vs' : List Value) (vl' : Value) (W : World), 1 ≤ x → x ≤ 1000 → TX H w0 W l0 R lo m vl' us' vs' (rS (pF zs) (upd2 g i j x) m i (j + 1)) → us'.length ≤ 2001 → Calls Tryd.prog 22 #[.int .i64 (i : Int), .int .i64 ((j : Int) + 1), bxP l0, bxP bp, bxP bs, bxP bf, bxP bm, bxP bh] W fun e w' => e = .returned (.tuple #[]) ∧ TEnd H w0 l0 R lo m (rS (pF zs) (upd2 g i j x) m i (j + 1)) (min 2001 (us'.length + (tsr (hiT zs M) (pF zs) m (rb (pF zs) m i (j + 1)) (upd2 g i j x)).length)) w') :
    Calls Tryd.prog 22 #[.int .i64 (i : Int), .int .i64 (j : Int), bxP l0, bxP bp, bxP bs, bxP bf, bxP bm, bxP bh] w fun e w' => e = .returned (.tuple #[]) ∧ TEnd H w0 l0 R lo m (rS (pF zs) g m i j) (min 2001 (us.length + (tsr (hiT zs M) (pF zs) m (rb (pF zs) m i j) g).length)) w' := by
  rw [tsr_box hi hj]
  obtain ⟨cT, HcT⟩ : ∃ cT : Nat → Nat, Hid (cT = fun x => (tsr (hiT zs M) (pF zs) m (rb (pF zs) m i (j + 1)) (upd2 g i j x)).length) := ⟨_, rfl⟩
  rw [← HcT.out]
  obtain ⟨L, HL⟩ : ∃ L, Hid (L = loT g i j) := ⟨_, rfl⟩
  obtain ⟨cnt, HCn⟩ : ∃ cnt, Hid (cnt = hiT zs M i j + 1 - L) := ⟨_, rfl⟩
  rw [← HL.out, ← HCn.out]
  have HIH : Hid (∀ (x : Nat) (us' vs' : List Value) (vl' : Value) (W : World), 1 ≤ x → x ≤ 1000 → TX H w0 W l0 R lo m vl' us' vs' (rS (pF zs) (upd2 g i j x) m i (j + 1)) → us'.length ≤ 2001 → Calls Tryd.prog 22 #[.int .i64 (i : Int), .int .i64 ((j : Int) + 1), bxP l0, bxP bp, bxP bs, bxP bf, bxP bm, bxP bh] W fun e w' => e = .returned (.tuple #[]) ∧ Hid (TEnd H w0 l0 R lo m (rS (pF zs) (upd2 g i j x) m i (j + 1)) (min 2001 (us'.length + cT x)) w')) := by
    rw [HcT.out]; exact IH
  have HE : Hid (TE w0 l0 R lo m bp bs bf bm bh zs M ap ah np cp nh ch) := E
  have HU : Hid (us.length ≤ 2000) := hu
  obtain ⟨n0, HN0⟩ : ∃ n0, Hid (n0 = us.length) := ⟨_, rfl⟩
  obtain ⟨av, cv, hvl⟩ := h.shape
  rw [← HN0.out] at hvl
  rw [← HN0.out]
  have hn : n0 ≤ 2000 := by rw [HN0.out]; exact hu
  subst hvl
  have c0 := (cell_oneX h.lb).1
  obtain ⟨s1, s2, s3, s4, s5⟩ := E.cs w h.st
  obtain ⟨b1, o1, hap, hpi⟩ := E.ps w h.st i hi
  subst hap
  have hj0 : j < pF zs 0 := by have := pF_mono E.pt 0 i; rw [Nat.zero_add] at this; omega
  obtain ⟨b2, o2, hah, hhj⟩ := E.hs w h.st j hj0
  subst hah
  obtain ⟨hnp, hnh⟩ := E.hn
  subst hnp
  have hm40 : np ≤ 40 := by rw [E.hm]; exact E.pt.len
  have hnh40 : nh ≤ 40 := by rw [hnh]; exact pF_le E.pt 0
  have hjn : j < nh := by rw [hnh]; exact hj0
  obtain ⟨p, HP⟩ : ∃ p, Hid (p = pF zs i) := ⟨_, rfl⟩
  obtain ⟨ht, HHt⟩ : ∃ ht, Hid (ht = htF zs j) := ⟨_, rfl⟩
  rw [← HP.out] at hpi
  rw [← HHt.out] at hhj
  have hjp : j < p := by rw [HP.out]; exact hj
  have hih : i < ht := by rw [HHt.out]; exact (htF_iff E.pt i j).2 hj
  have hht : ht ≤ 40 := by rw [HHt.out]; have := htF_le E.pt j; have := E.pt.len; omega
  have hM := E.hM
  have hL1 : 1 ≤ L := by rw [HL.out]; exact loT_pos hg1
  have hL2 : L ≤ 1001 := by
    rw [HL.out]; unfold loT
    have a1 := hg i (j - 1)
    have a2 := hg (i - 1) j
    split <;> split <;> omega
  obtain ⟨bj, HBj⟩ : ∃ bj, Hid (bj = ht - 1 - i) := ⟨_, rfl⟩
  have e1 : (ht : Int) - 1 - (i : Int) = (bj : Int) := by have := HBj.out; omega
  obtain ⟨G, HG⟩ : ∃ G : Int, Hid (G = (M : Int) - (bj : Int)) := ⟨_, rfl⟩
  have eG : (M : Int) - (bj : Int) = G := HG.out.symm
  have hGb : -100 ≤ G ∧ G ≤ 99 := by have := HBj.out; omega
  have HGc : Hid (∀ t : Nat, (((L + t : Nat) : Int) ≤ G ↔ t < cnt)) := fun t => by
    have h1 := HCn.out
    have h2 := HBj.out
    have h3 := HG.out
    unfold hiT at h1
    rw [← HHt.out] at h1
    omega
  have HX : Hid (TX H w0 w l0 R lo np (.slice av n0 cv) us vs (rS (pF zs) g np i j)) := h
  have HLe : Hid (∀ W, Below w.heap.size w W → Calls Tryd.prog 24 #[.slice (some ⟨R, 0, none⟩) np np, .int .i64 (i : Int), .int .i64 (j : Int)] W fun e w' => e = .returned (.int .i64 (L : Int)) ∧ w' = W) := fun W hW => by
    rw [HL.out]
    have hbd := castT_bdX (rS_bd (c := pF zs) (g := g) (m := np) (i := i) (j := j) (fun r => by have := pF_le E.pt r; omega) (by omega) hg)
    obtain ⟨at', nt, ct, et, hT, HNt⟩ := (show Tbl W R _ _ from ⟨vs, (HX.out.below hW).tb⟩).table (fun l hl => (hbd l hl).2)
    simp only [Value.slice.injEq] at et
    obtain ⟨rfl, rfl, rfl⟩ := et
    exact leastAt_at _ np np (pF zs) g np i j W hT rfl (by omega) hi hj (pF_anti E.pt) (by omega) hg (fun r => by have := pF_le E.pt r; omega)
  have HGg : Hid ((∀ r q, g r q ≤ 1000)) := hg
  have hgt : ¬ ((n0 : Int) > 2000) := by omega
  have hne : ((i : Int) == (np : Int)) = false := by simp; omega
  have hilt : (i : Int) < (np : Int) := by omega
  have hjne : ((j : Int) == (p : Int)) = false := by simp; omega
  have hjlt : (j : Int) < (nh : Int) := by omega
  clear h hu E hg hg1 IH hj hj0 hnh
  go_enter Tryd.func22, Tryd.ntmps22
  go_upto_region 5 with fail
  go_quiet (fail)
  go_wp2_with fail
  refine (HLe.out _ (below_drewN (Below.refl _ _) _)).mono ?_
  rintro e w1 ⟨rfl, hw1⟩
  have HX1 : Hid (TX H w0 w1 l0 R lo np (.slice av n0 cv) us vs (rS (pF zs) g np i j)) := HX.out.below (by rw [hw1]; exact below_drewN (Below.refl _ _) _)
  clear hw1 HLe HX c0 s1 s2 s3 s4 s5 hpi hhj
  go_wp2_with fail
  go_loopw [11] (fun xv wr => ∃ (x t : Nat) (vl : Value) (us vs : List Value), xv = .int .i64 (x : Int) ∧ Hid (x = L + t) ∧ x ≤ 2000 ∧ Hid (t ≤ cnt) ∧ Hid (TX H w0 wr l0 R lo np vl us vs (rS (pF zs) g np i j)) ∧ Hid (us.length = min 2001 (n0 + sS cT L t))) (fun xv _ => 3000 - (intOf xv).toNat)
  case atStart => exact ⟨L, 0, _, _, _, rfl, rfl, by omega, Nat.zero_le _, HX1, by show _ = _; rw [← HN0.out, sS]; omega⟩
  case round =>
    clear HX1
    obtain ⟨x, t, vl, us, vs, rfl, HXt, hx2, HTc, HX, HUl⟩ := hrel
    obtain ⟨wk, hwk⟩ : ∃ wk, wk = wr := ⟨_, rfl⟩
    subst hwk
    by_cases hxG : (x : Int) ≤ G
    · have HTlt : Hid (t < cnt) := by rw [HXt.out] at hxG; exact (HGc.out t).1 hxG
      have hx1 : 1 ≤ x := by have := HXt.out; omega
      have hx99 : x ≤ 99 := by omega
      have hrl : i < (castT (rS (pF zs) g np i j)).length := by rw [castT_len, rS_len]; exact hi
      have hOr := HX.out.tb.rows i hrl
      rw [castT_at, rS_row hi, if_neg (by omega), if_pos rfl] at hOr
      have hOl : Owns wk lo (rowv vs i) (castL ((List.range j).map (g i))) := by
        refine ⟨hOr.1, ?_⟩
        rcases hOr.2 with q | ⟨gg, cp', cur, hv, hgg, rest⟩
        · exact Or.inl q
        · exact Or.inr ⟨gg, cp', cur, hv, HX.out.rl i hi gg (by rw [hv]; rfl), rest⟩
      obtain ⟨ar, cr, hrv⟩ := hOl.shape
      rw [castL_len, List.length_map, List.length_range] at hrv
      rw [hrv] at hOl
      have HRV : Hid (rowv vs i = .slice ar j cr) := hrv
      obtain ⟨g9, n9, cap9, e9, -, hg9, hgs9, hfr9, hce9⟩ := HX.out.tb.head (by omega)
      simp only [Value.slice.injEq, Option.some.injEq, Addr.mk.injEq, and_true] at e9
      obtain ⟨rfl, -, -⟩ := e9
      have cR : wk.cell? ⟨R, i, none⟩ = some (.slice ar j cr) := by rw [hce9 i hrl, hrv]
      obtain ⟨-, -, -, t4, -⟩ := HE.out.cs wk HX.out.st
      have hlo := HX.out.lt
      have hszl := HX.out.sz
      obtain ⟨xs, HXs⟩ : ∃ xs, Hid (xs = (castL ((List.range j).map (g i))).map (Value.int .i64)) := ⟨_, rfl⟩
      have HXl : Hid (xs.length ≤ 2000) := by show _ ≤ _; rw [HXs.out, List.length_map, castL_len, List.length_map, List.length_range]; have := pF_le HE.out.pt i; have := HP.out; omega
      have HOw : Hid (∀ W : World, W.heap = wk.heap → W.ownsRow lo 3 1 (.slice ar j cr) xs.length xs) := fun W hW => by
        have h1 := vals_of_owns hOl
        rw [← HXs.out] at h1
        exact ownsRow_blocks h1 (fun k _ => by rw [hW])
      have d4 : (wk.alloc (.cells #[.int .i64 (x : Int)] 3)).cell? ⟨bs, 0, none⟩ = some (.slice (some ⟨R, 0, none⟩) np np) := (HE.out.cs _ (HX.out.below ((Below.refl _ _).alloc (Nat.le_refl _) _)).st).2.2.2.1
      have dR : (wk.alloc (.cells #[.int .i64 (x : Int)] 3)).cell? ⟨R, i, none⟩ = some (.slice ar j cr) := by rw [World.cell?_of_block (Below.heap_alloc wk _ R hgs9)]; exact cR
      have HEn : Hid (∀ W v2 w2, Below wk.heap.size wk W → w2.ownsRow lo 3 1 v2 (xs ++ [Value.int .i64 (x : Int)]).length (xs ++ [Value.int .i64 (x : Int)]) → Below lo W w2 → KeepB (.slice ar j cr) v2 W w2 → w2.cell? ⟨R, i, none⟩ = some (.slice ar j cr) ∧ w2.frozen? ⟨R, i, none⟩ = false ∧ w2.cell? ⟨bs, 0, none⟩ = some (.slice (some ⟨R, 0, none⟩) np np) ∧ Hid (TXs H w0 l0 R lo np vl us (rS (pF zs) (upd2 g i j x) np i (j + 1)) (w2.setCell ⟨R, i, none⟩ v2)) ∧ ∃ a2 m2 k2, v2 = .slice a2 m2 k2) := fun W v2 w2 hW h2 h3 h4 => by
        have hX := HX.out.below hW
        have hrb : ∀ k, k < lo → (Value.slice ar j cr).ownBlock ≠ some k := fun k hk e => by rw [← HRV.out] at e; have := hX.rl i hi k e; omega
        have hob : ∀ k, k < lo → w2.heap[k]? = W.heap[k]? := fun k hk => h4.block k (by have := hW.size; omega) (hrb k hk)
        have hRW : W.heap[R]? = wk.heap[R]? := hW.block R hgs9
        have hRR : w2.heap[R]? = wk.heap[R]? := (hob R hlo.2.1).trans hRW
        have ho : Owns w2 lo v2 (castL ((List.range j).map (g i) ++ [x])) := by
          rw [HXs.out] at h2
          rw [show castL ((List.range j).map (g i) ++ [x]) = castL ((List.range j).map (g i)) ++ [(x : Int)] by simp [castL]]
          exact owns_of_vals h2
        have hk : KeepB (rowv vs i) v2 W w2 := by rw [HRV.out]; exact h4
        have hT := hX.setrow hi ho h3 hk
        rw [rS_put] at hT
        obtain ⟨a2, c2, hv2⟩ := ho.shape
        refine ⟨(World.cell?_of_block (w := wk) (a := ⟨R, i, none⟩) hRR).trans cR, (World.frozen?_of_block (w := wk) (a := ⟨R, i, none⟩) hRR).trans (hfr9 i), ?_, ⟨_, hT⟩, a2, _, c2, hv2⟩
        exact (HE.out.cs w2 (fun k k1 k2 k3 => by rw [hob k k1]; exact hX.st k k1 k2 k3)).2.2.2.1
      clear hOr hOl hce9 hfr9
      go_upto_region 9 with fail
      go_cut [] (fun wz => Hid (TXs H w0 l0 R lo np vl us (rS (pF zs) (upd2 g i j x) np i (j + 1)) wz))
      case first =>
        go_region_law (refine step_one elem_int (w := wk.drew) (N := wk.heap.size) (x := Value.int .i64 (x : Int)) rfl (.tmp 57) (.tmp 59) rfl (by first | (simp [Act.eval]; done) | (simp [Act.eval, Act.put]; done)) (by first | (simp [Act.eval]; done) | (simp [Act.eval, Act.put]; done)) rfl (HOw.out _ rfl) rfl (by have := HXl.out; unfold maxLen; omega) (by have := HXl.out; omega) hszl ?_; intro v2 w2 hO2 hb2 hk2; obtain ⟨z0, z1, z2, z3, a2, m2, k2, rfl⟩ := HEn.out _ v2 w2 (below_drewN (Below.refl _ _) 1) hO2 hb2 hk2; clear hO2 hb2 hk2)
        all_goals go_wp2_with fail
        all_goals go_meet
        all_goals exact z3
      case rest =>
        obtain ⟨vs3, hX3⟩ := hcut.out
        obtain ⟨wz, hwz⟩ : ∃ wz, wz = wc := ⟨_, rfl⟩
        subst hwz
        have HIc := hid_t (HIH.out x us vs3 vl wz hx1 (by omega) hX3 (by rw [HUl.out]; omega))
        have s5 := (HE.out.cs wz hX3.st).2.2.2.2
        clear hX3 hcut HOw HEn cR d4 dR t4 hgs9 hg9 hrl hrv HRV HXs HXl HX hszl hlo
        go_wp2_with fail
        refine HIc.out.mono ?_
        rintro e w5 ⟨rfl, HT5⟩
        obtain ⟨vl5, us5, vs5, hX5, hu5⟩ := HT5.out
        have hrl : i < (castT (rS (pF zs) (upd2 g i j x) np i (j + 1))).length := by rw [castT_len, rS_len]; exact hi
        have hOr := hX5.tb.rows i hrl
        rw [castT_at, rS_row hi, if_neg (by omega), if_pos rfl] at hOr
        obtain ⟨h5, c5, hv5, hl5, hs5, -, -⟩ := hOr.head (by rw [castL_len, List.length_map, List.length_range]; omega)
        rw [castL_len, List.length_map, List.length_range] at hv5
        obtain ⟨j1, HJ1⟩ : ∃ j1, Hid (j1 = j + 1) := ⟨_, rfl⟩
        rw [← HJ1.out] at hv5
        have hcap : j ≤ c5 ∧ c5 ≤ maxLen := by
          rcases hOr.2 with ⟨q, _⟩ | ⟨gg, cc, cur, q1, q2, q3, q4, q5, q6, q7⟩
          · rw [hv5] at q; cases q
          · rw [hv5] at q1
            simp only [Value.slice.injEq] at q1
            obtain ⟨-, -, rfl⟩ := q1
            rw [castL_len, List.length_map, List.length_range] at q4
            exact ⟨by omega, q5⟩
        have HX6 : Hid (∀ W, Below w5.heap.size w5 W → TX H w0 (W.setCell ⟨R, i, none⟩ (.slice (some ⟨h5, 0, none⟩) j c5)) l0 R lo np vl5 us5 (vs5.set i (.slice (some ⟨h5, 0, none⟩) j c5)) (rS (pF zs) g np i j)) := fun W hW => by
          have hX := hX5.below hW
          have hOl : Owns W lo (.slice (some ⟨h5, 0, none⟩) j1 c5) (castL ((List.range (j + 1)).map (upd2 g i j x i))) := by
            have hO := hX.tb.rows i hrl
            rw [castT_at, rS_row hi, if_neg (by omega), if_pos rfl, hv5] at hO
            refine ⟨hO.1, ?_⟩
            rcases hO.2 with q | ⟨gg, cp', cur, hv, hgg, rest⟩
            · exact Or.inl q
            · exact Or.inr ⟨gg, cp', cur, hv, hX.rl i hi gg (by rw [hv5, hv]; rfl), rest⟩
          have hc := hOl.cutX (m := j) (by rw [castL_len, List.length_map, List.length_range]; omega) (fun e => by cases e)
          have ec : (castL ((List.range (j + 1)).map (upd2 g i j x i))).take j = castL ((List.range j).map (g i)) := by
            unfold castL
            rw [← List.map_take, ← List.map_take, List.take_range, Nat.min_eq_left (by omega)]
            congr 1
            exact List.map_congr_left fun q hq => upd2_other g (by have := List.mem_range.1 hq; omega)
          rw [ec] at hc
          have hT := hX.setrow hi hc (Below.refl _ _) ⟨Nat.le_refl _, fun _ _ _ => rfl, fun gg hgg => Or.inl (by rw [hv5]; cases hgg; rfl)⟩
          rw [rS_cut] at hT
          exact hT
        obtain ⟨g9, n9, cap9, e9, -, hg9, hgs9, hfr9, hce9⟩ := hX5.tb.head (by omega)
        simp only [Value.slice.injEq, Option.some.injEq, Addr.mk.injEq, and_true] at e9
        obtain ⟨rfl, -, -⟩ := e9
        have cR : w5.cell? ⟨R, i, none⟩ = some (.slice (some ⟨h5, 0, none⟩) j1 c5) := by rw [hce9 i hrl, hv5]
        have fR : w5.frozen? ⟨R, i, none⟩ = false := hfr9 i
        have t4 := (HE.out.cs w5 hX5.st).2.2.2.1
        have hc1 : (j : Int) ≤ (c5 : Int) := by omega
        have hc2 : c5 ≤ 9223372036854775807 := by have := hcap.2; unfold maxLen at this; omega
        have HU5 : Hid (us5.length = min 2001 (n0 + sS cT L (t + 1))) := by
          show _ = _
          rw [hu5, HUl.out, sS, ← HXt.out]; omega
        clear hX5 hOr hfr9 hce9 hu5 HT5 HIc hv5 hcap hl5 hs5
        go_upto_region 11 with fail
        go_region
        all_goals go_wp2
        all_goals go_roundw
        all_goals first
          | exact ⟨x + 1, t + 1, vl5, us5, _, by go_num, by show _ = _; have := HXt.out; omega, by omega, by have := HTlt.out; show _ ≤ _; omega, HX6.out _ (below_drewN (Below.refl _ _) _), HU5⟩
          | (simp [intOf]; omega)
    · have hT : t = cnt := by
        have h1 := HTc.out
        have h2 : ¬ t < cnt := fun z => hxG (by rw [HXt.out]; exact (HGc.out t).2 z)
        omega
      have HEnd : Hid (TEnd H w0 l0 R lo np (rS (pF zs) g np i j) (min 2001 (n0 + sS cT L cnt)) wk) := ⟨vl, us, vs, HX.out, by rw [HUl.out, hT]⟩
      clear hT
      go_wp2
      first | go_end0 | (refine bodyPost_ret (results_none rfl _ _ _) rfl ?_)
      exact ⟨rfl, HEnd.out⟩

end Go.Proofs.YthbcgknfpjabgaaDoor
