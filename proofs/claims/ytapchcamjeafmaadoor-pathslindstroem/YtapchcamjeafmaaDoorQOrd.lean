/-
  ferkeep.orders: the orders of so many numbers, each with its sign.
-/
import Derived.Test.YtapchcamjeafmaaDoorQInv
import Derived.Test.YtapchcamjeafmaaDoorQWit
import Derived.Test.YtapchcamjeafmaaDoorQLin
import Derived.Test.YtapchcamjeafmaaDoorTTab
import Derived.Deep.CutBlock
namespace Go.Proofs.YtapchcamjeafmaaDoor
open Go.RowKit

/-- What is made out of one order: the first k. -/
def gwL (n : Nat) (p : List Nat × Int) (k : Nat) : List (List Nat × Int) := (List.range k).map fun k => (p.1.take k ++ n :: p.1.drop k, if (p.1.length - k) % 2 = 1 then -p.2 else p.2)
theorem gw_succ (n : Nat) (p : List Nat × Int) (k : Nat) : gwL n p (k + 1) = gwL n p k ++ [(p.1.take k ++ n :: p.1.drop k, if (p.1.length - k) % 2 = 1 then -p.2 else p.2)] := by
  unfold gwL; rw [List.range_succ, List.map_append]; rfl
def orL (n i k : Nat) : List (List Nat × Int) := ((ordL n).take i).flatMap (fun p => gwL n p (n + 1)) ++ gwL n ((ordL n).getD i ([], 1)) k
theorem or_next {n i : Nat} (hi : i < (ordL n).length) : orL n (i + 1) 0 = orL n i (n + 1) := by
  unfold orL
  rw [List.take_succ_eq_append_getElem hi, List.flatMap_append]
  simp [gwL, List.getD, List.getElem?_eq_getElem hi]
theorem or_all (n : Nat) : orL n (ordL n).length 0 = ordL (n + 1) := by
  unfold orL
  rw [List.take_length, ordL]
  have e : gwL n ((ordL n).getD (ordL n).length ([], 1)) 0 = [] := rfl
  rw [e, List.append_nil]
  rw [List.flatMap_def, List.flatMap_def]
  congr 1
  apply List.map_congr_left
  intro p hp
  rw [ordL_len n p hp]
  unfold gwL
  rw [ordL_len n p hp]
theorem or_len {n i k : Nat} (hi : i ≤ (ordL n).length) : (orL n i k).length = i * (n + 1) + k := by
  have key : ∀ (X : List (List Nat × Int)), (X.flatMap fun p => gwL n p (n + 1)).length = X.length * (n + 1) := by
    intro X
    induction X with
    | nil => simp
    | cons a X ih => rw [List.flatMap_cons, List.length_append, ih, List.length_cons, Nat.add_mul, Nat.one_mul, gwL, List.length_map, List.length_range]; omega
  unfold orL
  rw [List.length_append, key, List.length_take, Nat.min_eq_left hi, gwL, List.length_map, List.length_range]
def rwO (X : List (List Nat × Int)) : List (List Int) := X.map fun p => wyZ p.1
def sgO (X : List (List Nat × Int)) : List Int := X.map (·.2)
theorem or_step (n i k : Nat) (p : List Nat × Int) (hp : p = (ordL n).getD i ([], 1)) (hl : (wyZ p.1).length = n) : rwO (orL n i (k + 1)) = rwO (orL n i k) ++ [(wyZ p.1).take k ++ (n : Int) :: (wyZ p.1).drop k] ∧ sgO (orL n i (k + 1)) = sgO (orL n i k) ++ [if (n - k) % 2 = 1 then -p.2 else p.2] := by
  unfold orL
  rw [← hp, gw_succ, ← List.append_assoc]
  have e : p.1.length = n := by rw [← hl, wyZ, List.length_map]
  constructor
  · unfold rwO
    rw [List.map_append]
    congr 1
    simp [wyZ, List.map_take, List.map_drop]
  · unfold sgO
    rw [List.map_append, e]
    rfl
theorem ord_facts {n : Nat} (h : n ≤ 4) : 0 < (ordL n).length ∧ (ordL n).length ≤ 24 ∧ ∀ p ∈ ordL n, (p.2 = 1 ∨ p.2 = -1) ∧ ∀ z ∈ wyZ p.1, 0 ≤ z ∧ z ≤ 4 := by
  have key : (decide (0 < (ordL n).length) && (decide ((ordL n).length ≤ 24) && (ordL n).all fun p => (decide (p.2 = 1) || decide (p.2 = -1)) && (wyZ p.1).all fun z => decide (0 ≤ z ∧ z ≤ 4))) = true := by
    match n, h with
    | 0, _ => decide
    | 1, _ => decide
    | 2, _ => decide
    | 3, _ => decide
    | 4, _ => decide +kernel
  simp only [Bool.and_eq_true, Bool.or_eq_true, decide_eq_true_eq, List.all_eq_true] at key
  exact ⟨key.1, key.2.1, key.2.2⟩
def OwnsL (w : World) (base : Nat) (v : Value) (zs : List Int) : Prop := w.ownsRow base 2 1 v (zs.map (Value.int .i64)).length (zs.map (Value.int .i64))
theorem OwnsL.open {w : World} {lo : Nat} {v : Value} {zs : List Int} (h : OwnsL w lo v zs) (h0 : 0 < zs.length) : ∃ g cap, v = .slice (some ⟨g, 0, none⟩) zs.length cap ∧ g < w.heap.size ∧ ∀ i, i < zs.length → w.cell? ⟨g, i, none⟩ = some (.int .i64 (zs.getD i 0)) := by
  have h' : w.ownsRow lo 2 1 v (zs.map (Value.int .i64)).length (zs.map (Value.int .i64)) := h
  rcases h.2 with ⟨h2, h3⟩ | ⟨g, cap, cur, hv, hg, hh, h4, h5, h6, h7⟩
  · rw [List.length_map] at h3; omega
  · rw [List.length_map] at hv
    refine ⟨g, cap, hv, (Array.getElem?_eq_some_iff.1 hh).1, fun q hq => ?_⟩
    rw [hv, List.length_map] at h'
    have e := World.ownsRow.cellAt h' q (by omega)
    rw [e, List.getElem?_map]
    simp [List.getD, List.getElem?_eq_getElem hq]
theorem Tbl.open2 {w : World} {lo : Nat} {v : Value} {ls : List (List Int)} (h : Tbl w lo v ls) (h0 : 0 < ls.length) : ∃ g cap vs, v = .slice (some ⟨g, 0, none⟩) ls.length cap ∧ g < w.heap.size ∧ (∀ i, i < ls.length → w.cell? ⟨g, i, none⟩ = some (rowv vs i)) ∧ ∀ i, i < ls.length → Owns w lo (rowv vs i) (ls.getD i []) := by
  obtain ⟨vs, hV⟩ := h
  obtain ⟨g, n, cap, h1, h2, h3, h4, h5, h6⟩ := hV.head h0
  exact ⟨g, cap, vs, by rw [h1, h2.out], h4, h6, hV.rows⟩
theorem ownsRow_tag {w : World} {lo lo' : Nat} {e e' : TypeId} {s s' n n' : Nat} {v v' : Value} {xs xs' : List Value} (h : w.ownsRow lo e s v n xs) (h' : w.ownsRow lo' e' s' v' n' xs') (hne : e ≠ e') : ∀ k, v.ownBlock = some k → v'.ownBlock ≠ some k := by
  intro k hk hk'
  rcases h.2 with ⟨h2, -⟩ | ⟨g, cap, cur, hv, -, hh, -⟩
  · rw [h2] at hk; cases hk
  · rcases h'.2 with ⟨h2', -⟩ | ⟨g', cap', cur', hv', -, hh', -⟩
    · rw [h2'] at hk'; cases hk'
    · rw [hv] at hk; rw [hv'] at hk'
      cases hk; cases hk'
      rw [hh] at hh'
      simp at hh'
      exact hne hh'.2
theorem Tbl.keepL {w w' : World} {lo lo2 : Nat} {v sv sv' : Value} {ls : List (List Int)} {zs : List Int} (h : Tbl w lo v ls) (hs : OwnsL w lo2 sv zs) (hk : KeepB sv sv' w w') : Tbl w' lo v ls := by
  obtain ⟨vs, hV⟩ := h
  refine ⟨vs, ownsRow_blocks hV.own (fun k e => hk.block k (hV.own.lt k e).2 (fun e2 => ownsRow_tag hV.own hs (by decide) k e e2)), hV.len, fun i hi => ownsRow_blocks (hV.rows i hi) (fun k e => hk.block k ((hV.rows i hi).lt e).2 (fun e2 => ownsRow_tag (hV.rows i hi) hs (by decide) k e e2)), hV.apart, hV.off⟩
theorem OwnsL.keepT {w w' : World} {lo lo2 : Nat} {v v' sv : Value} {n : Nat} {xs : List Value} {zs : List Int} (hs : OwnsL w lo2 sv zs) (hv : w.ownsRow lo 36 1 v n xs) (hk : KeepB v v' w w') : OwnsL w' lo2 sv zs :=
  ownsRow_blocks hs (fun k e => hk.block k (hs.lt k e).2 (fun e2 => ownsRow_tag hv hs (by decide) k e2 e))

set_option maxHeartbeats 8000000 in
set_option maxRecDepth 100000 in
theorem ord_at : ∀ (n : Nat), n ≤ 4 → ∀ (w : World), Calls Tryd.prog 6 #[.int .i64 (n : Int)] w fun e w' => ∃ tv sv, e = .returned (.tuple #[tv, sv]) ∧ Hid (Tbl w' w.heap.size tv (rwO (ordL n))) ∧ Hid (OwnsL w' w.heap.size sv (sgO (ordL n))) ∧ Hid (Below w.heap.size w w')
  | 0, _, w => by
    obtain ⟨W, HW⟩ : ∃ W, Hid (W = (w.alloc (.cells #[.slice none 0 0] 36)).alloc (.cells #[.int .i64 1] 2)) := ⟨_, rfl⟩
    have hs1 : (w.alloc (.cells #[.slice none 0 0] 36)).heap.size = w.heap.size + 1 := by simp
    have h1 : W.heap[w.heap.size]? = some (.cells #[.slice none 0 0] 36 (0, 0)) := by
      rw [HW.out]
      show ((w.heap.push _).push _)[w.heap.size]? = _
      rw [Array.getElem?_push, if_neg (by simp), Array.getElem?_push_size]
    have h2 : W.heap[w.heap.size + 1]? = some (.cells #[.int .i64 1] 2 (0, 0)) := by rw [HW.out, ← hs1]; exact heap_alloc_lastX _ _
    have HB : Hid (Below w.heap.size w W) := by rw [HW.out]; exact ((Below.refl _ _).alloc (Nat.le_refl _) _).alloc (by simp) _
    have HT : Hid (Tbl W w.heap.size (.slice (some ⟨w.heap.size, 0, none⟩) 1 1) (rwO (ordL 0))) := by
      refine ⟨[.slice none 0 0], ⟨rfl, Or.inr ⟨w.heap.size, 1, _, rfl, Nat.le_refl _, h1, Nat.le_refl _, by unfold maxLen; omega, rfl, rfl⟩⟩, rfl, fun i hi => ?_, fun i j hi hj hij => ?_, fun i hi => ?_⟩
      · have : i < 1 := hi
        obtain rfl : i = 0 := by omega
        exact ⟨rfl, Or.inl ⟨rfl, rfl⟩⟩
      · have : i < 1 := hi
        have : j < 1 := hj
        omega
      · have : i < 1 := hi
        obtain rfl : i = 0 := by omega
        exact (apart_nil _).symm
    have HS : Hid (OwnsL W w.heap.size (.slice (some ⟨w.heap.size + 1, 0, none⟩) 1 1) (sgO (ordL 0))) := ⟨rfl, Or.inr ⟨w.heap.size + 1, 1, _, rfl, by omega, h2, Nat.le_refl _, by unfold maxLen; omega, rfl, rfl⟩⟩
    clear h1 h2 hs1
    go_enter Tryd.func6, Tryd.ntmps6
    go_wp2_with fail
    go_ret2
    exact ⟨_, _, rfl, by first | (rw [← HW.out]; exact HT) | exact HT, by first | (rw [← HW.out]; exact HS) | exact HS, by first | (rw [← HW.out]; exact HB) | exact HB⟩
  | n + 1, h4, w => by
    have IH := hid_w (ord_at n (by omega) w)
    obtain ⟨N, HN⟩ : ∃ N, Hid (N = n + 1) := ⟨_, rfl⟩
    have hN : N = n + 1 := HN.out
    have hN1 : (N : Int) - 1 = (n : Int) := by omega
    have hN0 : ¬ N = 0 := by omega
    rw [← hN]
    rw [← hN] at h4
    obtain ⟨hf1, hf2, hf3⟩ := ord_facts (n := n) (by omega)
    obtain ⟨m, HM⟩ : ∃ m, Hid (m = (ordL n).length) := ⟨_, rfl⟩
    have HF := hid_w hf3
    rw [← HM.out] at hf1 hf2
    clear hN hf3
    go_enter Tryd.func6, Tryd.ntmps6
    go_upto_region 4 with (go_at_call 6; with_reducible (refine IH.out.mono ?_); rintro e W1 ⟨tv, sv, rfl, HT1, HS1, HB1⟩)
    clear IH
    obtain ⟨g, cap, vs, hv, hg, hcell, hown⟩ := HT1.out.open2 (by unfold rwO; rw [List.length_map, ← HM.out]; exact hf1)
    obtain ⟨sg, scap, hsv, hsg, hscell⟩ := HS1.out.open (by unfold sgO; rw [List.length_map, ← HM.out]; exact hf1)
    subst hv hsv
    have hlen : (rwO (ordL n)).length = m := by unfold rwO; rw [List.length_map, HM.out]
    have hslen : (sgO (ordL n)).length = m := by unfold sgO; rw [List.length_map, HM.out]
    rw [hlen] at hcell hown ⊢
    rw [hslen] at hscell ⊢
    have HCl := hid_w hcell
    have HOw := hid_w hown
    have HSc := hid_w hscell
    clear hcell hown hscell hlen hslen
    obtain ⟨L, HL⟩ : ∃ L, Hid (L = W1.heap.size) := ⟨_, rfl⟩
    go_wp2_with fail
    go_loopw [22, 2, 3] (fun iv tv sv wr => ∃ i : Nat, i ≤ m ∧ iv = .int .i64 (i : Int) ∧ Hid (Tbl wr L tv (rwO (orL n i 0))) ∧ Hid (OwnsL wr L sv (sgO (orL n i 0))) ∧ Hid (Below L W1 wr)) (fun iv _ _ _ => m - (intOf iv).toNat)
    case atStart => exact ⟨0, Nat.zero_le _, rfl, by show Tbl _ _ _ _; exact Tbl.nil _ _, hid_w (World.ownsRow_nil _ _ _ _), hid_w (Below.refl _ _)⟩
    case round =>
      obtain ⟨i, hi, rfl, HT, HS, HB⟩ := hrel
      by_cases hlt : i < m
      · have hlt' : (i : Int) < (m : Int) := by omega
        obtain ⟨p, HP⟩ : ∃ p, Hid (p = (ordL n).getD i ([], 1)) := ⟨_, rfl⟩
        have hpm : p ∈ ordL n := by
          rw [HP.out]
          have : i < (ordL n).length := by rw [← HM.out]; exact hlt
          simp [List.getD, List.getElem?_eq_getElem this]
        have hpl : (wyZ p.1).length = n := way_len hpm
        have HPl : Hid ((wyZ p.1).length = n) := hpl
        have hpf := HF.out p hpm
        have HPf := hid_w hpf
        have hrow : (rwO (ordL n)).getD i [] = wyZ p.1 := by
          have : i < (ordL n).length := by rw [← HM.out]; exact hlt
          rw [HP.out]; simp [rwO, List.getD, List.getElem?_eq_getElem this]
        have hsgn : (sgO (ordL n)).getD i 0 = p.2 := by
          have : i < (ordL n).length := by rw [← HM.out]; exact hlt
          rw [HP.out]; simp [sgO, List.getD, List.getElem?_eq_getElem this]
        have ho := HOw.out i hlt
        rw [hrow] at ho
        obtain ⟨pa, pc, hps⟩ := ho.shape
        rw [hpl] at hps
        have hc := HCl.out i hlt
        have hs := HSc.out i hlt
        rw [hsgn] at hs
        rw [hps] at hc ho
        have HOp : Hid (Owns W1 w.heap.size (.slice pa n pc) (wyZ p.1)) := ho
        have HSp : Hid (W1.cell? ⟨sg, i, none⟩ = some (.int .i64 p.2)) := hs
        have HG := hid_w (And.intro hg hsg)
        have hcr : wr.cell? ⟨g, i, none⟩ = some (.slice pa n pc) := (HB.out.cell (p := ⟨g, i, none⟩) (by rw [HL.out]; exact hg)).trans hc
        have HNx : Hid (orL n (i + 1) 0 = orL n i (n + 1)) := or_next (by rw [← HM.out]; exact hlt)
        clear hrow hsgn ho hc hs hps hpl hpf hg hsg hpm
        go_wp2_with fail
        go_loopw [8, 2, 3] (fun kv tv sv wr => ∃ k : Nat, k ≤ N ∧ kv = .int .i64 (k : Int) ∧ Hid (Tbl wr L tv (rwO (orL n i k))) ∧ Hid (OwnsL wr L sv (sgO (orL n i k))) ∧ Hid (Below L W1 wr)) (fun kv _ _ _ => N - (intOf kv).toNat)
        case atStart => exact ⟨0, Nat.zero_le _, rfl, HT, HS, HB⟩
        case round =>
          clear HT HS HB hcr
          obtain ⟨k, hk, rfl, HT, HS, HB⟩ := hrel
          by_cases hkl : k ≤ n
          · have hkl' : (k : Int) ≤ (n : Int) := by omega
            have hn3 : n ≤ 3 := by have := HN.out; omega
            have HBz : Hid (wr.heap.size ≥ L) := by show L ≤ _; have := HB.out.size; rw [HL.out]; exact this
            have HB1r : Hid (Below W1.heap.size W1 wr) := by rw [← HL.out]; exact HB.out
            have HLn : Hid ((rwO (orL n i k)).length ≤ 200) := by
              show _ ≤ _
              unfold rwO
              rw [List.length_map, or_len (by rw [← HM.out]; omega)]
              have : i * (n + 1) ≤ 24 * 4 := Nat.mul_le_mul (by omega) (by omega)
              omega
            have HSn : Hid ((sgO (orL n i k)).length ≤ 200) := by
              show _ ≤ _
              unfold sgO
              rw [List.length_map, or_len (by rw [← HM.out]; omega)]
              have : i * (n + 1) ≤ 24 * 4 := Nat.mul_le_mul (by omega) (by omega)
              omega
            obtain ⟨vs2, hV⟩ := HT.out
            have HV := hid_w hV
            have HV2 : Hid (vs2.length ≤ 200) := by show _ ≤ _; rw [hV.len]; exact HLn.out
            clear hV
            have HCc := hid_w (CloneI_own (.slice pa n pc) (wyZ p.1) w.heap.size wr (HOp.out.below HB1r.out) (by rw [HPl.out]; omega) (fun z hz => by have := HPf.out.2 z hz; omega))
            have HCi : Hid (∀ (v : Value) (W : World), Owns W wr.heap.size v (wyZ p.1) → wr.heap.size ≤ W.heap.size → Calls Tryd.prog 14 #[v, .int .i64 (k : Int), .slice (some ⟨W.heap.size, 0, none⟩) 1 1] (W.alloc (.cells #[.int .i64 (n : Int)] 3)) fun e w' => ∃ a2 c2, e = .returned (.slice a2 N c2) ∧ Hid (Owns w' wr.heap.size (.slice a2 N c2) ((wyZ p.1).take k ++ (n : Int) :: (wyZ p.1).drop k)) ∧ Hid (Below wr.heap.size W w')) := fun v W h1 h2 => by
              refine (InsI_any v wr.heap.size k W.heap.size (n : Int) (wyZ p.1) W h1 (by rw [HPl.out]; exact hkl) (by rw [HPl.out]; omega) rfl h2).mono ?_
              rintro e w' ⟨v', rfl, hO, hB⟩
              obtain ⟨a2, c2, hv⟩ := hO.out.shape
              have hl : ((wyZ p.1).take k ++ (n : Int) :: (wyZ p.1).drop k).length = N := by
                have := HPl.out; have := HN.out
                rw [List.length_append, List.length_cons, List.length_take, List.length_drop]; omega
              rw [hl] at hv
              subst hv
              exact ⟨a2, c2, rfl, hO, hB⟩
            have HVW : Hid (∀ W, Below wr.heap.size wr W → TblV W L u2 vs2 (rwO (orL n i k))) := fun W hW => HV.out.same (fun q _ hq => hW.block q hq)
            obtain ⟨sg2, HSg⟩ : ∃ z : Int, Hid (z = p.2) := ⟨_, rfl⟩
            obtain ⟨sg3, HSg3⟩ : ∃ z : Int, Hid (z = if (n - k) % 2 = 1 then -p.2 else p.2) := ⟨_, rfl⟩
            rw [← HSg.out] at HSp
            obtain ⟨hst1, hst2⟩ := or_step n i k p HP.out HPl.out
            rw [← HSg3.out] at hst2
            have HSt := hid_w (And.intro hst1 hst2)
            clear hst1 hst2
            go_upto_region 11 with (first
              | (go_at_call 15; with_reducible (refine HCc.out.mono ?_); rintro e W2 ⟨v1, rfl, HO1, HB2⟩)
              | (go_at_call 14; with_reducible (refine (HCi.out v1 W2 HO1.out HB2.out.size).mono ?_); rintro e W3 ⟨a2, c2, rfl, HO2, HB3⟩)
              | (at_builtin; refine append_one elem_row (w := W3) (N := W3.heap.size) (base := L) (x := .slice a2 N c2) (xs := vs2) rfl _ _ rfl rfl rfl rfl (HVW.out W3 (HB2.out.trans HB3.out)).own rfl (by have := HV2.out; unfold maxLen; omega) (by have := HV2.out; omega) (Nat.le_trans HBz.out (HB2.out.trans HB3.out).size) ?_; intro v3 W4 hO4 hb4 hk4; have HO4 := hid_w hO4; have HB4 := hid_w hb4; have HK4 := hid_w hk4; clear hO4 hb4 hk4))
            have HB23 : Hid (Below wr.heap.size wr W3) := HB2.out.trans HB3.out
            have HB4w : Hid (Below L W1 W4) := (HB.out.trans (HB23.out.mono HBz.out)).trans HB4.out
            have HT4 : Hid (Tbl W4 L v3 (rwO (orL n i (k + 1)))) := by
              show Tbl _ _ _ _
              rw [HSt.out.1]
              exact Tbl.push HV.out (HVW.out W3 HB23.out) (Nat.le_refl _) HBz.out HO2.out HO4.out HK4.out
            have HS3 : Hid (OwnsL W3 L u3 (sgO (orL n i k))) := ownsRow_blocks HS.out (fun q e => HB23.out.block q (HS.out.lt q e).2)
            have HS4 : Hid (OwnsL W4 L u3 (sgO (orL n i k))) := HS3.out.keepT (HVW.out W3 HB23.out).own HK4.out
            have HLW4 : Hid (L ≤ W4.heap.size) := by show L ≤ _; have h := HB4w.out.size; rw [HL.out]; exact h
            have hcs : W4.cell? ⟨sg, i, none⟩ = some (.int .i64 sg2) := (HB4w.out.cell (p := ⟨sg, i, none⟩) (by rw [HL.out]; exact HG.out.2)).trans HSp.out
            have hsg1 : sg2 = 1 ∨ sg2 = -1 := by rw [HSg.out]; exact HPf.out.1
            obtain ⟨d, hd⟩ : ∃ d : Nat, d = n - k := ⟨_, rfl⟩
            have hnk : (n : Int) - (k : Int) = (d : Int) := by omega
            have hd3 : d ≤ 3 := by omega
            clear HO1 HB2 HO2 HB3 HO4 HB4 HK4 HCc HCi
            by_cases hpar : d % 2 = 1
            · have hp1 : ((d : Int) % 2 == 1) = true := by rw [beq_iff_eq]; omega
              have hp2 : (Int.tmod (d : Int) 2 == 1) = true := by rw [beq_iff_eq, Int.tmod_eq_emod_of_nonneg (by omega)]; omega
              have hse : sg3 = - sg2 := by rw [HSg3.out, ← hd, if_pos hpar, HSg.out]
              have hwn : IntKind.i64.wrap (-sg2) = sg3 := by rw [hse, IntKind.wrap_i64]; omega
              clear hse hd
              go_upto_region 14 with fail
              go_wp2_with (at_builtin; refine append_one elem_l (w := W4) (N := W4.heap.size) (base := L) (x := .int .i64 sg3) (xs := (sgO (orL n i k)).map (Value.int .i64)) rfl _ _ rfl rfl rfl rfl HS4.out rfl (by rw [List.length_map]; have := HSn.out; unfold maxLen; omega) (by rw [List.length_map]; have := HSn.out; omega) HLW4.out ?_)
              intro v5 W5 hO5 hb5 hk5
              have HS5 : Hid (OwnsL W5 L v5 (sgO (orL n i (k + 1)))) := by
                show OwnsL _ _ _ _
                rw [HSt.out.2]
                unfold OwnsL
                rw [List.map_append, List.length_append, List.length_map, List.length_map]
                exact hO5
              have HT5 : Hid (Tbl W5 L v3 (rwO (orL n i (k + 1)))) := HT4.out.keepL HS4.out hk5
              have HB5 : Hid (Below L W1 W5) := HB4w.out.trans hb5
              clear hO5 hb5 hk5
              go_wp2
              go_roundw
              case rel => exact ⟨k + 1, by omega, by go_num, HT5, HS5, HB5⟩
              case measure => simp [intOf]; omega
            · have hp1 : ((d : Int) % 2 == 1) = false := by rw [beq_eq_false_iff_ne]; omega
              have hp2 : (Int.tmod (d : Int) 2 == 1) = false := by rw [beq_eq_false_iff_ne, Int.tmod_eq_emod_of_nonneg (by omega)]; omega
              have HSe : Hid (sg2 = sg3) := by show _ = _; rw [HSg3.out, ← hd, if_neg hpar, HSg.out]
              clear hd
              go_upto_region 14 with fail
              go_wp2_with (at_builtin; refine append_one elem_l (w := W4) (N := W4.heap.size) (base := L) (x := .int .i64 sg2) (xs := (sgO (orL n i k)).map (Value.int .i64)) rfl _ _ rfl rfl rfl rfl HS4.out rfl (by rw [List.length_map]; have := HSn.out; unfold maxLen; omega) (by rw [List.length_map]; have := HSn.out; omega) HLW4.out ?_)
              intro v5 W5 hO5 hb5 hk5
              have HS5 : Hid (OwnsL W5 L v5 (sgO (orL n i (k + 1)))) := by
                show OwnsL _ _ _ _
                rw [HSt.out.2]
                unfold OwnsL
                rw [List.map_append, ← HSe.out, List.length_append, List.length_map, List.length_map]
                exact hO5
              have HT5 : Hid (Tbl W5 L v3 (rwO (orL n i (k + 1)))) := HT4.out.keepL HS4.out hk5
              have HB5 : Hid (Below L W1 W5) := HB4w.out.trans hb5
              clear hO5 hb5 hk5
              go_wp2
              go_roundw
              case rel => exact ⟨k + 1, by omega, by go_num, HT5, HS5, HB5⟩
              case measure => simp [intOf]; omega
          · have hkl' : ¬ (k : Int) ≤ (n : Int) := by omega
            have hkN : k = n + 1 := by have := HN.out; omega
            subst hkN
            rw [← HNx.out] at HT HS
            go_wp2_with fail
            go_roundw
            case rel => exact ⟨i + 1, by omega, by go_num, HT, HS, HB⟩
            case measure => simp [intOf]; omega
      · obtain rfl : i = m := by omega
        have hlt' : ¬ (i : Int) < (i : Int) := by omega
        have hall : orL n i 0 = ordL N := by rw [HM.out, HN.out]; exact or_all n
        rw [hall] at HT HS
        have HBf : Hid (Below w.heap.size w wr) := HB1.out.trans (HB.out.mono (by rw [HL.out]; exact HB1.out.size))
        have HTf : Hid (Tbl wr w.heap.size u2 (rwO (ordL N))) := HT.out.mono (by rw [HL.out]; exact HB1.out.size)
        have HSf : Hid (OwnsL wr w.heap.size u3 (sgO (ordL N))) := ownsRow_down HS.out (by rw [HL.out]; exact HB1.out.size)
        go_wp2_with fail
        go_ret2
        exact ⟨_, _, rfl, HTf, HSf, HBf⟩
end Go.Proofs.YtapchcamjeafmaaDoor
