/-
  The law PathsFirst, walked.
-/
import Derived.Test.YthdojdkghhmfcaaQLaf
import Derived.Test.YthdojdkghhmfcaaQPtc
namespace Go.Proofs.Ythdojdkghhmfcaa
open Go.RowKit

theorem idW_shows {w : World} {Y : Nat} (h : w.heap[Y]? = some (.cells #[.int .i64 0, .int .i64 1, .int .i64 2, .int .i64 3] 3 (0, 0))) (m : Nat) (hm : m ≤ 4) : Shows w (some ⟨Y, 0, none⟩) (idW m) := by
  refine ⟨by rw [idW_length]; omega, fun z hz => ?_, fun _ => ⟨Y, 0, rfl, lt_of_some h, fun j hj => ?_⟩⟩
  · unfold idW at hz
    rw [List.mem_map] at hz
    obtain ⟨k, hk, rfl⟩ := hz
    rw [List.mem_range] at hk
    omega
  · rw [idW_length] at hj
    rw [cell_of_row w Y _ _ _ _ h, Nat.zero_add]
    have e : (idW m).getD j 0 = (j : Int) := by unfold idW; simp [hj]
    rw [e]
    rcases j with _ | _ | _ | _ | j
    · rfl
    · rfl
    · rfl
    · rfl
    · omega

theorem drop_byteQ (s : ByteArray) (k : Nat) (h : k < s.size) : s.data.toList.drop k = s[k] :: s.data.toList.drop (k + 1) := by
  rw [List.drop_eq_getElem_cons (by simpa using h)]; rfl

set_option maxHeartbeats 16000000 in
set_option maxRecDepth 100000 in
theorem pfirst_at (gw gh : Int) (ba sa ea : Option Addr) (n c sn sc en ec : Nat) (bs S E : List (Int × Int)) (w : World) (hn : n = bs.length) (hl : n ≤ 8796093021952) (hnn : ba = none → n = 0 ∧ c = 0) (hsn : sn = S.length) (hsl : sn ≤ 17592186044416) (hsc : sn ≤ sc) (hen : en = E.length) (hel : en ≤ 17592186044416) (hec : en ≤ ec) (hP : PtI w ba bs) (hS : PtI w sa S) (hE : PtI w ea E) :
    Calls Try.prog 4 #[.agg #[.int .i64 gw, .int .i64 gh, .slice ba n c], .slice sa sn sc, .slice ea en ec] w fun e w' => e = .returned (.bool true) ∧ Below w.heap.size w w' := by
  have HN := hid_w (And.intro hn (And.intro hsn hen))
  have HNn := hid_w hnn
  have HP : Hid (PtI w ba bs) := hP
  have HS : Hid (PtI w sa S) := hS
  have HE : Hid (PtI w ea E) := hE
  obtain ⟨x, HX⟩ : ∃ x, Hid (x = chkE gw gh (brO gw gh bs) S E) := ⟨_, rfl⟩
  obtain ⟨y, HY⟩ : ∃ y, Hid (y = fstE x (brC (brO gw gh bs)) S E) := ⟨_, rfl⟩
  obtain ⟨tx, HTx⟩ : ∃ tx, Hid (tx = fstL x (brC (brO gw gh bs)) S E) := ⟨_, rfl⟩
  obtain ⟨m, HM⟩ : ∃ m, Hid (m = min 4 sn) := ⟨_, rfl⟩
  obtain ⟨f, HF⟩ : ∃ f, Hid (f = aptE x (brC (brO gw gh bs)) S E (idW m)) := ⟨_, rfl⟩
  obtain ⟨k, HK⟩ : ∃ k, Hid (k = aptN x (brC (brO gw gh bs)) S E (idW m)) := ⟨_, rfl⟩
  obtain ⟨Q, HQ⟩ : ∃ Q, Hid (Q = w.heap.size) := ⟨_, rfl⟩
  obtain ⟨W0, HW0⟩ : ∃ W0, Hid (W0 = w.alloc (.cells #[.int .i64 gw, .int .i64 gh, .slice ba n c] 24)) := ⟨_, rfl⟩
  have HB0 : Hid (Below w.heap.size w W0) := by rw [HW0.out]; exact (Below.refl _ _).alloc (Nat.le_refl _) _
  have HQb : Hid (W0.heap[Q]? = some (.cells #[.int .i64 gw, .int .i64 gh, .slice ba n c] 24 (0, 0))) := by
    show _ = _
    rw [HW0.out, HQ.out]; exact heap_alloc_last _ _
  obtain ⟨G, HG⟩ : ∃ G, Hid (G = W0.heap.size) := ⟨_, rfl⟩
  obtain ⟨W1, HW1⟩ : ∃ W1, Hid (W1 = (W0.alloc (.cells #[.int .i64 0, .int .i64 0] 39)).alloc (.cells #[.int .i64 1, .int .i64 0] 39)) := ⟨_, rfl⟩
  have hs1 : (W0.alloc (.cells #[.int .i64 0, .int .i64 0] 39)).heap.size = W0.heap.size + 1 := by simp
  have hB1 : Below W0.heap.size W0 W1 := by rw [HW1.out]; exact ((Below.refl _ _).alloc (Nat.le_refl _) _).alloc (by simp) _
  have HB1 : Hid (Below w.heap.size w W1) := HB0.out.trans (hB1.mono HB0.out.size)
  have HQ1 : Hid (W1.heap[Q]? = some (.cells #[.int .i64 gw, .int .i64 gh, .slice ba n c] 24 (0, 0))) := by show _ = _; rw [hB1.block Q (lt_of_some HQb.out)]; exact HQb.out
  have hG0 : W1.heap[G]? = some (.cells #[.int .i64 0, .int .i64 0] 39 (0, 0)) := by
    rw [HW1.out, HG.out, heap_alloc_old _ _ _ (by omega)]; exact heap_alloc_last _ _
  have hG1 : W1.heap[G + 1]? = some (.cells #[.int .i64 1, .int .i64 0] 39 (0, 0)) := by
    rw [HW1.out, HG.out, ← hs1]; exact heap_alloc_last _ _
  have HC1 : Hid (Calls Try.prog 6 #[.agg #[.int .i64 2, .int .i64 1, .slice none 0 0], .slice (some ⟨G, 0, none⟩) 1 1, .slice (some ⟨G + 1, 0, none⟩) 1 1] W1 fun e w' => ∃ v, e = .returned (.tuple #[v, .int .i64 0]) ∧ Hid (w'.ownsRow 0 9 1 v (([[82]] : List (List UInt8)).map strV).length (([[82]] : List (List UInt8)).map strV)) ∧ Hid (Below W1.heap.size W1 w')) :=
    First_at 2 1 none (some ⟨G, 0, none⟩) (some ⟨G + 1, 0, none⟩) 0 0 1 1 1 1 [] [(0, 0)] [(1, 0)] W1 rfl (by omega) rfl (by omega) (Nat.le_refl _) rfl (by omega) (Nat.le_refl _) (fun j hj => by simp at hj) (fun j hj => by
      obtain rfl : j = 0 := by simpa using hj
      exact ⟨G, 0, rfl, lt_of_some hG0, by rw [cell_of_row W1 G _ _ _ _ hG0]; rfl, by rw [cell_of_row W1 G _ _ _ _ hG0]; rfl⟩) (fun j hj => by
      obtain rfl : j = 0 := by simpa using hj
      exact ⟨G + 1, 0, rfl, lt_of_some hG1, by rw [cell_of_row W1 (G + 1) _ _ _ _ hG1]; rfl, by rw [cell_of_row W1 (G + 1) _ _ _ _ hG1]; rfl⟩) _ rfl 0 lit_first.1.symm _ 0 lit_first.2.2.symm lit_first.2.1.symm
  clear hP hS hE hn hsn hen hs1 hB1 hG0 hG1 hnn
  go_enter Try.func4, Try.ntmps4
  go_upto_region 1 with fail
  rw [← HQ.out, ← HW0.out]
  go_upto_region 2 with (go_at_call 6; rw [← HG.out, ← HW1.out]; with_reducible (refine HC1.out.mono ?_); rintro e W2 ⟨v1, rfl, HO2, HB2⟩)
  clear HC1
  obtain ⟨a1, c1, hv1, ha1, hj1⟩ := texts_use HO2.out
  obtain ⟨g1, hg1, hg2, hg3⟩ := hj1 0 (by decide)
  subst hg1
  subst hv1
  have hv1 : ([[82]] : List (List UInt8)).length = 1 := rfl
  rw [hv1]
  have HB2w : Hid (Below w.heap.size w W2) := HB1.out.trans (HB2.out.mono HB1.out.size)
  have HQ2 : Hid (W2.heap[Q]? = some (.cells #[.int .i64 gw, .int .i64 gh, .slice ba n c] 24 (0, 0))) := by show _ = _; rw [HB2.out.block Q (lt_of_some HQ1.out)]; exact HQ1.out
  obtain ⟨G2, HG2⟩ : ∃ G2, Hid (G2 = W2.heap.size) := ⟨_, rfl⟩
  obtain ⟨W3, HW3⟩ : ∃ W3, Hid (W3 = W2.alloc (.cells #[.string ⟨#[82]⟩] 9)) := ⟨_, rfl⟩
  have hB3 : Below W2.heap.size W2 W3 := by rw [HW3.out]; exact (Below.refl _ _).alloc (Nat.le_refl _) _
  have HB3 : Hid (Below w.heap.size w W3) := HB2w.out.trans (hB3.mono HB2w.out.size)
  have HQ3 : Hid (W3.heap[Q]? = some (.cells #[.int .i64 gw, .int .i64 gh, .slice ba n c] 24 (0, 0))) := by show _ = _; rw [hB3.block Q (lt_of_some HQ2.out)]; exact HQ2.out
  have HC3 : Hid (Calls Try.prog 9 #[.slice (some ⟨g1, 0, none⟩) 1 c1, .slice (some ⟨G2, 0, none⟩) 1 1] W3 fun e w' => e = .returned (.bool true) ∧ ∃ m, w' = W3.drewN m) :=
    SameS_at g1 G2 1 c1 1 (fun _ => ⟨#[82]⟩) W3 (fun i hi => by
      obtain rfl : i = 0 := by omega
      rw [hB3.cell (p := ⟨g1, 0, none⟩) hg2, hg3]; rfl) (fun i hi => by
      obtain rfl : i = 0 := by omega
      have h : W3.heap[G2]? = some (.cells #[.string ⟨#[82]⟩] 9 (0, 0)) := by rw [HW3.out, HG2.out]; exact heap_alloc_last _ _
      rw [cell_of_row W3 G2 _ _ _ _ h]; rfl) (by omega)
  clear hB3 hg2 hg3 hj1 ha1 hv1 HO2
  go_upto_region 4 with (go_at_call 9; rw [← HG2.out, ← HW3.out]; with_reducible (refine HC3.out.mono ?_); rintro e W4 ⟨rfl, hm4⟩; have HM4 := hid_w hm4; clear hm4)
  obtain ⟨m4, hm4⟩ := HM4.out
  have HB4 : Hid (Below w.heap.size w W4) := by rw [hm4]; exact below_drewN HB3.out _
  have HQ4 : Hid (W4.heap[Q]? = some (.cells #[.int .i64 gw, .int .i64 gh, .slice ba n c] 24 (0, 0))) := by show _ = _; rw [hm4]; exact HQ3.out
  clear hm4 HM4 HC3 HQ3 HB3 HQ2 HQ1
  have q0 : W4.cell? ⟨Q, 0, none⟩ = some (.int .i64 gw) := by rw [cell_of_row W4 Q 0 _ _ _ HQ4.out]; rfl
  have q1 : W4.cell? ⟨Q, 1, none⟩ = some (.int .i64 gh) := by rw [cell_of_row W4 Q 1 _ _ _ HQ4.out]; rfl
  have q2 : W4.cell? ⟨Q, 2, none⟩ = some (.slice ba n c) := by rw [cell_of_row W4 Q 2 _ _ _ HQ4.out]; rfl
  have HC4 : Hid (Calls Try.prog 6 #[.agg #[.int .i64 gw, .int .i64 gh, .slice ba n c], .slice sa sn sc, .slice ea en ec] W4 fun e w' => ∃ v, e = .returned (.tuple #[v, .int .i64 y]) ∧ Hid (w'.ownsRow 0 9 1 v (tx.map strV).length (tx.map strV)) ∧ Hid (Below W4.heap.size W4 w')) :=
    First_at gw gh ba sa ea n c sn sc en ec bs S E W4 HN.out.1 (by omega) HN.out.2.1 hsl hsc HN.out.2.2 hel hec (HP.out.below HB4.out) (HS.out.below HB4.out) (HE.out.below HB4.out) _ rfl x HX.out tx y HTx.out HY.out
  go_upto_region 5 with (go_at_call 6; with_reducible (refine HC4.out.mono ?_); rintro e W5 ⟨v5, rfl, HO5, HB5⟩)
  clear HC4 q0 q1 q2
  have HB5w : Hid (Below w.heap.size w W5) := HB4.out.trans (HB5.out.mono HB4.out.size)
  have HQ5 : Hid (W5.heap[Q]? = some (.cells #[.int .i64 gw, .int .i64 gh, .slice ba n c] 24 (0, 0))) := by show _ = _; rw [HB5.out.block Q (lt_of_some HQ4.out)]; exact HQ4.out
  obtain ⟨ta, tc, hv5, -, hj5⟩ := texts_use HO5.out
  subst hv5
  have HT5 : Hid (∀ j, j < tx.length → ∃ g, ta = some ⟨g, 0, none⟩ ∧ g < W5.heap.size ∧ W5.cell? ⟨g, j, none⟩ = some (strV (tx.getD j []))) := hj5
  obtain ⟨tn, HTn⟩ : ∃ tn, Hid (tn = tx.length) := ⟨_, rfl⟩
  rw [← HTn.out]
  obtain ⟨Yb, HYb⟩ : ∃ Yb, Hid (Yb = W5.heap.size) := ⟨_, rfl⟩
  obtain ⟨W6, HW6⟩ : ∃ W6, Hid (W6 = W5.alloc (.cells #[.int .i64 0, .int .i64 1, .int .i64 2, .int .i64 3] 3)) := ⟨_, rfl⟩
  have hB6 : Below W5.heap.size W5 W6 := by rw [HW6.out]; exact (Below.refl _ _).alloc (Nat.le_refl _) _
  have HB6 : Hid (Below w.heap.size w W6) := HB5w.out.trans (hB6.mono HB5w.out.size)
  have HQ6 : Hid (W6.heap[Q]? = some (.cells #[.int .i64 gw, .int .i64 gh, .slice ba n c] 24 (0, 0))) := by show _ = _; rw [hB6.block Q (lt_of_some HQ5.out)]; exact HQ5.out
  have HY6 : Hid (W6.heap[Yb]? = some (.cells #[.int .i64 0, .int .i64 1, .int .i64 2, .int .i64 3] 3 (0, 0))) := by show _ = _; rw [HW6.out, HYb.out]; exact heap_alloc_last _ _
  have HT6 : Hid (∀ j, j < tx.length → ∃ g, ta = some ⟨g, 0, none⟩ ∧ g < W6.heap.size ∧ W6.cell? ⟨g, j, none⟩ = some (strV (tx.getD j []))) := fun j hj => by
    obtain ⟨g, k1, k2, k3⟩ := HT5.out j hj
    exact ⟨g, k1, Nat.lt_of_lt_of_le k2 hB6.size, (hB6.cell (p := ⟨g, j, none⟩) k2).trans k3⟩
  have HC6 : Hid (Calls Try.prog 5 #[.agg #[.int .i64 gw, .int .i64 gh, .slice ba n c], .slice sa sn sc, .slice ea en ec, .slice (some ⟨Yb, 0, none⟩) m 4] W6.drew fun e w' => e = .returned (.tuple #[.int .i64 k, .int .i64 f]) ∧ Hid (Below W6.drew.heap.size W6.drew w')) := by
    have hd : Below w.heap.size w W6.drew := below_drewN HB6.out 1
    exact Apart_at gw gh ba sa ea (some ⟨Yb, 0, none⟩) n c sn sc en ec m 4 bs S E (idW m) W6.drew HN.out.1 (by omega) HN.out.2.1 hsl hsc HN.out.2.2 hel (idW_length m).symm (by rw [HM.out]; omega) (HP.out.below hd) (HS.out.below hd) (HE.out.below hd) (idW_shows (w := W6.drew) HY6.out m (by rw [HM.out]; omega)) _ rfl x HX.out k f HK.out HF.out
  go_upto_region 6 with fail
  rw [← HYb.out, ← HW6.out]
  clear hj5 HO5 hB6 HT5
  have q0 : W6.drew.cell? ⟨Q, 0, none⟩ = some (.int .i64 gw) := by rw [cell_of_row W6.drew Q 0 _ _ _ HQ6.out]; rfl
  have q1 : W6.drew.cell? ⟨Q, 1, none⟩ = some (.int .i64 gh) := by rw [cell_of_row W6.drew Q 1 _ _ _ HQ6.out]; rfl
  have q2 : W6.drew.cell? ⟨Q, 2, none⟩ = some (.slice ba n c) := by rw [cell_of_row W6.drew Q 2 _ _ _ HQ6.out]; rfl
  go_cut [12, 13] (fun s12 s13 wx => s12 = .int .i64 k ∧ s13 = .int .i64 f ∧ Hid (Below W6.heap.size W6 wx))
  case first =>
    by_cases h4 : sn < 4
    · have h4' : (sn : Int) < 4 := by omega
      obtain rfl : m = sn := by rw [HM.out]; omega
      first
        | go_region_with (go_at_call 5; with_reducible (refine HC6.out.mono ?_); rintro e W7 ⟨rfl, HB7⟩)
        | fail
      all_goals (
        go_wp2_with fail
        go_meet
        exact ⟨rfl, rfl, (below_drewN (Below.refl _ _) 1).trans HB7.out⟩)
    · have h4' : ¬ (sn : Int) < 4 := by omega
      obtain rfl : m = 4 := by rw [HM.out]; omega
      first
        | go_region_with (go_at_call 5; with_reducible (refine HC6.out.mono ?_); rintro e W7 ⟨rfl, HB7⟩)
        | fail
      all_goals (
        go_wp2_with fail
        go_meet
        exact ⟨rfl, rfl, (below_drewN (Below.refl _ _) 1).trans HB7.out⟩)
  obtain ⟨rfl, rfl, HB7⟩ := hcut
  obtain ⟨W7, hW7⟩ : ∃ W7 : World, W7 = wc := ⟨_, rfl⟩
  subst hW7
  clear HC6 q0 q1 q2
  have HB7w : Hid (Below w.heap.size w W7) := HB6.out.trans (HB7.out.mono HB6.out.size)
  have HQ7 : Hid (W7.heap[Q]? = some (.cells #[.int .i64 gw, .int .i64 gh, .slice ba n c] 24 (0, 0))) := by show _ = _; rw [HB7.out.block Q (lt_of_some HQ6.out)]; exact HQ6.out
  have HT7 : Hid (∀ j, j < tx.length → ∃ g, ta = some ⟨g, 0, none⟩ ∧ g < W7.heap.size ∧ W7.cell? ⟨g, j, none⟩ = some (strV (tx.getD j []))) := fun j hj => by
    obtain ⟨g, k1, k2, k3⟩ := HT6.out j hj
    exact ⟨g, k1, Nat.lt_of_lt_of_le k2 HB7.out.size, (HB7.out.cell (p := ⟨g, j, none⟩) k2).trans k3⟩
  have HMn : Hid (m = min 4 S.length) := by show _ = _; rw [HM.out, HN.out.2.1]
  by_cases hy0 : y = 0
  · have HLf := hid_w (lf_ok HX.out HY.out hy0)
    rw [← HMn.out, ← HF.out, ← HK.out, ← HTx.out] at HLf
    subst hy0
    obtain ⟨bad, HBa⟩ : ∃ bad, Hid (bad = (decide (f = 0) && decide (k = 0))) := ⟨_, rfl⟩
    have htn : tn = sn := by rw [HTn.out, HN.out.2.1]; exact HLf.out.2.2.2.2.2.2.2.2.2.1
    subst htn
    have HKf : Hid (f = 0 → k ≠ 0) := HLf.out.2.2.2.2.2.2.2.2.1
    go_upto_region 9 with fail
    go_cut [81] (fun s81 wx => s81 = .bool false ∧ Hid (wx = W7))
    case first =>
      by_cases hf : f = 0
      · have hk0 : k ≠ 0 := HKf.out hf
        have hk' : (k == 0) = false := by simpa using hk0
        subst hf
        clear hk0
        go_wp2_with fail
        go_meet
        exact ⟨by simp, rfl⟩
      · have hf' : (f == 0) = false := by simpa using hf
        clear hf
        go_wp2_with fail
        go_meet
        exact ⟨by simp, rfl⟩
    obtain ⟨rfl, HWx⟩ := hcut
    obtain rfl : W7 = wc := HWx.out.symm
    clear HWx
    obtain ⟨l1, l2, l3, l4, l5, l6, l7, l8, l9, l10, gE, l11⟩ := HLf.out
    have HSE := hid_w (And.intro l2 (And.intro l3 (And.intro l4 (And.intro l5 (And.intro l6 l7)))))
    have HIn : Hid (∀ p ∈ bs, inG gw gh p = true) := l8
    have HFm : Hid (famP (toN S) (toN E) tx (toN bs) S.length = some gE) := l11
    clear l1 l2 l3 l4 l5 l6 l7 l8 l9 l10 l11 HLf HKf
    have q2 : W7.cell? ⟨Q, 2, none⟩ = some (.slice ba n c) := by rw [cell_of_row W7 Q 2 _ _ _ HQ7.out]; rfl
    have HC8 : Hid (Calls Try.prog 11 #[.slice ba n c] W7 fun e w' => ∃ v, e = .returned v ∧ Hid (OwPt w' W7.heap.size v bs) ∧ Hid (Below W7.heap.size W7 w')) := ClonePt_any ba n c bs W7 (HP.out.below HB7w.out) HN.out.1 HNn.out (by rw [← HN.out.1]; omega)
    go_upto_region 12 with (go_at_call 11; with_reducible (refine HC8.out.mono ?_); rintro e W8 ⟨v8, rfl, HO8, HB8⟩)
    clear HC8 q2
    have HB8w : Hid (Below w.heap.size w W8) := HB7w.out.trans (HB8.out.mono HB7w.out.size)
    have HO8' : Hid (OwPt W8 w.heap.size v8 (toI (toN bs))) := by
      show OwPt _ _ _ _
      rw [toI_toN bs HIn.out]; exact ownsRow_down HO8.out HB7w.out.size
    have HQ8 : Hid (W8.heap[Q]? = some (.cells #[.int .i64 gw, .int .i64 gh, .slice ba n c] 24 (0, 0))) := by show _ = _; rw [HB8.out.block Q (lt_of_some HQ7.out)]; exact HQ7.out
    go_wp2_with fail
    go_loopw [87, 14] (fun iv gv wr => ∃ (i : Nat) (gn : List (Nat × Nat)), i ≤ tn ∧ iv = .int .i64 (i : Int) ∧ Hid (famP (toN S) (toN E) tx (toN bs) i = some gn) ∧ Hid (gn.length ≤ n + 15 * i) ∧ Hid (OwPt wr W7.heap.size gv (toI gn)) ∧ Hid (Below W7.heap.size W7 wr)) (fun iv _ _ => tn - (intOf iv).toNat)
    case atStart => exact ⟨0, toN bs, Nat.zero_le _, rfl, rfl, by show _ ≤ _; rw [toN_length, HN.out.1]; omega, by rw [← toI_toN bs HIn.out] at HO8; exact HO8, HB8⟩
    case round =>
      clear HO8 HO8' HQ8 HB8w
      obtain ⟨i, gn, hi, rfl, HFi, HLn, HOg, HBr⟩ := hrel
      by_cases hlt : i < tn
      · have hlt' : (i : Int) < (tn : Int) := by omega
        have hiS : i < S.length := by rw [← HN.out.2.1]; exact hlt
        have hiE : i < E.length := by rw [← HSE.out.2.2.1]; exact hiS
        have hix : i < tx.length := by rw [← HTn.out]; exact hlt
        obtain ⟨gn', g2, q, d1, d2, d3, d4, d5⟩ := famP_down _ _ _ _ _ _ HFm.out i hiS
        obtain rfl : gn = gn' := by have h := HFi.out; rw [d1] at h; simpa using h.symm
        obtain ⟨qx, qy⟩ := q
        obtain ⟨sx, sy, HSxy⟩ : ∃ sx sy, Hid (ptD (toN S) i = (sx, sy)) := ⟨_, _, rfl⟩
        rw [HSxy.out] at d2
        obtain ⟨s, HSt⟩ : ∃ s, Hid (s = tx.getD i []) := ⟨_, rfl⟩
        rw [← HSt.out] at d2
        have HPr : Hid (prtP gn (sx, sy) s = some (g2, (qx, qy))) := d2
        have HQe : Hid ((qx, qy) = ptD (toN E) i) := d3
        have HQn : Hid ((qx, qy) ∉ g2) := d4
        have HFn : Hid (famP (toN S) (toN E) tx (toN bs) (i + 1) = some (g2 ++ [(qx, qy)])) := d5
        have hq8 := ptD_lt HSE.out.2.1 HSE.out.2.2.2.2.1 HSE.out.2.2.2.2.2 i
        rw [← HQe.out] at hq8
        have HLs : Hid (s.length ≤ 14 ∧ g2.length = gn.length + s.length) := by
          have h := prt_sum _ _ _ _ _ HPr.out
          have h8 : qx < 8 ∧ qy < 8 := hq8
          have h1 : sx ≤ qx := h.1
          have h2 : sy ≤ qy := h.2.1
          have h3 : qx + qy = sx + sy + s.length := h.2.2.1
          exact ⟨by omega, h.2.2.2⟩
        have HSi : Hid (S.getD i (0, 0) = ((sx : Int), (sy : Int))) := by
          show _ = _
          have h := HSxy.out
          have e : ptD (toN S) i = ((S.getD i (0, 0)).1.toNat, (S.getD i (0, 0)).2.toNat) := by
            simp [ptD, toN, List.getD, List.getElem?_map, List.getElem?_eq_getElem hiS]
          have hm : S.getD i (0, 0) ∈ S := by simp [List.getD, List.getElem?_eq_getElem hiS]
          have hin := (List.all_eq_true.1 HSE.out.1) _ hm
          unfold inG at hin
          simp only [Bool.and_eq_true, decide_eq_true_eq] at hin
          rw [e] at h
          simp only [Prod.mk.injEq] at h
          exact Prod.ext (by show (S.getD i (0, 0)).1 = (sx : Int); omega) (by show (S.getD i (0, 0)).2 = (sy : Int); omega)
        have HEi : Hid (E.getD i (0, 0) = ((qx : Int), (qy : Int)) ∧ (qx : Int) < gw ∧ (qy : Int) < gh) := by
          show _ ∧ _
          have h := HQe.out
          have e : ptD (toN E) i = ((E.getD i (0, 0)).1.toNat, (E.getD i (0, 0)).2.toNat) := by
            simp [ptD, toN, List.getD, List.getElem?_map, List.getElem?_eq_getElem hiE]
          have hm : E.getD i (0, 0) ∈ E := by simp [List.getD, List.getElem?_eq_getElem hiE]
          have hin := (List.all_eq_true.1 HSE.out.2.1) _ hm
          unfold inG at hin
          simp only [Bool.and_eq_true, decide_eq_true_eq] at hin
          rw [e] at h
          simp only [Prod.mk.injEq] at h
          refine ⟨Prod.ext (by show (E.getD i (0, 0)).1 = (qx : Int); omega) (by show (E.getD i (0, 0)).2 = (qy : Int); omega), by omega, by omega⟩
        clear d1 d2 d3 d4 d5 hq8
        have HBw : Hid (Below w.heap.size w wr) := HB7w.out.trans (HBr.out.mono HB7w.out.size)
        obtain ⟨tg, t1, t2, t3⟩ := HT7.out i hix
        subst t1
        rw [← HSt.out] at t3
        have t4 : wr.cell? ⟨tg, i, none⟩ = some (strV s) := (HBr.out.cell (p := ⟨tg, i, none⟩) t2).trans t3
        obtain ⟨str, HStr⟩ : ∃ str : ByteArray, Hid (str = ⟨s.toArray⟩) := ⟨_, rfl⟩
        have t5 : wr.cell? ⟨tg, i, none⟩ = some (.string str) := by rw [HStr.out]; exact t4
        clear t4
        obtain ⟨sb, so, b1, b2, b3, b4⟩ := (HS.out.below HBw.out) i hiS
        subst b1
        rw [HSi.out] at b3 b4
        obtain ⟨P, HPq⟩ : ∃ P, Hid (P = wr.heap.size) := ⟨_, rfl⟩
        obtain ⟨W9, HW9⟩ : ∃ W9, Hid (W9 = wr.alloc (.cells #[.int .i64 (sx : Int), .int .i64 (sy : Int)] 39)) := ⟨_, rfl⟩
        have hB9 : Below wr.heap.size wr W9 := by rw [HW9.out]; exact (Below.refl _ _).alloc (Nat.le_refl _) _
        have HB9 : Hid (Below W7.heap.size W7 W9) := HBr.out.trans (hB9.mono HBr.out.size)
        have HP9 : Hid (W9.heap[P]? = some (.cells #[.int .i64 (sx : Int), .int .i64 (sy : Int)] 39 (0, 0))) := by show _ = _; rw [HW9.out, HPq.out]; exact heap_alloc_last _ _
        have HO9 : Hid (OwPt W9 W7.heap.size u14 (toI gn)) := HOg.out.below hB9
        have HNb : Hid (u14.ownBlock ≠ some P) := fun e => by
          have := (HOg.out.lt P e).2
          rw [HPq.out] at this; omega
        have HWP : Hid (W7.heap.size ≤ P) := by show _ ≤ _; rw [HPq.out]; exact HBr.out.size
        clear hB9 t2 t3
        have HSz : Hid (str.size = s.length) := by show _ = _; rw [HStr.out]; rfl
        have HSb : Hid (∀ kk (h : kk < str.size), s.drop kk = str[kk] :: s.drop (kk + 1)) := fun kk h => by
          have e : str.data.toList = s := by rw [HStr.out]
          have h2 := drop_byteQ str kk h
          rw [e] at h2; exact h2
        have hs14 : str.size ≤ 14 := by rw [HSz.out]; exact HLs.out.1
        go_upto_region 16 with fail
        rw [← HPq.out, ← HW9.out]
        clear t5 b3 b4
        go_wp2_with fail
        go_loopw [18, 14] (fun kv gv wr => ∃ (kk px py : Nat) (gm : List (Nat × Nat)), kk ≤ str.size ∧ kv = .int .i64 (kk : Int) ∧ Hid (prtP gm (px, py) (s.drop kk) = some (g2, (qx, qy))) ∧ Hid (OwPt wr W7.heap.size gv (toI gm)) ∧ Hid (gv.ownBlock ≠ some P) ∧ Hid (wr.heap[P]? = some (.cells #[.int .i64 (px : Int), .int .i64 (py : Int)] 39 (0, 0))) ∧ Hid (Below W7.heap.size W7 wr)) (fun kv _ _ => str.size - (intOf kv).toNat)
        case atStart => exact ⟨0, sx, sy, gn, Nat.zero_le _, rfl, HPr, HO9, HNb, HP9, HB9⟩
        case round =>
          clear HO9 HNb HP9 HB9 HW9
          obtain ⟨kk, px, py, gm, hkk, rfl, HPk, HOk, HNk, HPb, HBk⟩ := hrel
          have HSum := hid_w (prt_sum _ _ _ _ _ HPk.out)
          have HGl : Hid (gm.length ≤ n + 15 * i + 15) := by
            show _ ≤ _
            have h1 := HSum.out.2.2.2
            have h2 := HLs.out
            have h3 := HLn.out
            omega
          have HBkw : Hid (Below w.heap.size w _) := HB7w.out.trans (HBk.out.mono HB7w.out.size)
          have HQk : Hid (wr.heap[Q]? = some (.cells #[.int .i64 gw, .int .i64 gh, .slice ba n c] 24 (0, 0))) := by show _ = _; rw [HBk.out.block Q (lt_of_some HQ7.out)]; exact HQ7.out
          have q0 : wr.cell? ⟨Q, 0, none⟩ = some (.int .i64 gw) := by rw [cell_of_row wr Q 0 _ _ _ HQk.out]; rfl
          have q1 : wr.cell? ⟨Q, 1, none⟩ = some (.int .i64 gh) := by rw [cell_of_row wr Q 1 _ _ _ HQk.out]; rfl
          have q2 : wr.cell? ⟨Q, 2, none⟩ = some (.slice ba n c) := by rw [cell_of_row wr Q 2 _ _ _ HQk.out]; rfl
          have p0 : wr.cell? ⟨P, 0, none⟩ = some (.int .i64 (px : Int)) := by rw [cell_of_row wr P 0 _ _ _ HPb.out]; rfl
          have p1 : wr.cell? ⟨P, 1, none⟩ = some (.int .i64 (py : Int)) := by rw [cell_of_row wr P 1 _ _ _ HPb.out]; rfl
          obtain ⟨oa, oc, ho1, ho2, ho3⟩ := HOk.out.open
          obtain ⟨on, HOn⟩ : ∃ on, Hid (on = (toI gm).length) := ⟨_, rfl⟩
          rw [← HOn.out] at ho1
          subst ho1
          have HIg : Hid (inG gw gh ((px : Int), (py : Int)) = true) := by
            show _ = _
            have h1 : px ≤ qx := HSum.out.1
            have h2 : py ≤ qy := HSum.out.2.1
            have h3 := HEi.out
            unfold inG
            simp only [Bool.and_eq_true, decide_eq_true_eq]
            omega
          have HNm : Hid (decide (((px : Int), (py : Int)) ∈ toI gm) = false) := by
            show _ = _
            refine decide_eq_false fun hm => ?_
            have hm2 : (px, py) ∈ gm := (toI_mem gm (px, py)).1 hm
            have h := HPk.out
            cases hd : s.drop kk with
            | nil =>
              rw [hd, prtP] at h
              simp only [Option.some.injEq, Prod.mk.injEq] at h
              obtain ⟨h1, h2, h3⟩ := h
              rw [h1, h2, h3] at hm2
              exact HQn.out hm2
            | cons b r =>
              rw [hd, prtP, if_pos (Or.inl hm2)] at h; cases h
          have HCi : Hid (Calls Try.prog 12 #[.agg #[.int .i64 gw, .int .i64 gh, .slice ba n c], .agg #[.int .i64 (px : Int), .int .i64 (py : Int)]] wr fun e w' => e = .returned (.bool true) ∧ w'.cell? ⟨P, 0, none⟩ = some (.int .i64 (px : Int)) ∧ w'.cell? ⟨P, 1, none⟩ = some (.int .i64 (py : Int)) ∧ Hid (Below wr.heap.size wr w')) := by
            refine (In_at gw gh _ _ _ wr true HIg.out).mono ?_
            rintro e w' ⟨rfl, hb⟩
            exact ⟨rfl, (hb.out.cell (p := ⟨P, 0, none⟩) (lt_of_some HPb.out)).trans p0, (hb.out.cell (p := ⟨P, 1, none⟩) (lt_of_some HPb.out)).trans p1, hb⟩
          have HCc : Hid (∀ W, Hid (Below wr.heap.size wr W) → Calls Try.prog 13 #[.slice oa on oc, .agg #[.int .i64 (px : Int), .int .i64 (py : Int)]] W fun e w' => e = .returned (.bool false) ∧ Hid (Below wr.heap.size wr w')) := fun W hW => by
            have hlen : on ≤ 17592186044416 := by
              have h1 := HGl.out
              have h2 : (toI gm).length = gm.length := by simp [toI]
              have h3 := HOn.out
              have h4 := HSE.out.2.2.2.1
              have h5 := HN.out.2.1
              omega
            refine (ContainsPt_at oa on oc (toI gm) _ _ W HOn.out hlen (ho2.below hW.out) false HNm.out).mono ?_
            rintro e w' ⟨rfl, hb⟩
            exact ⟨rfl, hW.out.trans (hb.out.mono hW.out.size)⟩
          clear ho2 ho3
          go_upto_region 20 with (first | (go_at_call 12; with_reducible (refine HCi.out.mono ?_); rintro e W10 ⟨rfl, k0, k1, HB10⟩) | (go_at_call 13; with_reducible (refine (HCc.out _ HB10).mono ?_); rintro e W11 ⟨rfl, HB11⟩))
          clear HCi HCc q0 q1 q2 p0 p1
          have HB11k : Hid (Below W7.heap.size W7 W11) := HBk.out.trans (HB11.out.mono HBk.out.size)
          have HPb1 : Hid (W11.heap[P]? = some (.cells #[.int .i64 (px : Int), .int .i64 (py : Int)] 39 (0, 0))) := by show _ = _; rw [HB11.out.block P (lt_of_some HPb.out)]; exact HPb.out
          have p0 : W11.cell? ⟨P, 0, none⟩ = some (.int .i64 (px : Int)) := by rw [cell_of_row W11 P 0 _ _ _ HPb1.out]; rfl
          have p1 : W11.cell? ⟨P, 1, none⟩ = some (.int .i64 (py : Int)) := by rw [cell_of_row W11 P 1 _ _ _ HPb1.out]; rfl
          have HAl : Hid (Below W11.heap.size W11 (W11.alloc (.cells #[.int .i64 (px : Int), .int .i64 (py : Int)] 39))) := (Below.refl _ _).alloc (Nat.le_refl _) _
          have HOa : Hid (OwPt (W11.alloc (.cells #[.int .i64 (px : Int), .int .i64 (py : Int)] 39)) W7.heap.size (.slice oa on oc) (toI gm)) := (HOk.out.below HB11.out).below HAl.out
          have HSa : Hid (PtI (W11.alloc (.cells #[.int .i64 (px : Int), .int .i64 (py : Int)] 39)) (some ⟨W11.heap.size, 0, none⟩) [((px : Int), (py : Int))]) := fun j hj => by
            obtain rfl : j = 0 := by simpa using hj
            have hh : (W11.alloc (.cells #[.int .i64 (px : Int), .int .i64 (py : Int)] 39)).heap[W11.heap.size]? = some (.cells #[.int .i64 (px : Int), .int .i64 (py : Int)] 39 (0, 0)) := heap_alloc_last _ _
            exact ⟨W11.heap.size, 0, rfl, lt_of_some hh, by rw [cell_of_row _ _ _ _ _ _ hh]; rfl, by rw [cell_of_row _ _ _ _ _ _ hh]; rfl⟩
          have HLa : Hid ((toI gm).length + ([((px : Int), (py : Int))] : List (Int × Int)).length ≤ 8796093022208 ∧ W7.heap.size ≤ (W11.alloc (.cells #[.int .i64 (px : Int), .int .i64 (py : Int)] 39)).heap.size) := by
            have h1 := HGl.out
            have h2 : (toI gm).length = gm.length := by simp [toI]
            have h4 := HSE.out.2.2.2.1
            have h5 := HN.out.2.1
            refine ⟨by rw [h2, List.length_singleton]; omega, Nat.le_trans HB11k.out.size HAl.out.size⟩
          go_upto_region 21 with (at_builtin; refine append_pts (base := W7.heap.size) (l := toI gm) (ps := [((px : Int), (py : Int))]) rfl _ _ rfl rfl rfl HOa.out rfl HSa.out HLa.out.1 HLa.out.2 ?_; intro v12 W12 hO12 hb12 hk12; have HO12 := hid_w hO12; have HB12 := hid_w hb12; have HK12 := hid_w hk12; clear hO12 hb12 hk12)
          have HB12w : Hid (Below W7.heap.size W7 W12) := (HB11k.out.trans (HAl.out.mono HB11k.out.size)).trans HB12.out
          have hPal : P < W11.heap.size := lt_of_some HPb1.out
          have HP12 : Hid (W12.heap[P]? = some (.cells #[.int .i64 (px : Int), .int .i64 (py : Int)] 39 (0, 0))) := by
            show _ = _
            rw [HK12.out.block P (Nat.lt_of_lt_of_le hPal HAl.out.size) HNk.out, HAl.out.block P hPal]; exact HPb1.out
          have HN12 : Hid (v12.ownBlock ≠ some P) := fun e => by
            rcases HK12.out.lies P e with q | q
            · exact HNk.out q
            · have := HAl.out.size; omega
          have HO13 : Hid (OwPt W12 W7.heap.size v12 (toI (gm ++ [(px, py)]))) := by
            show OwPt _ _ _ _
            have e : toI (gm ++ [(px, py)]) = toI gm ++ [((px : Int), (py : Int))] := by unfold toI; rw [List.map_append]; rfl
            rw [e]; exact HO12.out
          obtain ⟨va, vc, hv12, -, -⟩ := HO13.out.open
          obtain ⟨vn, HVn⟩ : ∃ vn, Hid (vn = (toI (gm ++ [(px, py)])).length) := ⟨_, rfl⟩
          rw [← HVn.out] at hv12
          subst hv12
          clear p0 p1 HAl HOa HSa HLa HO12 HB12 HK12 hPal HB11 HB10 k0 k1 HPb1 HB11k
          by_cases hke : kk = str.size
          · have hE : (kk : Int) = (str.size : Int) := by omega
            have hbe : ((kk : Int) == (str.size : Int)) = true := by simpa using hE
            have hpq : gm = g2 ∧ px = qx ∧ py = qy := by
              have h := HPk.out
              rw [List.drop_of_length_le (by rw [← HSz.out]; omega), prtP] at h
              simpa using h
            obtain ⟨e1, e2, e3⟩ := hpq
            subst e1 e2 e3
            have HBw2 : Hid (Below w.heap.size w W12) := HB7w.out.trans (HB12w.out.mono HB7w.out.size)
            obtain ⟨eb, eo, f1, f2, f3, f4⟩ := (HE.out.below HBw2.out) i hiE
            subst f1
            rw [HEi.out.1] at f3 f4
            have hie : (i : Int) < (en : Int) := by have := HN.out.2.2; omega
            have p0 : W12.drew.cell? ⟨P, 0, none⟩ = some (.int .i64 (px : Int)) := by rw [cell_of_row W12.drew P 0 _ _ _ HP12.out]; rfl
            have p1 : W12.drew.cell? ⟨P, 1, none⟩ = some (.int .i64 (py : Int)) := by rw [cell_of_row W12.drew P 1 _ _ _ HP12.out]; rfl
            have f3' : W12.drew.cell? ⟨eb, eo + i * 2, none⟩ = some (.int .i64 (px : Int)) := f3
            have f4' : W12.drew.cell? ⟨eb, eo + i * 2 + 1, none⟩ = some (.int .i64 (py : Int)) := f4
            have HLx : Hid ((gm ++ [(px, py)]).length ≤ n + 15 * (i + 1)) := by
              show _ ≤ _
              have h1 := HLs.out
              have h2 := HLn.out
              rw [List.length_append, List.length_singleton]; omega
            have HOd : Hid (OwPt W12.drew W7.heap.size (.slice va vn vc) (toI (gm ++ [(px, py)]))) := ownsRow_blocks HO13.out (fun _ _ => rfl)
            have HBd : Hid (Below W7.heap.size W7 W12.drew) := below_drewN HB12w.out 1
            clear f3 f4
            go_upto_region 28 with fail
            go_region
            go_wp2_with fail
            go_roundw
            case rel => exact ⟨i + 1, gm ++ [(px, py)], by omega, by go_num, HFn, HLx, HOd, HBd⟩
            case measure => simp [intOf]; omega
          · have hkl : kk < str.size := by omega
            have hbe : ((kk : Int) == (str.size : Int)) = false := by simp; omega
            have hkl' : (kk : Int) < (str.size : Int) := by omega
            obtain ⟨b, hb⟩ : ∃ b, b = str[kk] := ⟨_, rfl⟩
            obtain ⟨bn, HBn⟩ : ∃ bn, Hid (bn = b.toNat) := ⟨_, rfl⟩
            have hs0 : str[kk].toNat = bn := by rw [HBn.out, hb]
            have hpn := HPk.out
            rw [HSb.out kk hkl, ← hb, prtP] at hpn
            have hnc : ¬ ((px, py) ∈ gm ∨ ¬ (b = 82 ∨ b = 85)) := by
              intro q; rw [if_pos q] at hpn; cases hpn
            rw [if_neg hnc] at hpn
            have HPn : Hid (prtP (gm ++ [(px, py)]) (stpP (px, py) b) (s.drop (kk + 1)) = some (g2, (qx, qy))) := hpn
            have hb2 : b = 82 ∨ b = 85 := Classical.byContradiction fun q => hnc (Or.inr q)
            have p0 : W12.cell? ⟨P, 0, none⟩ = some (.int .i64 (px : Int)) := by rw [cell_of_row W12 P 0 _ _ _ HP12.out]; rfl
            have p1 : W12.cell? ⟨P, 1, none⟩ = some (.int .i64 (py : Int)) := by rw [cell_of_row W12 P 1 _ _ _ HP12.out]; rfl
            have f0 : W12.frozen? ⟨P, 0, none⟩ = false := frozen_of_row W12 P 0 _ _ HP12.out
            have f1 : W12.frozen? ⟨P, 1, none⟩ = false := frozen_of_row W12 P 1 _ _ HP12.out
            clear hb hpn hnc
            rcases hb2 with e82 | e85
            · subst e82
              obtain rfl : bn = 82 := HBn.out
              obtain ⟨W13, HW13⟩ : ∃ W13, Hid (W13 = W12.setCell ⟨P, 0, none⟩ (.int .i64 ((px : Int) + 1))) := ⟨_, rfl⟩
              have HP13 : Hid (W13.heap[P]? = some (.cells #[.int .i64 ((px + 1 : Nat) : Int), .int .i64 (py : Int)] 39 (0, 0))) := by
                show _ = _
                rw [HW13.out, heap_setCell_same W12 P 0 _ 39 _ HP12.out, show ((px + 1 : Nat) : Int) = (px : Int) + 1 by omega]; rfl
              have HB13 : Hid (Below W7.heap.size W7 W13) := by rw [HW13.out]; exact HB12w.out.setCell (p := ⟨P, 0, none⟩) HWP.out _
              have HO14 : Hid (OwPt W13 W7.heap.size (.slice va vn vc) (toI (gm ++ [(px, py)]))) := ownsRow_blocks HO13.out (fun q e => by
                rw [HW13.out]; exact heap_setCell_other _ _ _ _ (fun h => HN12.out (by have h2 : q = P := h; rw [h2] at e; exact e)))
              have HPm : Hid (prtP (gm ++ [(px, py)]) (px + 1, py) (s.drop (kk + 1)) = some (g2, (qx, qy))) := HPn
              have hpx : (px : Int) + 1 ≤ 100 := by
                have h1 := prt_sum _ _ _ _ _ HPm.out
                have h2 : px + 1 ≤ qx := h1.1
                have h3 := HEi.out.2.1
                have h4 := HSE.out.2.2.2.2.1
                omega
              go_upto_region 17 with fail
              rw [← HW13.out]
              go_wp2_with fail
              go_roundw
              case rel => exact ⟨kk + 1, px + 1, py, gm ++ [(px, py)], by omega, by go_num, HPm, HO14, HN12, HP13, HB13⟩
              case measure => simp [intOf]; omega
            · subst e85
              obtain rfl : bn = 85 := HBn.out
              obtain ⟨W13, HW13⟩ : ∃ W13, Hid (W13 = W12.setCell ⟨P, 1, none⟩ (.int .i64 ((py : Int) + 1))) := ⟨_, rfl⟩
              have HP13 : Hid (W13.heap[P]? = some (.cells #[.int .i64 (px : Int), .int .i64 ((py + 1 : Nat) : Int)] 39 (0, 0))) := by
                show _ = _
                rw [HW13.out, heap_setCell_same W12 P 1 _ 39 _ HP12.out, show ((py + 1 : Nat) : Int) = (py : Int) + 1 by omega]; rfl
              have HB13 : Hid (Below W7.heap.size W7 W13) := by rw [HW13.out]; exact HB12w.out.setCell (p := ⟨P, 1, none⟩) HWP.out _
              have HO14 : Hid (OwPt W13 W7.heap.size (.slice va vn vc) (toI (gm ++ [(px, py)]))) := ownsRow_blocks HO13.out (fun q e => by
                rw [HW13.out]; exact heap_setCell_other _ _ _ _ (fun h => HN12.out (by have h2 : q = P := h; rw [h2] at e; exact e)))
              have HPm : Hid (prtP (gm ++ [(px, py)]) (px, py + 1) (s.drop (kk + 1)) = some (g2, (qx, qy))) := HPn
              have hpy : (py : Int) + 1 ≤ 100 := by
                have h1 := prt_sum _ _ _ _ _ HPm.out
                have h2 : py + 1 ≤ qy := h1.2.1
                have h3 := HEi.out.2.2
                have h4 := HSE.out.2.2.2.2.2
                omega
              go_upto_region 17 with fail
              rw [← HW13.out]
              go_wp2_with fail
              go_roundw
              case rel => exact ⟨kk + 1, px, py + 1, gm ++ [(px, py)], by omega, by go_num, HPm, HO14, HN12, HP13, HB13⟩
              case measure => simp [intOf]; omega
      · obtain rfl : i = tn := by omega
        have hlt' : ¬ ((i : Int) < (i : Int)) := by omega
        have HBw : Hid (Below w.heap.size w wr) := HB7w.out.trans (HBr.out.mono HB7w.out.size)
        go_wp2_with fail
        go_ret
        exact ⟨rfl, HBw.out⟩
  · have HLf := hid_w (lf_bad HX.out HY.out hy0)
    rw [← HMn.out, ← HF.out, ← HK.out, ← HTx.out] at HLf
    have hy' : (y == 0) = false := by simpa using hy0
    have htn : tn = 0 := by rw [HTn.out, HLf.out.1]; rfl
    subst htn
    by_cases hf : f = 0
    · have hk0 : k = 0 := by
        rcases HLf.out.2 with q | q
        · exact absurd hf q
        · exact q
      subst hf hk0
      go_wp2_with fail
      go_ret
      exact ⟨by simp, HB7w.out⟩
    · have hf' : (f == 0) = false := by simpa using hf
      go_wp2_with fail
      go_ret
      exact ⟨by simp, HB7w.out⟩

end Go.Proofs.Ythdojdkghhmfcaa
