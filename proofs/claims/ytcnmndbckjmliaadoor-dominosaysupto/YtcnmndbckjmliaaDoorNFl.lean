/-
  domino.Flip.
-/
import Derived.Test.YtcnmndbckjmliaaDoorNFs
import Derived.Test.YtcnmndbckjmliaaDoorNTx
import Derived.Deep.RegionHeld3
namespace Go.Proofs.YtcnmndbckjmliaaDoor
open Go.RowKit

theorem below_smA {B G : Nat} {a w w' : World} (h : Below B a w) (hG : B ≤ G) (hk : w'.heap.size = w.heap.size ∧ SmA w w' ∧ ∀ k, k ≠ G → w'.heap[k]? = w.heap[k]?) : Below B a w' :=
  h.trans ⟨hk.2.1.1, hk.2.1.2.1, hk.2.1.2.2, by rw [hk.1]; exact Nat.le_refl _, fun k h2 => hk.2.2 k (by omega)⟩
/-- What domino.Flip answers. -/
def FpP (s : List UInt8) (x y : Int) (v : Value) (er : Int) : Prop :=
  (∃ r c, Til s r c ∧ ((er = 0 ∧ ∃ i j : Nat, y = (i : Int) ∧ x = (j : Int) ∧ i + 1 < r ∧ j + 1 < c ∧ qR (cef (pz s)) i j = true ∧ v = .string ⟨(tx r c (cvF (cef (pz s)) i j (cef (pz s) (i * 8 + j) == 108))).toArray⟩) ∨ (er = 5 ∧ v = .string ⟨#[]⟩ ∧ mtB r c (cef (pz s)) y x = false))) ∨ (er = 1 ∧ v = .string ⟨#[]⟩ ∧ ∀ r c, ¬ Til s r c)

set_option maxHeartbeats 4000000 in
set_option maxRecDepth 100000 in
theorem Flip_at (s : ByteArray) (x y : Int) (m : Int) (w : World) (hm : w.cell? ⟨0, 0, none⟩ = some (.int .i64 m)) :
    Calls Tryd.prog 21 #[.string s, .agg #[.int .i64 x, .int .i64 y]] w fun e w' => ∃ v er, e = .returned (.tuple #[v, .int .i64 er]) ∧ Hid (FpP s.data.toList x y v er) ∧ Hid (Below w.heap.size w w') := by
  obtain ⟨Z, HZ⟩ : ∃ Z, Hid (Z = shC 0 0 fun _ => 0) := ⟨_, rfl⟩
  have hz : ∀ W : World, (zeroValue 62).run Tryd.prog W = .ok (.agg Z) W := fun W => by rw [HZ.out]; exact (zero_of_info zeroS).1 W
  have HZ6 : Hid (C66 Z) := by rw [HZ.out]; exact shC_66 _ _ _
  obtain ⟨Q, HQ⟩ : ∃ Q, Hid (Q = w.heap.size) := ⟨_, rfl⟩
  obtain ⟨W0, HW0⟩ : ∃ W0, Hid (W0 = w.alloc (.cells #[.int .i64 x, .int .i64 y] 36)) := ⟨_, rfl⟩
  have HB0 : Hid (Below w.heap.size w W0) := by rw [HW0.out]; exact (Below.refl _ _).alloc (Nat.le_refl _) _
  have HQ0 : Hid (W0.heap[Q]? = some (.cells #[.int .i64 x, .int .i64 y] 36 (0, 0))) := by
    show _ = _
    rw [HW0.out, HQ.out]; exact heap_alloc_last _ _
  have hm0 : W0.cell? ⟨0, 0, none⟩ = some (.int .i64 m) := by rw [HW0.out, World.cell?_alloc_past _ _ _ (World.block_lt_of_cell? w ⟨0, 0, none⟩ hm)]; exact hm
  have HCr := hid_w (readT_at s m W0 hm0)
  clear hm hm0
  go_enter Tryd.func21, Tryd.ntmps21
  go_upto_region 1 with fail
  rw [← HQ.out, ← HW0.out]
  go_upto_region 2 with (first | (go_at_call 40; with_reducible (refine HCr.out.mono ?_); rintro e W1 ⟨v, rfl, HR, HB1⟩; obtain ⟨Y, er, rfl, HY6, HYr⟩ := HR.out.parts) | (refine wpList_store66 rfl (.tmp 6) (.tmp 11) rfl W1.heap.size Y Z rfl rfl (heap_alloc_last _ _) HY6.out HZ6.out ?_))
  try simp only [Act.put]
  obtain ⟨T, HT⟩ : ∃ T, Hid (T = W1.heap.size) := ⟨_, rfl⟩
  obtain ⟨W3, HW3⟩ : ∃ W3, Hid (W3 = (W1.alloc (.cells Z 62)).setRow W1.heap.size Y) := ⟨_, rfl⟩
  rw [← HW3.out, ← HT.out]
  have HB03 : Hid (Below W0.heap.size W0 W3) := by
    rw [HW3.out]; exact below_setRowN (HB1.out.alloc HB1.out.size _) _ HB1.out.size _
  have HB3 : Hid (Below w.heap.size w W3) := HB0.out.trans (HB03.out.mono HB0.out.size)
  have HT3 : Hid (W3.heap[T]? = some (.cells Y 62 (0, 0))) := by
    show _ = _
    rw [HW3.out, HT.out]; exact setRow_heap _ _ _ _ _ _ (heap_alloc_last _ _)
  have HQ3 : Hid (W3.heap[Q]? = some (.cells #[.int .i64 x, .int .i64 y] 36 (0, 0))) := by
    show _ = _
    rw [HB03.out.block Q (lt_someN HQ0.out)]; exact HQ0.out
  have HTq : Hid (w.heap.size ≤ T) := by rw [HT.out]; exact Nat.le_trans HB0.out.size HB1.out.size
  rcases HYr.out with ⟨rfl, r, c, htl, hY⟩ | ⟨rfl, hY, hno⟩
  case inr =>
    have HP : Hid (FpP s.data.toList x y (.string ⟨#[]⟩) 1) := Or.inr ⟨rfl, rfl, hno⟩
    clear hno hY HYr HR
    go_wp2_with fail
    go_ret2
    exact ⟨_, 1, rfl, HP, HB3⟩
  obtain ⟨f, HF⟩ : ∃ f, Hid (f = cef (pz s.data.toList)) := ⟨_, rfl⟩
  rw [← HF.out] at hY
  have HYf : Hid (Y = shC r c f) := hY
  have HTl : Hid (Til s.data.toList r c) := htl
  have hr8 : r ≤ 8 := htl.1.2.2.1
  have hc8 : c ≤ 8 := htl.1.2.2.2.2.1
  have HTf : Hid (W3.heap[T]? = some (.cells (shC r c f) 62 (0, 0))) := by rw [← HYf.out]; exact HT3.out
  have q0 : W3.cell? ⟨Q, 0, none⟩ = some (.int .i64 x) := by rw [cell_of_row W3 Q _ _ _ _ HQ3.out]; rfl
  have q1 : W3.cell? ⟨Q, 1, none⟩ = some (.int .i64 y) := by rw [cell_of_row W3 Q _ _ _ _ HQ3.out]; rfl
  obtain ⟨b, Hb⟩ : ∃ b, Hid (mtB r c f y x = b) := ⟨_, rfl⟩
  have HCm := hid_w (dmay_at T r c f y x W3 HTf.out hr8 hc8 b Hb.out)
  clear htl hY HYr HR
  cases b with
  | false =>
    have HP : Hid (FpP s.data.toList x y (.string ⟨#[]⟩) 5) := Or.inl ⟨r, c, HTl.out, Or.inr ⟨rfl, rfl, by rw [← HF.out]; exact Hb.out⟩⟩
    go_wp2_with (go_at_call 46; with_reducible (refine HCm.out.mono ?_); rintro e v1 ⟨rfl, rfl⟩)
    go_ret2
    exact ⟨_, 5, rfl, HP, HB3⟩
  | true =>
    have hin : 0 ≤ y ∧ y < (r : Int) ∧ 0 ≤ x ∧ x < (c : Int) := by
      have h := Hb.out
      unfold mtB at h
      refine atB_in (f := f) (fun q => ?_)
      rw [q] at h
      rw [if_neg (by decide), if_neg (by decide)] at h
      cases h
    obtain ⟨i, rfl⟩ : ∃ i : Nat, y = (i : Int) := ⟨y.toNat, by omega⟩
    obtain ⟨j, rfl⟩ : ∃ j : Nat, x = (j : Int) := ⟨x.toNat, by omega⟩
    have HOk : Hid (OkT r c f) := by rw [HF.out]; exact HTl.out.2
    have HMt := hid_w ((mt_iff HOk.out i j (by omega) (by omega)).1 Hb.out)
    obtain ⟨xv, HXv⟩ : ∃ xv, Hid (xv = (f (i * 8 + j)).toNat) := ⟨_, rfl⟩
    have HAt := hid_w (dat_at T r c f (i : Int) (j : Int) W3.drew HTf.out hr8 hc8 xv (by rw [atB_nat, if_pos (by omega)]; exact HXv.out))
    obtain ⟨up, HUp⟩ : ∃ up, Hid (up = (f (i * 8 + j) == 108)) := ⟨_, rfl⟩
    have hup : ((xv : Int) == 108) = up := by
      rw [HUp.out, HXv.out, Bool.eq_iff_iff]
      simp only [beq_iff_eq]
      constructor
      · intro h; exact (byteN (n := 108) (by omega)).1 (by omega)
      · intro h; rw [h]; rfl
    have HCc := hid_w (dcover_at T r c f i j up W3.drew HTf.out (by have := HMt.out; omega) (by have := HMt.out; omega))
    obtain ⟨t, HTt⟩ : ∃ t : ByteArray, Hid (t = ⟨(tx r c (cvF f i j up)).toArray⟩) := ⟨_, rfl⟩
    have HX : Hid (∀ W, Hid (W.heap[T]? = some (.cells (shC r c (cvF f i j up)) 62 (0, 0))) → Hid (W.heap.size = W3.drew.heap.size ∧ SmA W3.drew W ∧ ∀ k, k ≠ T → W.heap[k]? = W3.drew.heap[k]?) → Calls Tryd.prog 39 #[.pointer (some ⟨T, 0, none⟩)] W fun e w' => e = .returned (.string t) ∧ Hid (Below w.heap.size w w')) := fun W h1 h2 => by
      have hb := below_smA HB3.out.drew HTq.out h2.out
      refine (dtext_at T r c (cvF f i j up) W h1.out hr8 hc8).mono ?_
      rintro e w' ⟨rfl, hb2⟩
      exact ⟨by rw [HTt.out], hb.trans (hb2.out.mono hb.size)⟩
    have HP : Hid (FpP s.data.toList (j : Int) (i : Int) (.string t) 0) := by
      refine Or.inl ⟨r, c, HTl.out, Or.inl ⟨rfl, i, j, rfl, rfl, HMt.out.1, HMt.out.2.1, ?_, ?_⟩⟩
      · rw [← HF.out]; exact HMt.out.2.2
      · rw [HTt.out, HUp.out, ← HF.out]
    have HCk : Hid (Calls Tryd.prog 47 #[.pointer (some ⟨T, 0, none⟩), .int .i64 (i : Int), .int .i64 (j : Int), .bool up] W3.drew fun e w' => e = .returned (.tuple #[]) ∧ w'.cell? ⟨Q, 0, none⟩ = some (.int .i64 (j : Int)) ∧ w'.cell? ⟨Q, 1, none⟩ = some (.int .i64 (i : Int)) ∧ Hid (w'.heap[T]? = some (.cells (shC r c (cvF f i j up)) 62 (0, 0))) ∧ Hid (w'.heap.size = W3.drew.heap.size ∧ SmA W3.drew w' ∧ ∀ k, k ≠ T → w'.heap[k]? = W3.drew.heap[k]?)) := by
      refine HCc.out.mono ?_
      rintro e w' ⟨rfl, h1, h2⟩
      have hQT : Q ≠ T := by
        have a1 := lt_someN HQ0.out
        have a2 := HT.out
        have a3 := HB1.out.size
        omega
      have hq : w'.heap[Q]? = some (.cells #[.int .i64 (j : Int), .int .i64 (i : Int)] 36 (0, 0)) := (h2.out.2.2 Q hQT).trans HQ3.out
      exact ⟨rfl, by rw [cell_of_row w' Q _ _ _ _ hq]; rfl, by rw [cell_of_row w' Q _ _ _ _ hq]; rfl, h1, h2⟩
    have d0 : W3.drew.cell? ⟨Q, 0, none⟩ = some (.int .i64 (j : Int)) := q0
    have d1 : W3.drew.cell? ⟨Q, 1, none⟩ = some (.int .i64 (i : Int)) := q1
    clear hin HMt
    go_wp2_with (go_at_call 46; with_reducible (refine HCm.out.mono ?_); rintro e v1 ⟨rfl, rfl⟩)
    go_region_held3 (fun W => W.cell? ⟨Q, 0, none⟩ = some (.int .i64 (j : Int)) ∧ W.cell? ⟨Q, 1, none⟩ = some (.int .i64 (i : Int))) (go_keep) (first
      | (go_at_call 48; with_reducible (refine HAt.out.mono ?_); rintro e v2 ⟨rfl, rfl⟩)
      | (go_at_call 47; with_reducible (refine HCk.out.mono ?_); rintro e W5 ⟨rfl, k0, k1, HT5, HK5⟩))
    all_goals (
      have HXc := hid_w (HX.out W5 HT5 HK5)
      go_wp2_with (go_at_call 39; with_reducible (refine HXc.out.mono ?_); rintro e W6 ⟨rfl, HB6⟩)
      go_ret2
      exact ⟨_, 0, rfl, HP, HB6⟩)

end Go.Proofs.YtcnmndbckjmliaaDoor
