/-
  paths.Count at a small grid.
-/
import Derived.Test.YtapchcamjeafmaaDoorQCou
namespace Go.Proofs.YtapchcamjeafmaaDoor
open Go.RowKit

theorem lit_br : brO 2 2 [] = some (fun _ => false) := rfl
theorem lit_nP : nP (fun _ => false) (0, 0) (1, 1) = 2 := by decide +kernel
set_option maxHeartbeats 8000000 in
set_option maxRecDepth 100000 in
theorem Count_lit (w : World) : Calls Tryd.prog 4 #[.agg #[.int .i64 2, .int .i64 2, .slice none 0 0], .agg #[.int .i64 0, .int .i64 0], .agg #[.int .i64 1, .int .i64 1]] w fun e w' => e = .returned (.tuple #[.int .i64 2, .int .i64 0]) ∧ Hid (Below w.heap.size w w') := by
  obtain ⟨Z, HZ⟩ : ∃ Z, Hid (Z = mkC fun _ => false) := ⟨_, rfl⟩
  have hz : ∀ W : World, (zeroValue 42).run Tryd.prog W = .ok (.agg Z) W := fun W => by rw [HZ.out]; exact (zero_of_info zeroM).1 W
  have HZ6 : Hid (C64 Z) := by rw [HZ.out]; exact mkC_64 _
  obtain ⟨Q, HQ⟩ : ∃ Q, Hid (Q = w.heap.size) := ⟨_, rfl⟩
  obtain ⟨W0, HW0⟩ : ∃ W0, Hid (W0 = ((w.alloc (.cells #[.int .i64 2, .int .i64 2, .slice none 0 0] 24)).alloc (.cells #[.int .i64 0, .int .i64 0] 29)).alloc (.cells #[.int .i64 1, .int .i64 1] 29)) := ⟨_, rfl⟩
  have HB0 : Hid (Below w.heap.size w W0) := by
    rw [HW0.out]; exact (((Below.refl _ _).alloc (Nat.le_refl _) _).alloc (by simp) _).alloc (by simp; omega) _
  have hs0 : W0.heap.size = Q + 3 := by rw [HW0.out, HQ.out]; simp
  have HQb : Hid (W0.heap[Q]? = some (.cells #[.int .i64 2, .int .i64 2, .slice none 0 0] 24 (0, 0))) := by
    show _ = _
    rw [HW0.out, HQ.out]
    show (((w.heap.push _).push _).push _)[w.heap.size]? = _
    rw [Array.getElem?_push, if_neg (by simp; omega), Array.getElem?_push, if_neg (by simp), Array.getElem?_push_size]
  have HQ1 : Hid (W0.heap[Q + 1]? = some (.cells #[.int .i64 0, .int .i64 0] 29 (0, 0))) := by
    show _ = _
    rw [HW0.out, HQ.out]
    show (((w.heap.push _).push _).push _)[w.heap.size + 1]? = _
    rw [Array.getElem?_push, if_neg (by simp), Array.getElem?_push, if_pos (by simp)]
  have HQ2 : Hid (W0.heap[Q + 2]? = some (.cells #[.int .i64 1, .int .i64 1] 29 (0, 0))) := by
    show _ = _
    rw [HW0.out, HQ.out]
    show (((w.heap.push _).push _).push _)[w.heap.size + 2]? = _
    rw [Array.getElem?_push, if_pos (by simp)]
  have HCell : Hid (∀ W, Below W0.heap.size W0 W → W.cell? ⟨Q, 0, none⟩ = some (.int .i64 2) ∧ W.cell? ⟨Q, 1, none⟩ = some (.int .i64 2) ∧ W.cell? ⟨Q, 2, none⟩ = some (.slice none 0 0) ∧ W.cell? ⟨Q + 1, 0, none⟩ = some (.int .i64 0) ∧ W.cell? ⟨Q + 1, 1, none⟩ = some (.int .i64 0) ∧ W.cell? ⟨Q + 2, 0, none⟩ = some (.int .i64 1) ∧ W.cell? ⟨Q + 2, 1, none⟩ = some (.int .i64 1)) := fun W hW => by
    have h0 : W.heap[Q]? = _ := (hW.block Q (lt_of_some HQb.out)).trans HQb.out
    have h1 : W.heap[Q + 1]? = _ := (hW.block (Q + 1) (lt_of_some HQ1.out)).trans HQ1.out
    have h2 : W.heap[Q + 2]? = _ := (hW.block (Q + 2) (lt_of_some HQ2.out)).trans HQ2.out
    exact ⟨by rw [cell_of_row W Q 0 _ _ _ h0]; rfl, by rw [cell_of_row W Q 1 _ _ _ h0]; rfl, by rw [cell_of_row W Q 2 _ _ _ h0]; rfl, by rw [cell_of_row W _ 0 _ _ _ h1]; rfl, by rw [cell_of_row W _ 1 _ _ _ h1]; rfl, by rw [cell_of_row W _ 0 _ _ _ h2]; rfl, by rw [cell_of_row W _ 1 _ _ _ h2]; rfl⟩
  obtain ⟨q0, q1, q2, -, -, -, -⟩ := HCell.out W0 (Below.refl _ _)
  have HC1 : Hid (Calls Tryd.prog 9 #[.agg #[.int .i64 2, .int .i64 2, .slice none 0 0]] W0 fun e w' => e = .returned (.tuple #[.agg Z, .int .i64 0]) ∧ Hid (Below W0.heap.size W0 w')) := by
    have h := barred_any 2 2 none 0 0 [] W0 rfl (by omega) (fun j hj => by simp at hj) _ rfl
    rw [lit_br] at h
    rw [HZ.out]; exact h
  clear hs0
  go_enter Tryd.func4, Tryd.ntmps4
  go_upto_region 1 with fail
  rw [← HQ.out, ← HW0.out]
  go_upto_region 2 with (first | (go_at_call 9; with_reducible (refine HC1.out.mono ?_); rintro e W1 ⟨rfl, HB1⟩) | (refine wpList_store64 rfl (.tmp 8) (.tmp 13) rfl _ Z Z rfl rfl (heap_alloc_last _ _) HZ6.out HZ6.out ?_))
  obtain ⟨P, HPq⟩ : ∃ P, Hid (P = W1.heap.size) := ⟨_, rfl⟩
  obtain ⟨W2, HW2⟩ : ∃ W2, Hid (W2 = (W1.alloc (.cells Z 42)).setRow W1.heap.size Z) := ⟨_, rfl⟩
  rw [← HW2.out, ← HPq.out]
  have HB2 : Hid (Below W0.heap.size W0 W2) := by
    rw [HW2.out]; exact below_setRow (HB1.out.alloc HB1.out.size _) _ HB1.out.size _
  have HP2 : Hid (W2.heap[P]? = some (.cells Z 42 (0, 0))) := by
    show _ = _
    rw [HW2.out, HPq.out]; exact setRow_heap _ _ _ _ _ _ (heap_alloc_last _ _)
  clear q0 q1 q2 HC1 hz
  obtain ⟨q0, q1, q2, q3, q4, q5, q6⟩ := HCell.out W2 HB2.out
  obtain ⟨N, HN⟩ : ∃ N, Hid (N = W2.heap.size) := ⟨_, rfl⟩
  obtain ⟨W3, HW3⟩ : ∃ W3, Hid (W3 = W2.alloc (.cells #[.int .i64 0, .int .i64 0, .int .i64 1, .int .i64 1] 29)) := ⟨_, rfl⟩
  have hB3 : Below W2.heap.size W2 W3 := by rw [HW3.out]; exact (Below.refl _ _).alloc (Nat.le_refl _) _
  have HB3 : Hid (Below W0.heap.size W0 W3) := HB2.out.trans (hB3.mono HB2.out.size)
  have HP3 : Hid (W3.heap[P]? = some (.cells Z 42 (0, 0))) := by show _ = _; rw [hB3.block P (lt_of_some HP2.out)]; exact HP2.out
  have hN3 : W3.heap[N]? = some (.cells #[.int .i64 0, .int .i64 0, .int .i64 1, .int .i64 1] 29 (0, 0)) := by rw [HW3.out, HN.out]; exact heap_alloc_last _ _
  have HCw : Hid (Calls Tryd.prog 10 #[.agg #[.int .i64 2, .int .i64 2, .slice none 0 0], .slice (some ⟨N, 0, none⟩) 2 2] W3 fun e w' => e = .returned (.bool true) ∧ Hid (Below W3.heap.size W3 w')) := by
    refine within_at 2 2 (.slice none 0 0) (some ⟨N, 0, none⟩) 2 2 [(0, 0), (1, 1)] W3 rfl (by omega) (fun j hj => ?_) true rfl
    have hj2 : j < 2 := hj
    refine ⟨N, 0, rfl, lt_of_some hN3, ?_, ?_⟩
    · rw [cell_of_row W3 N _ _ _ _ hN3]
      rcases j with _ | _ | j
      · rfl
      · rfl
      · omega
    · rw [cell_of_row W3 N _ _ _ _ hN3]
      rcases j with _ | _ | j
      · rfl
      · rfl
      · omega
  have HCc : Hid (∀ W, Calls Tryd.prog 11 #[.agg Z, .agg #[.int .i64 0, .int .i64 0], .agg #[.int .i64 1, .int .i64 1]] W fun e w' => e = .returned (.int .i64 2) ∧ Hid (Below W.heap.size W w')) := fun W =>
    count_at (fun _ => false) 0 0 1 1 W ⟨by omega, by omega⟩ ⟨by omega, by omega⟩ Z HZ.out 2 (by rw [lit_nP]; rfl)
  clear hB3 hN3
  go_upto_if 23 with (first | (go_at_call 10; rw [← HN.out, ← HW3.out]; with_reducible (refine HCw.out.mono ?_); rintro e W4 ⟨rfl, HB4⟩))
  have HB4w : Hid (Below W0.heap.size W0 W4) := HB3.out.trans (HB4.out.mono HB3.out.size)
  have HP4 : Hid (W4.heap[P]? = some (.cells Z 42 (0, 0))) := by show _ = _; rw [HB4.out.block P (lt_of_some HP3.out)]; exact HP3.out
  clear q0 q1 q2 q3 q4 q5 q6
  obtain ⟨q0, q1, q2, q3, q4, q5, q6⟩ := HCell.out W4 HB4w.out
  go_wp2_with (first | (refine wpList_load64 rfl (.tmp 8) rfl P Z rfl HP4.out HZ6.out ?_) | (go_at_call 11; refine (HCc.out _).mono ?_; rintro e W5 ⟨rfl, HB5⟩))
  have HB5w : Hid (Below w.heap.size w W5) := (HB0.out.trans (HB4w.out.mono HB0.out.size)).trans (HB5.out.mono (Nat.le_trans HB0.out.size HB4w.out.size))
  go_ret2
  exact ⟨rfl, HB5w⟩
end Go.Proofs.YtapchcamjeafmaaDoor
