/-
  Contracts of parts.tallied and of (tally).partition.
-/
import Derived.Test.YtnjbkiegeielhaaArr
namespace Go.Proofs.Ytnjbkiegeielhaa
open Go.RowKit

set_option maxHeartbeats 2000000 in
theorem tallied_any (a : Option Addr) (cap : Nat) (zs : List Int) (w : World) (hs : Shows w a zs) (hr : ∀ z ∈ zs, 0 ≤ z ∧ z ≤ 40) :
    Calls Try.prog 34 #[.slice a zs.length cap] w fun e w' => e = .returned (.agg (cellsOf (cnt zs))) ∧ Below w.heap.size w w' := by
  have hl := hs.len
  go_enter Try.func34, Try.ntmps34
  go_wp2
  go_loopw [8] (fun i wr => ∃ k : Nat, k ≤ zs.length ∧ i = .int .i64 k ∧ Hid (Arr wr (w.heap.size + 1) (cnt (zs.take k))) ∧ Hid (Arr wr w.heap.size (fun _ => 0)) ∧ Hid (Below w.heap.size w wr)) (fun i _ => zs.length - (intOf i).toNat)
  case atStart =>
    refine ⟨0, Nat.zero_le _, rfl, ?_, ?_, ?_⟩
    · exact (heap_alloc2_new w _ _).trans rfl
    · exact (heap_alloc2_old w _ _).trans rfl
    · exact ((Below.refl _ _).alloc (Nat.le_refl _) _).alloc (by simp) _
  case round =>
    obtain ⟨k, hk, rfl, HA, HZ0, HB⟩ := hrel
    by_cases hlt : k < zs.length
    · obtain ⟨b, off, z, rfl, HZ, hz1, hz2, hc⟩ := (hs.below HB.out).elem hlt
      have hz0 := hr z (by rw [HZ.out]; exact getD_mem hlt)
      obtain ⟨m, rfl⟩ : ∃ m : Nat, z = m := ⟨z.toNat, by omega⟩
      have hm : m < 41 := by omega
      have hcm := HA.out.cell hm
      have hfm := HA.out.frozen m
      obtain ⟨x, HX⟩ : ∃ x, Hid (x = cnt (zs.take k) m) := ⟨_, rfl⟩
      rw [← HX.out] at hcm
      have hx0 : 0 ≤ x := by rw [HX.out]; exact cnt_nonneg _ _
      have hx1 : x ≤ zs.length := by rw [HX.out]; have := cnt_le (zs.take k) m; simp at this; omega
      have HS : Hid (Arr (wr.setCell ⟨w.heap.size + 1, m, none⟩ (.int .i64 (x + 1))) (w.heap.size + 1) (cnt (zs.take (k + 1)))) := by
        have := HA.out.store m (x + 1)
        rw [HX.out] at this ⊢
        rw [take_snoc zs k hlt, ← HZ.out, cnt_snoc _ _ m rfl]
        exact this
      have HS0 : Hid (Arr (wr.setCell ⟨w.heap.size + 1, m, none⟩ (.int .i64 (x + 1))) w.heap.size (fun _ => 0)) := HZ0.out.other (by omega) _ _
      have HBS : Hid (Below w.heap.size w (wr.setCell ⟨w.heap.size + 1, m, none⟩ (.int .i64 (x + 1)))) := HB.out.setCell (by simp) _
      go_wp2
      go_roundw
      case rel => exact ⟨k + 1, by omega, by go_num, HS, HS0, HBS⟩
      case measure => simp [intOf]; omega
    · obtain rfl : k = zs.length := by omega
      rw [List.take_length] at HA
      go_wp2_with (first | (refine wpList_load_row rfl 51 _ rfl _ rfl 51 _ (0, 0) _ HA.out Try.underlying51 rfl (Try.sz51 _) ?_) | (refine wpList_store_row rfl 51 _ _ rfl _ _ rfl rfl 51 _ HZ0.out (Try.sz51 _) (by rw [cellsOf_size, cellsOf_size]) (cellsOf_one _) ?_))
      refine bodyPost_ret (v := .agg (cellsOf (cnt zs))) ?_ rfl ⟨rfl, ?_⟩
      · exact results_cell_row (P := Try.prog) rfl _ _ w.heap.size 51 _ (0, 0) _ rfl (setRow_heap wr w.heap.size _ _ 51 _ HZ0.out) Try.underlying51 rfl (Try.sz51 _)
      · exact below_setRow HB.out (Nat.le_refl _) _

#print axioms tallied_any
end Go.Proofs.Ytnjbkiegeielhaa
