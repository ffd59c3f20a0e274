/-
  The sheets of package domino: lie, stand, cover; isSide.
-/
import Derived.Test.YtcnmndbckjmliaaDoorNSht
namespace Go.Proofs.YtcnmndbckjmliaaDoor
open Go.RowKit

theorem sh_cell {w : World} {G r c : Nat} {f : Nat → UInt8} (h : w.heap[G]? = some (.cells (shC r c f) 62 (0, 0))) (j : Nat) (hj : j < 64) : w.cell? ⟨G, 2 + j, none⟩ = some (.int .u8 ((f j).toNat : Int)) := by
  rw [cell_of_row w G _ _ _ _ h, shC_get _ _ _ _ (by omega)]
  unfold shF
  rw [if_neg (by omega), if_neg (by omega), show 2 + j - 2 = j by omega]
theorem sh_store {w : World} {G r c : Nat} {f : Nat → UInt8} (h : w.heap[G]? = some (.cells (shC r c f) 62 (0, 0))) (j : Nat) (b : UInt8) : (w.setCell ⟨G, 2 + j, none⟩ (.int .u8 (b.toNat : Int))).heap[G]? = some (.cells (shC r c (upB f j b)) 62 (0, 0)) := by
  rw [heap_setCell_same w G _ _ 62 _ h, shC_put]
/-- All but the memory is as it was. -/
def SmA (a b : World) : Prop := b.os = a.os ∧ b.tape = a.tape ∧ b.output = a.output
/-- Two boxes are written. -/
def up2 (f : Nat → UInt8) (a : Nat) (x : UInt8) (b : Nat) (y : UInt8) : Nat → UInt8 := upB (upB f a x) b y

set_option maxHeartbeats 4000000 in
set_option maxRecDepth 100000 in
theorem dlie_at (G r c : Nat) (f : Nat → UInt8) (i j : Nat) (w : World) (hG : w.heap[G]? = some (.cells (shC r c f) 62 (0, 0))) (hi : i < 8) (hj : j + 1 < 8) :
    Calls Tryd.prog 36 #[.pointer (some ⟨G, 0, none⟩), .int .i64 (i : Int), .int .i64 (j : Int)] w fun e w' => e = .returned (.tuple #[]) ∧ Hid (w'.heap[G]? = some (.cells (shC r c (up2 f (i * 8 + j) 108 (i * 8 + (j + 1)) 114)) 62 (0, 0))) ∧ Hid (w'.heap.size = w.heap.size ∧ SmA w w' ∧ ∀ k, k ≠ G → w'.heap[k]? = w.heap[k]?) := by
  have HG : Hid (w.heap[G]? = some (.cells (shC r c f) 62 (0, 0))) := hG
  have c0 : w.drew.cell? ⟨G, 2 + i * 8 + j, none⟩ = some (.int .u8 ((f (i * 8 + j)).toNat : Int)) := by
    have h := sh_cell (w := w.drew) HG.out (i * 8 + j) (by omega)
    rw [← Nat.add_assoc] at h; exact h
  have f0 : w.drew.frozen? ⟨G, 2 + i * 8 + j, none⟩ = false := frozen_of_row w.drew G _ _ _ HG.out
  obtain ⟨W1, HW1⟩ : ∃ W1, Hid (W1 = (w.setCell ⟨G, 2 + i * 8 + j, none⟩ (.int .u8 108)).drew) := ⟨_, rfl⟩
  have HG1 : Hid (W1.heap[G]? = some (.cells (shC r c (upB f (i * 8 + j) 108)) 62 (0, 0))) := by
    show _ = _
    rw [HW1.out]
    have h := sh_store (w := w) HG.out (i * 8 + j) 108
    rw [← Nat.add_assoc] at h; exact h
  have c1 : (w.setCell ⟨G, 2 + i * 8 + j, none⟩ (.int .u8 108)).drew.cell? ⟨G, 2 + i * 8 + (j + 1), none⟩ = some (.int .u8 ((upB f (i * 8 + j) 108 (i * 8 + (j + 1))).toNat : Int)) := by
    have h := sh_cell HG1.out (i * 8 + (j + 1)) (by omega)
    rw [← Nat.add_assoc 2] at h
    rw [HW1.out] at h; exact h
  have f1 : (w.setCell ⟨G, 2 + i * 8 + j, none⟩ (.int .u8 108)).drew.frozen? ⟨G, 2 + i * 8 + (j + 1), none⟩ = false := by
    have h := frozen_of_row W1 G (2 + i * 8 + (j + 1)) _ _ HG1.out
    rw [HW1.out] at h; exact h
  obtain ⟨W2, HW2⟩ : ∃ W2, Hid (W2 = ((w.setCell ⟨G, 2 + i * 8 + j, none⟩ (.int .u8 108)).setCell ⟨G, 2 + i * 8 + (j + 1), none⟩ (.int .u8 114)).drew) := ⟨_, rfl⟩
  have HG2 : Hid (W2.heap[G]? = some (.cells (shC r c (up2 f (i * 8 + j) 108 (i * 8 + (j + 1)) 114)) 62 (0, 0))) := by
    show _ = _
    have h1 : (w.setCell ⟨G, 2 + i * 8 + j, none⟩ (.int .u8 108)).heap[G]? = some (.cells (shC r c (upB f (i * 8 + j) 108)) 62 (0, 0)) := by
      have h := sh_store (w := w) HG.out (i * 8 + j) 108
      rw [← Nat.add_assoc] at h; exact h
    have h := sh_store h1 (i * 8 + (j + 1)) 114
    rw [← Nat.add_assoc 2] at h
    rw [HW2.out]; exact h
  have HK2 : Hid (W2.heap.size = w.heap.size ∧ SmA w W2 ∧ ∀ k, k ≠ G → W2.heap[k]? = w.heap[k]?) := by
    rw [HW2.out]
    refine ⟨?_, ⟨rfl, rfl, rfl⟩, fun k hk => ?_⟩
    · show ((w.setCell ⟨G, 2 + i * 8 + j, none⟩ (.int .u8 108)).setCell ⟨G, 2 + i * 8 + (j + 1), none⟩ (.int .u8 114)).heap.size = _
      simp
    · show ((w.setCell ⟨G, 2 + i * 8 + j, none⟩ (.int .u8 108)).setCell ⟨G, 2 + i * 8 + (j + 1), none⟩ (.int .u8 114)).heap[k]? = _
      rw [heap_setCell_other _ _ _ _ hk, heap_setCell_other _ _ _ _ hk]
  have hwr : IntKind.i64.wrap ((j : Int) + 1) = (j : Int) + 1 := by rw [IntKind.wrap_i64]; omega
  clear hG
  go_enter Tryd.func36, Tryd.ntmps36
  go_region
  rw [← HW2.out]
  go_end0
  exact ⟨rfl, HG2, HK2⟩
set_option maxHeartbeats 4000000 in
set_option maxRecDepth 100000 in
theorem dstand_at (G r c : Nat) (f : Nat → UInt8) (i j : Nat) (w : World) (hG : w.heap[G]? = some (.cells (shC r c f) 62 (0, 0))) (hi : i + 1 < 8) (hj : j < 8) :
    Calls Tryd.prog 38 #[.pointer (some ⟨G, 0, none⟩), .int .i64 (i : Int), .int .i64 (j : Int)] w fun e w' => e = .returned (.tuple #[]) ∧ Hid (w'.heap[G]? = some (.cells (shC r c (up2 f (i * 8 + j) 117 ((i + 1) * 8 + j) 100)) 62 (0, 0))) ∧ Hid (w'.heap.size = w.heap.size ∧ SmA w w' ∧ ∀ k, k ≠ G → w'.heap[k]? = w.heap[k]?) := by
  have HG : Hid (w.heap[G]? = some (.cells (shC r c f) 62 (0, 0))) := hG
  have c0 : w.drew.cell? ⟨G, 2 + i * 8 + j, none⟩ = some (.int .u8 ((f (i * 8 + j)).toNat : Int)) := by
    have h := sh_cell (w := w.drew) HG.out (i * 8 + j) (by omega)
    rw [← Nat.add_assoc] at h; exact h
  have f0 : w.drew.frozen? ⟨G, 2 + i * 8 + j, none⟩ = false := frozen_of_row w.drew G _ _ _ HG.out
  obtain ⟨W1, HW1⟩ : ∃ W1, Hid (W1 = (w.setCell ⟨G, 2 + i * 8 + j, none⟩ (.int .u8 117)).drew) := ⟨_, rfl⟩
  have HG1 : Hid (W1.heap[G]? = some (.cells (shC r c (upB f (i * 8 + j) 117)) 62 (0, 0))) := by
    show _ = _
    rw [HW1.out]
    have h := sh_store (w := w) HG.out (i * 8 + j) 117
    rw [← Nat.add_assoc] at h; exact h
  have c1 : (w.setCell ⟨G, 2 + i * 8 + j, none⟩ (.int .u8 117)).drew.cell? ⟨G, 2 + (i + 1) * 8 + j, none⟩ = some (.int .u8 ((upB f (i * 8 + j) 117 ((i + 1) * 8 + j)).toNat : Int)) := by
    have h := sh_cell HG1.out ((i + 1) * 8 + j) (by omega)
    rw [← Nat.add_assoc 2] at h
    rw [HW1.out] at h; exact h
  have f1 : (w.setCell ⟨G, 2 + i * 8 + j, none⟩ (.int .u8 117)).drew.frozen? ⟨G, 2 + (i + 1) * 8 + j, none⟩ = false := by
    have h := frozen_of_row W1 G (2 + (i + 1) * 8 + j) _ _ HG1.out
    rw [HW1.out] at h; exact h
  obtain ⟨W2, HW2⟩ : ∃ W2, Hid (W2 = ((w.setCell ⟨G, 2 + i * 8 + j, none⟩ (.int .u8 117)).setCell ⟨G, 2 + (i + 1) * 8 + j, none⟩ (.int .u8 100)).drew) := ⟨_, rfl⟩
  have HG2 : Hid (W2.heap[G]? = some (.cells (shC r c (up2 f (i * 8 + j) 117 ((i + 1) * 8 + j) 100)) 62 (0, 0))) := by
    show _ = _
    have h1 : (w.setCell ⟨G, 2 + i * 8 + j, none⟩ (.int .u8 117)).heap[G]? = some (.cells (shC r c (upB f (i * 8 + j) 117)) 62 (0, 0)) := by
      have h := sh_store (w := w) HG.out (i * 8 + j) 117
      rw [← Nat.add_assoc] at h; exact h
    have h := sh_store h1 ((i + 1) * 8 + j) 100
    rw [← Nat.add_assoc 2] at h
    rw [HW2.out]; exact h
  have HK2 : Hid (W2.heap.size = w.heap.size ∧ SmA w W2 ∧ ∀ k, k ≠ G → W2.heap[k]? = w.heap[k]?) := by
    rw [HW2.out]
    refine ⟨?_, ⟨rfl, rfl, rfl⟩, fun k hk => ?_⟩
    · show ((w.setCell ⟨G, 2 + i * 8 + j, none⟩ (.int .u8 117)).setCell ⟨G, 2 + (i + 1) * 8 + j, none⟩ (.int .u8 100)).heap.size = _
      simp
    · show ((w.setCell ⟨G, 2 + i * 8 + j, none⟩ (.int .u8 117)).setCell ⟨G, 2 + (i + 1) * 8 + j, none⟩ (.int .u8 100)).heap[k]? = _
      rw [heap_setCell_other _ _ _ _ hk, heap_setCell_other _ _ _ _ hk]
  have hwr : IntKind.i64.wrap ((i : Int) + 1) = (i : Int) + 1 := by rw [IntKind.wrap_i64]; omega
  clear hG
  go_enter Tryd.func38, Tryd.ntmps38
  go_region
  rw [← HW2.out]
  go_end0
  exact ⟨rfl, HG2, HK2⟩

end Go.Proofs.YtcnmndbckjmliaaDoor
