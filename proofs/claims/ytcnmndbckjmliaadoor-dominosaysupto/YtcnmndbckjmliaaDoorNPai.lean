/-
  The sheets of package domino: cover; isSide.
-/
import Derived.Test.YtcnmndbckjmliaaDoorNMay
namespace Go.Proofs.YtcnmndbckjmliaaDoor
open Go.RowKit

/-- A block covered by two dominoes. -/
def cvF (f : Nat → UInt8) (i j : Nat) (up : Bool) : Nat → UInt8 := if up = true then up2 (up2 f (i * 8 + j) 117 ((i + 1) * 8 + j) 100) (i * 8 + (j + 1)) 117 ((i + 1) * 8 + (j + 1)) 100 else up2 (up2 f (i * 8 + j) 108 (i * 8 + (j + 1)) 114) ((i + 1) * 8 + j) 108 ((i + 1) * 8 + (j + 1)) 114
theorem SmA.trans {a b c : World} (h : SmA a b) (k : SmA b c) : SmA a c := ⟨k.1.trans h.1, k.2.1.trans h.2.1, k.2.2.trans h.2.2⟩

set_option maxHeartbeats 4000000 in
set_option maxRecDepth 100000 in
theorem dcover_at (G r c : Nat) (f : Nat → UInt8) (i j : Nat) (up : Bool) (w : World) (hG : w.heap[G]? = some (.cells (shC r c f) 62 (0, 0))) (hi : i + 1 < 8) (hj : j + 1 < 8) :
    Calls Tryd.prog 47 #[.pointer (some ⟨G, 0, none⟩), .int .i64 (i : Int), .int .i64 (j : Int), .bool up] w fun e w' => e = .returned (.tuple #[]) ∧ Hid (w'.heap[G]? = some (.cells (shC r c (cvF f i j up)) 62 (0, 0))) ∧ Hid (w'.heap.size = w.heap.size ∧ SmA w w' ∧ ∀ k, k ≠ G → w'.heap[k]? = w.heap[k]?) := by
  have hwi : IntKind.i64.wrap ((i : Int) + 1) = (i : Int) + 1 := by rw [IntKind.wrap_i64]; omega
  have hwj : IntKind.i64.wrap ((j : Int) + 1) = (j : Int) + 1 := by rw [IntKind.wrap_i64]; omega
  cases up with
  | true =>
    have HC1 := hid_w (dstand_at G r c f i j w hG hi (by omega))
    have HC2 : Hid (∀ w1 : World, Hid (w1.heap[G]? = some (.cells (shC r c (up2 f (i * 8 + j) 117 ((i + 1) * 8 + j) 100)) 62 (0, 0))) → Hid (w1.heap.size = w.heap.size ∧ SmA w w1 ∧ ∀ k, k ≠ G → w1.heap[k]? = w.heap[k]?) → Calls Tryd.prog 38 #[.pointer (some ⟨G, 0, none⟩), .int .i64 (i : Int), .int .i64 ((j : Int) + 1)] w1 fun e w' => e = .returned (.tuple #[]) ∧ Hid (w'.heap[G]? = some (.cells (shC r c (cvF f i j true)) 62 (0, 0))) ∧ Hid (w'.heap.size = w.heap.size ∧ SmA w w' ∧ ∀ k, k ≠ G → w'.heap[k]? = w.heap[k]?)) := fun w1 h1 h2 => by
      have hc := dstand_at G r c _ i (j + 1) w1 h1.out hi hj
      rw [show ((j + 1 : Nat) : Int) = (j : Int) + 1 by omega] at hc
      refine hc.mono ?_
      rintro e w' ⟨rfl, k1, k2⟩
      exact ⟨rfl, k1, ⟨k2.out.1.trans h2.out.1, h2.out.2.1.trans k2.out.2.1, fun k hk => (k2.out.2.2 k hk).trans (h2.out.2.2 k hk)⟩⟩
    clear hG
    go_enter Tryd.func47, Tryd.ntmps47
    go_wp2_with (first | (go_at_call 38; with_reducible (refine HC1.out.mono ?_); rintro e w1 ⟨rfl, k1, k2⟩) | (go_at_call 38; with_reducible (refine (HC2.out _ k1 k2).mono ?_); rintro e w2 ⟨rfl, k3, k4⟩))
    refine bodyPost_ret (results_none rfl _ _ _) rfl ?_
    exact ⟨rfl, k3, k4⟩
  | false =>
    have HC1 := hid_w (dlie_at G r c f i j w hG (by omega) hj)
    have HC2 : Hid (∀ w1 : World, Hid (w1.heap[G]? = some (.cells (shC r c (up2 f (i * 8 + j) 108 (i * 8 + (j + 1)) 114)) 62 (0, 0))) → Hid (w1.heap.size = w.heap.size ∧ SmA w w1 ∧ ∀ k, k ≠ G → w1.heap[k]? = w.heap[k]?) → Calls Tryd.prog 36 #[.pointer (some ⟨G, 0, none⟩), .int .i64 ((i : Int) + 1), .int .i64 (j : Int)] w1 fun e w' => e = .returned (.tuple #[]) ∧ Hid (w'.heap[G]? = some (.cells (shC r c (cvF f i j false)) 62 (0, 0))) ∧ Hid (w'.heap.size = w.heap.size ∧ SmA w w' ∧ ∀ k, k ≠ G → w'.heap[k]? = w.heap[k]?)) := fun w1 h1 h2 => by
      have hc := dlie_at G r c _ (i + 1) j w1 h1.out hi hj
      rw [show ((i + 1 : Nat) : Int) = (i : Int) + 1 by omega] at hc
      refine hc.mono ?_
      rintro e w' ⟨rfl, k1, k2⟩
      exact ⟨rfl, k1, ⟨k2.out.1.trans h2.out.1, h2.out.2.1.trans k2.out.2.1, fun k hk => (k2.out.2.2 k hk).trans (h2.out.2.2 k hk)⟩⟩
    clear hG
    go_enter Tryd.func47, Tryd.ntmps47
    go_wp2_with (first | (go_at_call 36; with_reducible (refine HC1.out.mono ?_); rintro e w1 ⟨rfl, k1, k2⟩) | (go_at_call 36; with_reducible (refine (HC2.out _ k1 k2).mono ?_); rintro e w2 ⟨rfl, k3, k4⟩))
    go_end0
    exact ⟨rfl, k3, k4⟩

set_option maxHeartbeats 1000000 in
theorem isSide_at (n : Int) (w : World) (B : Bool) (hB : decide (1 ≤ n ∧ n ≤ 8) = B) : Calls Tryd.prog 67 #[.int .i64 n] w fun e w' => e = .returned (.bool B) ∧ w' = w := by
  by_cases h1 : n ≥ 1
  · by_cases h2 : n ≤ 8
    · obtain rfl : B = true := by rw [← hB]; simp; omega
      clear hB
      go_enter Tryd.func67, Tryd.ntmps67
      go_wp2
      go_ret
      exact ⟨by first | rfl | (simp; omega), rfl⟩
    · obtain rfl : B = false := by rw [← hB]; simp; omega
      clear hB
      go_enter Tryd.func67, Tryd.ntmps67
      go_wp2
      go_ret
      exact ⟨by first | rfl | (simp; omega), rfl⟩
  · obtain rfl : B = false := by rw [← hB]; simp; omega
    clear hB
    go_enter Tryd.func67, Tryd.ntmps67
    go_wp2
    go_ret
    exact ⟨by first | rfl | (simp; omega), rfl⟩

end Go.Proofs.YtcnmndbckjmliaaDoor
