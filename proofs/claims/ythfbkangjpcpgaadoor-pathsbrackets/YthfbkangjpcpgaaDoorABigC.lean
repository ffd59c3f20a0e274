/-
  The contracts of ferrersbig's SetInt64 (of a number that is not below 0) and String.
-/
import Derived.Test.YthfbkangjpcpgaaDoorABig
namespace Go.Proofs.YthfbkangjpcpgaaDoor
open Go.RowKit

set_option maxHeartbeats 4000000 in
theorem BSet_at (p lz : Nat) (b : Bool) (v0 : Value) (x : Nat) (w : World) (hz : w.heap[p]? = some (.cells #[.bool b, v0] 44 (0, 0))) (hlz : lz ≤ p) (hx : x < 9223372036854775808) :
    Calls Tryd.prog 33 #[.pointer (some ⟨p, 0, none⟩), .int .i64 (x : Int)] w fun e w' => ∃ v us, e = .returned (.pointer (some ⟨p, 0, none⟩)) ∧ w'.heap[p]? = some (.cells #[.bool false, v] 44 (0, 0)) ∧ OwnsN w' w.heap.size v us x ∧ Put w w' lz p := by
  have HZ : Hid (w.heap[p]? = some (.cells #[.bool b, v0] 44 (0, 0))) := hz
  have HZl : Hid (p < w.heap.size) := (Array.getElem?_eq_some_iff.1 hz).1
  have g0 : decide ((x : Int) < 0) = false := decide_eq_false (by omega)
  have g1 : ¬ (x : Int) < 0 := by omega
  clear hz
  go_enter Tryd.func33, Tryd.ntmps33
  go_wp2_with fail
  refine (words_at x (by omega) _).mono ?_
  rintro e W1 ⟨v, us, rfl, h1, h0, h2⟩
  obtain ⟨a3, c3, rfl, _⟩ := h1.shows (by omega)
  have H1 : Hid (OwnsN W1 w.heap.size (.slice a3 us.length c3) us x) := h1
  have H2 : Hid (Below w.heap.size w W1) := h2
  clear h1 h0 h2
  go_wp2_with fail
  refine (give_at p lz b v0 a3 us.length c3 W1 ((H2.out.block p HZl.out).trans HZ.out) hlz).mono ?_
  rintro e W2 ⟨rfl, h3, h4, h5⟩
  have HT : Hid (∃ v us, W2.heap[p]? = some (.cells #[.bool false, v] 44 (0, 0)) ∧ OwnsN W2 w.heap.size v us x ∧ Put w W2 lz p) := by
    have h1 := H1.out
    have h2 := H2.out
    refine ⟨_, us, h3, ⟨h1.own.blocks (fun k e => h5.block k (h1.own.lt e).2 (fun e2 => ?_)), h1.num, h1.room⟩, ?_, fun k hk hne => ?_⟩
    · have := (h1.own.lt e).1; have := HZl.out; omega
    · exact (h2.mono (by have := HZl.out; omega)).trans h5.below
    · rw [h5.block k (by have := h2.size; omega) hne, h2.block k hk]
  clear h3 h4 h5
  go_wp2
  go_ret
  obtain ⟨v, us, q1, q2, q3⟩ := HT.out
  exact ⟨v, us, rfl, q1, q2, q3⟩


end Go.Proofs.YthfbkangjpcpgaaDoor
