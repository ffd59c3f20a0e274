/-
  The contract of ferrersbig's Set (of a number above 0).
-/
import Derived.Test.YthfbkangjpcpgaaDoorACmp
namespace Go.Proofs.YthfbkangjpcpgaaDoor
open Go.RowKit

set_option maxHeartbeats 8000000 in
set_option maxRecDepth 100000 in
theorem BSetTo_at (pz px lo lz : Nat) (b : Bool) (v0 vx : Value) (xs : List Nat) (x : Nat) (w : World) (hx : IntAt w lo px vx xs x) (hz : w.heap[pz]? = some (.cells #[.bool b, v0] 44 (0, 0))) (hlz : lz ≤ pz) (hf : xs.length ≤ 900000) (h0 : 0 < x) :
    Calls Tryd.prog 35 #[.pointer (some ⟨pz, 0, none⟩), .pointer (some ⟨px, 0, none⟩)] w fun e w' => ∃ v us, e = .returned (.pointer (some ⟨pz, 0, none⟩)) ∧ w'.heap[pz]? = some (.cells #[.bool false, v] 44 (0, 0)) ∧ OwnsN w' w.heap.size v us x ∧ Put w w' lz pz := by
  have hx0 := hx.cell0
  have hx1 := hx.cell1
  have hlt := hx.lt
  obtain ⟨ax, cx, rfl, hSx⟩ := hx.own.shows (by omega)
  have hne : xs ≠ [] := fun e => by have := (num_zero hx.own.num).1 e; omega
  have hpos : 0 < xs.length := List.length_pos_iff.2 hne
  obtain ⟨n, HN⟩ : ∃ n, Hid (n = xs.length) := ⟨_, rfl⟩
  rw [← HN.out] at hx1 hf hpos
  have HX : Hid (Num xs x) := hx.own.num
  have HSx : Hid (ShowsW w ax cx xs) := hSx
  have HZ : Hid (w.heap[pz]? = some (.cells #[.bool b, v0] 44 (0, 0))) := hz
  have HZl : Hid (pz < w.heap.size) := (Array.getElem?_eq_some_iff.1 hz).1
  have HC : Hid (∀ w', Below w.heap.size w w' → Calls Tryd.prog 51 #[.slice ax n cx] w' fun e w2 => ∃ a3 n3 c3 us, e = .returned (.slice a3 n3 c3) ∧ OwnsN w2 w.heap.size (.slice a3 n3 c3) us x ∧ Below w.heap.size w w2 ∧ w2.cell? ⟨px, 0, none⟩ = some (.bool false)) := fun w' hb => by
    refine (twin_at ax cx n xs x w' (HSx.out.below hb) HN.out hpos HX.out).mono ?_
    rintro e w2 ⟨v, rfl, h1, h3⟩
    obtain ⟨a3, c3, rfl, _⟩ := h1.shows (by have := HN.out; omega)
    have hb2 := hb.trans (h3.mono hb.size)
    exact ⟨_, _, _, xs, rfl, h1.mono hb.size, hb2, (hb2.cell (p := ⟨px, 0, none⟩) hlt).trans hx0⟩
  have HG : Hid (∀ W, Below w.heap.size w W → ∀ a n c, Calls Tryd.prog 42 #[.pointer (some ⟨pz, 0, none⟩), .bool false, .slice a n c] W fun e w' => e = .returned (.pointer (some ⟨pz, 0, none⟩)) ∧ w'.heap[pz]? = some (.cells #[.bool false, .slice a n c] 44 (0, 0)) ∧ w'.heap.size = W.heap.size ∧ Put W w' lz pz) := fun W hb a n c =>
    give_at pz lz b v0 a n c W ((hb.block pz HZl.out).trans HZ.out) hlz
  have HB0 : Hid (Below w.heap.size w w.drew) := below_drewN (Below.refl _ _) 1
  clear hx hSx hz hne
  go_enter Tryd.func35, Tryd.ntmps35
  go_wp2_with fail
  go_region_with (first | (go_at_call 51; with_reducible (refine (HC.out _ HB0.out).mono ?_); rintro e W1 ⟨a3, n3, c3, us, rfl, h1, h2, hq1⟩) | (go_at_call 42; with_reducible (refine (HG.out _ h2 a3 n3 c3).mono ?_); rintro e W2 ⟨rfl, h3, h4, h5⟩))
  all_goals (
    have hT : ∃ v us, W2.heap[pz]? = some (.cells #[.bool false, v] 44 (0, 0)) ∧ OwnsN W2 w.heap.size v us x ∧ Put w W2 lz pz := by
      refine ⟨_, us, h3, ⟨h1.own.blocks (fun k e => h5.block k (h1.own.lt e).2 (fun e2 => ?_)), h1.num, h1.room⟩, ?_, fun k hk hne => ?_⟩
      · have := (h1.own.lt e).1; have := HZl.out; omega
      · exact (h2.mono (by have := HZl.out; omega)).trans h5.below
      · rw [h5.block k (by have := h2.size; omega) hne, h2.block k hk]
    have HT : Hid (∃ v us, W2.heap[pz]? = some (.cells #[.bool false, v] 44 (0, 0)) ∧ OwnsN W2 w.heap.size v us x ∧ Put w W2 lz pz) := hT
    clear hT h1 h2 h3 h4 h5
    go_wp2
    go_ret
    obtain ⟨v, us, q1, q2, q3⟩ := HT.out
    exact ⟨v, us, rfl, q1, q2, q3⟩)

end Go.Proofs.YthfbkangjpcpgaaDoor
