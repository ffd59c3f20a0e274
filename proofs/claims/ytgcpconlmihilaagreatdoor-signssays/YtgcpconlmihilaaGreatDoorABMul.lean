/-
  The contract of ferrersbig's Mul.
-/
import Derived.Test.YtgcpconlmihilaaGreatDoorABig
import Derived.Test.YtgcpconlmihilaaGreatDoorASml
namespace Go.Proofs.YtgcpconlmihilaaGreatDoor
open Go.RowKit

set_option maxHeartbeats 8000000 in
set_option maxRecDepth 100000 in
theorem BMul_at (pz px py lo lz : Nat) (b : Bool) (v0 vx vy : Value) (xs ys : List Nat) (x y : Nat) (w : World) (hx : IntAt w lo px vx xs x) (hy : IntAt w lo py vy ys y) (hz : w.heap[pz]? = some (.cells #[.bool b, v0] 46 (0, 0))) (hlz : lz ≤ pz) (hf : xs.length + ys.length ≤ 900000) :
    Calls Tryz.prog 38 #[.pointer (some ⟨pz, 0, none⟩), .pointer (some ⟨px, 0, none⟩), .pointer (some ⟨py, 0, none⟩)] w fun e w' => ∃ v us, e = .returned (.pointer (some ⟨pz, 0, none⟩)) ∧ w'.heap[pz]? = some (.cells #[.bool false, v] 46 (0, 0)) ∧ OwnsN w' w.heap.size v us (x * y) ∧ Put w w' lz pz := by
  have hx0 := hx.cell0
  have hx1 := hx.cell1
  have hy0 := hy.cell0
  have hy1 := hy.cell1
  obtain ⟨ax, cx, rfl, hSx⟩ := hx.own.shows (by omega)
  obtain ⟨ay, cy, rfl, hSy⟩ := hy.own.shows (by omega)
  obtain ⟨n, HN⟩ : ∃ n, Hid (n = xs.length) := ⟨_, rfl⟩
  obtain ⟨m, HM⟩ : ∃ m, Hid (m = ys.length) := ⟨_, rfl⟩
  rw [← HN.out] at hx1 hf
  rw [← HM.out] at hy1 hf
  have HX : Hid (Num xs x) := hx.own.num
  have HY : Hid (Num ys y) := hy.own.num
  have HSx : Hid (ShowsW w ax cx xs) := hSx
  have HSy : Hid (ShowsW w ay cy ys) := hSy
  have HZ : Hid (w.heap[pz]? = some (.cells #[.bool b, v0] 46 (0, 0))) := hz
  have HZl : Hid (pz < w.heap.size) := (Array.getElem?_eq_some_iff.1 hz).1
  have HC : Hid (∀ w', Below w.heap.size w w' → Calls Tryz.prog 58 #[.slice ax n cx, .slice ay m cy] w' fun e w2 => ∃ a3 n3 c3 us, e = .returned (.slice a3 n3 c3) ∧ OwnsN w2 w.heap.size (.slice a3 n3 c3) us (x * y) ∧ Below w.heap.size w w2 ∧ w2.cell? ⟨px, 0, none⟩ = some (.bool false) ∧ w2.cell? ⟨py, 0, none⟩ = some (.bool false)) := fun w' hb => by
    refine (mul_at _ _ _ _ _ _ _ _ _ _ _ (HSx.out.below hb) (HSy.out.below hb) HN.out HM.out HX.out HY.out hf).mono ?_
    rintro e w2 ⟨v, us, rfl, h1, h2, h3⟩
    obtain ⟨a3, c3, rfl, _⟩ := h1.shows (by omega)
    have hb2 := hb.trans (h3.mono hb.size)
    exact ⟨_, _, _, us, rfl, h1.mono hb.size, hb2, (hb2.cell (p := ⟨px, 0, none⟩) hx.lt).trans hx0, (hb2.cell (p := ⟨py, 0, none⟩) hy.lt).trans hy0⟩
  have HG : Hid (∀ W, Below w.heap.size w W → ∀ a n c, Calls Tryz.prog 57 #[.pointer (some ⟨pz, 0, none⟩), .bool false, .slice a n c] W fun e w' => e = .returned (.pointer (some ⟨pz, 0, none⟩)) ∧ w'.heap[pz]? = some (.cells #[.bool false, .slice a n c] 46 (0, 0)) ∧ w'.heap.size = W.heap.size ∧ Put W w' lz pz) := fun W hb a n c =>
    give_at pz lz b v0 a n c W ((hb.block pz HZl.out).trans HZ.out) hlz
  have HB0 : Hid (Below w.heap.size w w.drew) := below_drewN (Below.refl _ _) 1
  clear hx hy hSx hSy hz
  go_enter Tryz.func38, Tryz.ntmps38
  go_wp2_with fail
  go_region_with (first | (go_at_call 58; with_reducible (refine (HC.out _ HB0.out).mono ?_); rintro e W1 ⟨a3, n3, c3, us, rfl, h1, h2, hq1, hq2⟩) | (go_at_call 57; with_reducible (refine (HG.out _ h2 a3 n3 c3).mono ?_); rintro e W2 ⟨rfl, h3, h4, h5⟩))
  all_goals (
    have hT : ∃ v us, W2.heap[pz]? = some (.cells #[.bool false, v] 46 (0, 0)) ∧ OwnsN W2 w.heap.size v us (x * y) ∧ Put w W2 lz pz := by
      refine ⟨_, us, h3, ⟨h1.own.blocks (fun k e => h5.block k (h1.own.lt e).2 (fun e2 => ?_)), h1.num, h1.room⟩, ?_, fun k hk hne => ?_⟩
      · have := (h1.own.lt e).1; have := HZl.out; omega
      · exact (h2.mono (by have := HZl.out; omega)).trans h5.below
      · rw [h5.block k (by have := h2.size; omega) hne, h2.block k hk]
    have HT : Hid (∃ v us, W2.heap[pz]? = some (.cells #[.bool false, v] 46 (0, 0)) ∧ OwnsN W2 w.heap.size v us (x * y) ∧ Put w W2 lz pz) := hT
    clear hT h1 h2 h3 h4 h5
    go_wp2
    go_ret
    obtain ⟨v, us, q1, q2, q3⟩ := HT.out
    exact ⟨v, us, rfl, q1, q2, q3⟩)

end Go.Proofs.YtgcpconlmihilaaGreatDoor
