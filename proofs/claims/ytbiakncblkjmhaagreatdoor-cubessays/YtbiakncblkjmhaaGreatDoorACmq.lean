/-
  The contract of ferrersbig's Cmp of two numbers that are not below 0.
-/
import Derived.Test.YtbiakncblkjmhaaGreatDoorASto
import Derived.Test.YtbiakncblkjmhaaGreatDoorARgt
import Derived.BigQuiet
namespace Go.Proofs.YtbiakncblkjmhaaGreatDoor
open Go.RowKit

set_option maxHeartbeats 8000000 in
set_option maxRecDepth 100000 in
theorem BCmp_at (px py lo lo' : Nat) (vx vy : Value) (xs ys : List Nat) (x y : Nat) (w : World) (hx : IntAt w lo px vx xs x) (hy : IntAt w lo' py vy ys y) (hl : xs.length ≤ 1000000) (hl2 : ys.length ≤ 1000000) :
    Calls Tryz.prog 39 #[.pointer (some ⟨px, 0, none⟩), .pointer (some ⟨py, 0, none⟩)] w fun e w' => e = .returned (.int .i64 (cmN x y)) ∧ Below w.heap.size w w' := by
  have hx0 := hx.cell0
  have hx1 := hx.cell1
  have hy0 := hy.cell0
  have hy1 := hy.cell1
  obtain ⟨ax, cx, rfl, hSx⟩ := hx.own.shows hl
  obtain ⟨ay, cy, rfl, hSy⟩ := hy.own.shows hl2
  obtain ⟨n, HN⟩ : ∃ n, Hid (n = xs.length) := ⟨_, rfl⟩
  obtain ⟨m, HM⟩ : ∃ m, Hid (m = ys.length) := ⟨_, rfl⟩
  rw [← HN.out] at hx1
  rw [← HM.out] at hy1
  obtain ⟨c, HCc⟩ : ∃ c, Hid (c = cmN x y) := ⟨_, rfl⟩
  have HC : Hid (Calls Tryz.prog 79 #[.slice ax n cx, .slice ay m cy] w.drew.drew fun e w2 => e = .returned (.int .i64 c) ∧ w2.cell? ⟨px, 0, none⟩ = some (.bool false) ∧ Hid (Below w.heap.size w w2)) := by
    refine (bcmp_at ax ay cx cy n m xs ys x y w.drew.drew (hSx.below (below_drewN (Below.refl _ _) 2)) (hSy.below (below_drewN (Below.refl _ _) 2)) HN.out HM.out hx.own.num hy.own.num).mono ?_
    rintro e w2 ⟨rfl, d, rfl⟩
    exact ⟨by rw [HCc.out], hx0, below_drewN (below_drewN (Below.refl _ _) 2) d⟩
  rw [← HCc.out]
  clear hx hy hSx hSy
  go_enter Tryz.func39, Tryz.ntmps39
  go_wp2_with fail
  go_region
  all_goals go_wp2_with fail
  all_goals (go_region_with (go_at_call 79; with_reducible (refine HC.out.mono ?_); rintro e W1 ⟨rfl, hw0, HBw⟩))
  all_goals go_wp2
  all_goals go_ret
  all_goals exact ⟨rfl, HBw.out⟩
end Go.Proofs.YtbiakncblkjmhaaGreatDoor
