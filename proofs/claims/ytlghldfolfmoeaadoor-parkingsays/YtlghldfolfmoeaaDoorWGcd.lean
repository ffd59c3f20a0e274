/-
  The contract of wide.greatestCommon.
-/
import Derived.Test.YtlghldfolfmoeaaDoorTTab
import Derived.BigQuiet
import Derived.Deep.DeepCutAuto
namespace Go.Proofs.YtlghldfolfmoeaaDoor
open Go.RowKit

theorem hid_g {p : Prop} (h : p) : Hid p := h

set_option maxHeartbeats 2000000 in
theorem gcd_at (a b : Nat) (w : World) (ha : a ≤ 4611686018427387904) (hb : b ≤ 4611686018427387904) :
    Calls Tryd.prog 40 #[.int .i64 a, .int .i64 b] w fun e w' => e = .returned (.int .i64 ((Nat.gcd a b : Nat) : Int)) ∧ ∃ n, w' = w.drewN n := by
  obtain ⟨G, HG⟩ : ∃ G, Hid (G = Nat.gcd a b) := ⟨_, rfl⟩
  rw [← HG.out]
  go_enter Tryd.func40, Tryd.ntmps40
  go_wp2
  go_loopw [0, 1] (fun s0 s1 wr => ∃ x y : Nat, x ≤ 4611686018427387904 ∧ y ≤ 4611686018427387904 ∧ s0 = .int .i64 (x : Int) ∧ s1 = .int .i64 (y : Int) ∧ Hid (G = Nat.gcd x y) ∧ Hid (∃ n, wr = w.drewN n)) (fun _ s1 _ => (intOf s1).toNat)
  case atStart => exact ⟨a, b, ha, hb, rfl, rfl, HG, 0, rfl⟩
  case round =>
    obtain ⟨x, y, hx, hy, rfl, rfl, HXY, HW⟩ := hrel
    by_cases h0 : y = 0
    · subst h0
      have HE : Hid (G = x) := by show _ = _; rw [HXY.out, Nat.gcd_zero_right]
      go_wp2
      go_ret
      exact ⟨by rw [HE.out]; rfl, HW.out⟩
    · have hne : ¬ ((y : Int) = 0) := by omega
      obtain ⟨z, HZ⟩ : ∃ z, Hid (z = x % y) := ⟨_, rfl⟩
      have hz : z < y := by rw [HZ.out]; exact Nat.mod_lt _ (by omega)
      have hmod : Int.tmod (x : Int) (y : Int) = (z : Int) := by rw [HZ.out]; rfl
      have HXZ : Hid (G = Nat.gcd y z) := by show _ = _; rw [HXY.out, HZ.out, Nat.gcd_comm, Nat.gcd_rec, Nat.gcd_comm]
      go_upto_region 2 with fail
      go_quiet (fail)
      go_wp2
      go_roundw
      case rel => exact ⟨y, z, hy, by omega, rfl, by first | rfl | (simp [hmod]; done) | skip, HXZ, by obtain ⟨n, hn⟩ := HW.out; exact ⟨_, by rw [hn]; exact drewN_two _ _ _⟩⟩
      case measure => simp [intOf]; omega

end Go.Proofs.YtlghldfolfmoeaaDoor
