/-
  The contract of math/bits.Mul, as slices.Repeat calls it.
-/
import Derived.Test.YtpbkidgdpejenaeBOwn
namespace Go.Proofs.Ytpbkidgdpejenae
open Go.RowKit

/-- The upper half of a product. -/
def mulHi (c : Int) : Int :=
  IntKind.u64.wrap (IntKind.u64.wrap (IntKind.u64.wrap (IntKind.u64.wrap (bits BinOp.and IntKind.u64 1 4294967295 * bits BinOp.and IntKind.u64 c 4294967295) / 4294967296) / 4294967296) +
    IntKind.u64.wrap (bits BinOp.and IntKind.u64 (IntKind.u64.wrap (IntKind.u64.wrap (bits BinOp.and IntKind.u64 1 4294967295 * bits BinOp.and IntKind.u64 c 4294967295) / 4294967296)) 4294967295 + IntKind.u64.wrap (bits BinOp.and IntKind.u64 1 4294967295 * (c / 4294967296))) / 4294967296)
theorem mulHi_zero : ∀ c : Nat, c < 41 → mulHi (c : Int) = 0 := by decide +kernel

set_option maxHeartbeats 4000000 in
theorem Mul64_one (c : Nat) (w : World) (hc : c < 41) : Calls Try.prog 88 #[.int .u64 1, .int .u64 c] w fun e w' => e = .returned (.tuple #[.int .u64 0, .int .u64 c]) ∧ w' = w := by
  go_enter Try.func88, Try.ntmps88
  go_wp2
  go_ret2
  refine ⟨?_, rfl⟩
  show Ending.returned (Value.tuple #[.int .u64 (mulHi (c : Int)), .int .u64 c]) = _
  rw [mulHi_zero c hc]
set_option maxHeartbeats 4000000 in
theorem Mul_one (c : Nat) (w : World) (hc : c < 41) : Calls Try.prog 82 #[.int .u64 1, .int .u64 c] w fun e w' => e = .returned (.tuple #[.int .u64 0, .int .u64 c]) ∧ w' = w := by
  go_enter Try.func82, Try.ntmps82
  go_wp2_with fail
  refine (Mul64_one c w hc).mono ?_
  rintro e w1 ⟨rfl, hw1⟩
  obtain rfl : w = w1 := hw1.symm
  clear hw1
  go_wp2
  go_ret2
  exact ⟨rfl, rfl⟩

end Go.Proofs.Ytpbkidgdpejenae
