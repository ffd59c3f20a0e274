/-
  Bytes as elements.
-/
import Derived.Test.YthdojdkghhmfcaaTApp
namespace Go.Proofs.Ythdojdkghhmfcaa
open Go.RowKit

theorem Try.infoB : (Try.prog.info? 5).map (fun i => (i.zero, i.size, i.bytes)) = some (some (.int .u8 0), 1, 1) := by kernel_rfl
theorem elem_byte : Elem 52 5 (.int .u8 0) 1 := ⟨Try.underlying52, Try.infoB, rfl⟩
def uv (b : UInt8) : Value := .int .u8 (b.toNat : Int)

end Go.Proofs.Ythdojdkghhmfcaa
