/-
  Bytes as elements.
-/
import Derived.Test.YthfbkangjpcpgaaDoorTApp
namespace Go.Proofs.YthfbkangjpcpgaaDoor
open Go.RowKit

theorem Tryd.infoB : (Tryd.prog.info? 5).map (fun i => (i.zero, i.size, i.bytes)) = some (some (.int .u8 0), 1, 1) := by kernel_rfl
theorem elem_byte : Elem 49 5 (.int .u8 0) 1 := ⟨Tryd.underlying49, Tryd.infoB, rfl⟩
def uv (b : UInt8) : Value := .int .u8 (b.toNat : Int)

end Go.Proofs.YthfbkangjpcpgaaDoor
