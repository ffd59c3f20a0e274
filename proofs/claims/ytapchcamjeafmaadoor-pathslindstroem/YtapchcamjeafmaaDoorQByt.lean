/-
  Bytes as elements.
-/
import Derived.Test.YtapchcamjeafmaaDoorTApp
namespace Go.Proofs.YtapchcamjeafmaaDoor
open Go.RowKit

theorem Tryd.infoB : (Tryd.prog.info? 5).map (fun i => (i.zero, i.size, i.bytes)) = some (some (.int .u8 0), 1, 1) := by kernel_rfl
theorem elem_byte : Elem 70 5 (.int .u8 0) 1 := ⟨Tryd.underlying70, Tryd.infoB, rfl⟩
def uv (b : UInt8) : Value := .int .u8 (b.toNat : Int)

end Go.Proofs.YtapchcamjeafmaaDoor
