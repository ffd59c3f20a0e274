/-
  The contracts of ferref.Twin, ferref.Across.
-/
import Derived.Test.YtgcagoalnhgljacDoorVRef
namespace Go.Proofs.YtgcagoalnhgljacDoor
open Go.RowKit

theorem cols_take (ls : List (List Int)) (j : Nat) (hj : j < width ls) : (cols ls).take (j + 1) = (cols ls).take j ++ [colOf ls j] := by
  rw [List.take_succ_eq_append_getElem (by rw [cols_length]; exact hj)]
  simp [cols]

end Go.Proofs.YtgcagoalnhgljacDoor
