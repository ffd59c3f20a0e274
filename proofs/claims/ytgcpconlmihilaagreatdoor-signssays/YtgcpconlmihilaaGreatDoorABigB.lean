/-
  The contracts of ferrersbig's Add, SetInt64, String.
-/
import Derived.Test.YtgcpconlmihilaaGreatDoorABig
namespace Go.Proofs.YtgcpconlmihilaaGreatDoor
open Go.RowKit

end Go.Proofs.YtgcpconlmihilaaGreatDoor
