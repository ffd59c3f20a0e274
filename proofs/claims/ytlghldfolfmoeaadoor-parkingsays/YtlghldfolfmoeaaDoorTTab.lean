/-
  'append' with all that it leaves as it was, block by block; tables of ints of the call's own, their rows apart.
-/
import Derived.Test.YtlghldfolfmoeaaDoorFJoi
import Derived.Test.YtlghldfolfmoeaaDoorTApp
namespace Go.Proofs.YtlghldfolfmoeaaDoor
open Go.RowKit

end Go.Proofs.YtlghldfolfmoeaaDoor
