/-
  'append' with all that it leaves as it was, block by block; tables of ints of the call's own, their rows apart.
-/
import Derived.Test.YthfbkangjpcpgaaDoorFJoi
import Derived.Test.YthfbkangjpcpgaaDoorTApp
namespace Go.Proofs.YthfbkangjpcpgaaDoor
open Go.RowKit

end Go.Proofs.YthfbkangjpcpgaaDoor
