/-
  The squares of a size come to its permutations, for the sizes that are asked.
-/
import Derived.Test.YtmbpcapjldbkbaaDoorHBel
import Derived.Test.YtmbpcapjldbkbaaDoorCLst
namespace Go.Proofs.YtmbpcapjldbkbaaDoor
open Go.RowKit

set_option maxRecDepth 100000 in
theorem squares_small : ∀ n, n < 13 → ((genA n).map fun q => stdN q * stdN q).sum = pL (upTo n) := by decide +kernel
set_option maxRecDepth 100000 in
theorem genA_pt : ∀ n, n < 13 → (genA n).all (fun q => decide (ptC q = 0) && decide (szN q = n)) = true := by decide +kernel

end Go.Proofs.YtmbpcapjldbkbaaDoor
