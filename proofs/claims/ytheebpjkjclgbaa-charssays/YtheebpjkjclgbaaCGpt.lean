/-
  The listed partitions are partitions of their size, for the sizes that are asked.
-/
import Derived.Test.YtheebpjkjclgbaaHChr
import Derived.Test.YtheebpjkjclgbaaCLst
namespace Go.Proofs.Ytheebpjkjclgbaa
open Go.RowKit

set_option maxRecDepth 100000 in
theorem genA_pt : ∀ n, n < 13 → (genA n).all (fun q => decide (ptC q = 0) && decide (szN q = n)) = true := by decide +kernel

end Go.Proofs.Ytheebpjkjclgbaa
