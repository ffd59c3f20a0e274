/-
  slices.SortFunc at pairs, as this program has it.
-/
import Derived.Test.YtihafckdaecgkaaZSrq
import Derived.Test.YtihafckdaecgkaaSShelf
import Derived.Deep.DeepCutAuto
namespace Go.Proofs.Ytihafckdaecgkaa
open Go.RowKit

theorem sortC_ok : SortC := fun lo v X w hX hl hlo => SortP_at Try.sortS rfl rfl Try.isAgg34 Try.sizeOf34 (enters_of Try.func34 (by kernel_rfl) rfl) v X w hX hl hlo
end Go.Proofs.Ytihafckdaecgkaa
