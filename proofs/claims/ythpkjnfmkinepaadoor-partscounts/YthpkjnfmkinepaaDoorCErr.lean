/-
  parts.Count where the argument is wrong.
-/
import Derived.Test.YthpkjnfmkinepaaDoorTTab
namespace Go.Proofs.YthpkjnfmkinepaaDoor
open Go.RowKit

set_option maxHeartbeats 1000000 in
theorem Count_err (z : Int) (h : z < 0 ∨ 400 < z) (w : World) :
    Calls Tryd.prog 4 #[.int .i64 z] w fun e w' => e = .returned (.tuple #[.string ⟨#[]⟩, .int .i64 1]) ∧ w' = w := by
  rcases h with h | h
  · go_enter Tryd.func4, Tryd.ntmps4
    go_wp2
    go_ret2
    exact ⟨rfl, rfl⟩
  · have h1 : ¬ (z < 0) := by omega
    go_enter Tryd.func4, Tryd.ntmps4
    go_wp2
    go_ret2
    exact ⟨rfl, rfl⟩

end Go.Proofs.YthpkjnfmkinepaaDoor
