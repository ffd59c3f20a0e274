/-
  An array as a function of the index.
-/
import Derived.Test.YtapchcamjeafmaaDoorBApp
namespace Go.Proofs.YtapchcamjeafmaaDoor
open Go.RowKit

/-- An array as a function of the index. -/
def rgC (m : Nat) (f : Nat → Value) : Array Value := ((List.range m).map f).toArray
theorem rgC_get (m : Nat) (f : Nat → Value) (j : Nat) (hj : j < m) : (rgC m f)[j]? = some (f j) := by simp [rgC, hj]
theorem rgC_set (m : Nat) (f : Nat → Value) (j : Nat) (v : Value) : (rgC m f).setIfInBounds j v = rgC m fun k => if k = j then v else f k := by
  apply Array.ext_getElem?
  intro i
  by_cases hi : i < m
  · rw [rgC_get _ _ _ hi]
    by_cases e : i = j
    · subst e
      rw [Array.getElem?_setIfInBounds_self_of_lt (by simpa [rgC] using hi), if_pos rfl]
    · rw [Array.getElem?_setIfInBounds_ne (by omega), rgC_get _ _ _ hi, if_neg e]
  · rw [Array.getElem?_eq_none (by simp [rgC]; omega), Array.getElem?_eq_none (by simp [rgC]; omega)]

end Go.Proofs.YtapchcamjeafmaaDoor
