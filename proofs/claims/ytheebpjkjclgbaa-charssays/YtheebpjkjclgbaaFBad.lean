/-
  The first fault of several partitions.
-/
import Derived.Test.YtheebpjkjclgbaaICnj
import Derived.Test.YtheebpjkjclgbaaCRow
namespace Go.Proofs.Ytheebpjkjclgbaa
open Go.RowKit

def firstBad : List (List Int) → Int
  | [] => 0
  | z :: r => if ptC z ≠ 0 then ptC z else firstBad r
theorem firstBad_take {ls : List (List Int)} (h : ∀ k, k < ls.length → ptC (ls.getD k []) = 0) : firstBad ls = 0 := by
  induction ls with
  | nil => rfl
  | cons z r ih =>
    have h0 := h 0 (by simp)
    have : ptC z = 0 := h0
    simp only [firstBad, this]
    simp only [ne_eq, not_true_eq_false, if_false]
    exact ih (fun k hk => h (k + 1) (by simpa using hk))
theorem firstBad_at {ls : List (List Int)} {k : Nat} (hk : k < ls.length) (h : ∀ j, j < k → ptC (ls.getD j []) = 0) (hb : ptC (ls.getD k []) ≠ 0) : firstBad ls = ptC (ls.getD k []) := by
  induction ls generalizing k with
  | nil => simp at hk
  | cons z r ih =>
    cases k with
    | zero => have hb' : ptC z ≠ 0 := hb
              simp only [firstBad, if_pos hb']; rfl
    | succ k =>
      have h0 : ptC z = 0 := h 0 (by omega)
      simp only [firstBad, h0]
      simp only [ne_eq, not_true_eq_false, if_false]
      exact ih (by simpa using hk) (fun j hj => h (j + 1) (by omega)) hb

end Go.Proofs.Ytheebpjkjclgbaa
