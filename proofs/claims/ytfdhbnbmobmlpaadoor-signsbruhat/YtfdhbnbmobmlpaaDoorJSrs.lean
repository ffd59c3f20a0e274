/-
  All matrices of n rows, place by place: the program's search as a list; how many there are.
-/
import Derived.Test.YtfdhbnbmobmlpaaDoorJChk
namespace Go.Proofs.YtfdhbnbmobmlpaaDoor
open Go.RowKit

/-- what row i, column j come to so far -/
def rwS (n : Nat) (X : List Int) (i : Nat) : Int := sum (X.drop (i * n))
def clS (n : Nat) (X : List Int) : Nat → Nat → Int
  | 0, _ => 0
  | i + 1, j => clS n X i j + X.getD (i * n + j) 0
/-- may z come next? -/
def okS (n : Nat) (X : List Int) (z : Int) : Bool :=
  mayB (rwS n X (X.length / n) + z) (decide (X.length % n = n - 1)) && mayB (clS n X (X.length / n) (X.length % n) + z) (decide (X.length / n = n - 1))
def srS (n : Nat) : Nat → List Int → List (List Int)
  | 0, X => [X]
  | d + 1, X => [-1, 0, 1].flatMap fun z => if okS n X z = true then srS n d (X ++ [z]) else []
theorem asm_list : ∀ n, n < 6 → 1 ≤ n → (srS n (n * n) []).length = [1, 1, 2, 7, 42, 429].getD n 0 := by decide +kernel

end Go.Proofs.YtfdhbnbmobmlpaaDoor
