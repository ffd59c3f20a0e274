/-
  The contracts of perms.Letters, ferref.Letters, over fewer texts.
-/
import Derived.Test.YtjciandmpfcfjaaBApp
namespace Go.Proofs.Ytjciandmpfcfjaa
open Go.RowKit

/-- A word: letters from 1 to 99. -/
def okW (zs : List Int) : Bool := zs.all fun z => decide (1 ≤ z) && decide (z ≤ 99)
def lchk (zs : List Int) : Int := if 40 < zs.length then 2 else if okW zs = true then 0 else 1

theorem okW_iff {zs : List Int} : okW zs = true ↔ ∀ z ∈ zs, 1 ≤ z ∧ z ≤ 99 := by simp [okW]
theorem lchk_ok {zs : List Int} : lchk zs = 0 ↔ zs.length ≤ 40 ∧ ∀ z ∈ zs, 1 ≤ z ∧ z ≤ 99 := by
  unfold lchk
  by_cases h : 40 < zs.length
  · rw [if_pos h]; constructor
    · intro h; omega
    · rintro ⟨h1, _⟩; omega
  · rw [if_neg h, ← okW_iff]
    by_cases h2 : okW zs = true
    · rw [if_pos h2]; simp [h2]; omega
    · rw [if_neg h2]; constructor
      · intro h; omega
      · rintro ⟨_, h3⟩; exact absurd h3 h2

theorem okW_bad {zs : List Int} {k : Nat} (hk : k < zs.length) (h : zs.getD k 0 < 1 ∨ 99 < zs.getD k 0) : okW zs = false := by
  cases e : okW zs with
  | false => rfl
  | true => have := okW_iff.1 e _ (getD_mem hk); omega


end Go.Proofs.Ytjciandmpfcfjaa
