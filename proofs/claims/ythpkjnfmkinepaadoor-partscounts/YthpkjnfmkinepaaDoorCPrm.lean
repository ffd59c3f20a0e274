/-
  Both ways list the same partitions.
-/
import Derived.Test.YthpkjnfmkinepaaDoorCPal
namespace Go.Proofs.YthpkjnfmkinepaaDoor
open Go.RowKit

/-- A row as one number. -/
def rcode : List Int → Nat
  | [] => 1
  | z :: l => rcode l * 32 + z.toNat
/-- The place of a number, struck out; none where it is not there. -/
def strike (x : Nat) : List Nat → Option (List Nat)
  | [] => none
  | y :: l => bif Nat.beq x y then some l else match strike x l with | none => none | some r => some (y :: r)
def sameNs : List Nat → List Nat → Bool
  | [], l => l.isEmpty
  | x :: k, l => match strike x l with | none => false | some r => sameNs k r
theorem strike_perm {x : Nat} : ∀ {l r : List Nat}, strike x l = some r → l.Perm (x :: r) := by
  intro l
  induction l with
  | nil => intro r h; simp [strike] at h
  | cons y l ih =>
    intro r h
    unfold strike at h
    by_cases c : Nat.beq x y = true
    · rw [c] at h; simp at h; subst h
      have := Nat.eq_of_beq_eq_true c
      subst this
      exact List.Perm.refl _
    · rw [Bool.eq_false_iff.2 c] at h
      simp only [cond_false] at h
      cases e : strike x l with
      | none => rw [e] at h; simp at h
      | some s =>
        rw [e] at h; simp at h; subst h
        exact ((ih e).cons y).trans (List.Perm.swap _ _ _)
theorem sameNs_perm : ∀ {k l : List Nat}, sameNs k l = true → k.Perm l := by
  intro k
  induction k with
  | nil => intro l h; simp [sameNs] at h; subst h; exact List.Perm.refl _
  | cons x k ih =>
    intro l h
    unfold sameNs at h
    cases e : strike x l with
    | none => rw [e] at h; simp at h
    | some r => rw [e] at h; exact ((ih h).cons x).trans (strike_perm e).symm

theorem rg_codes : ∀ m, m < 21 → sameNs ((rgF 21 1 m []).map rcode) (((genA m).reverse).map rcode) = true := by decide +kernel

end Go.Proofs.YthpkjnfmkinepaaDoor
