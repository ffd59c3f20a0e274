/-
  Both ways list the same partitions.
  Both ways list the same partitions: the lists themselves.
-/
import Derived.Test.YtheebpjkjclgbaaCPal
namespace Go.Proofs.Ytheebpjkjclgbaa
open Go.RowKit

/-- A row as one number. -/
def rcode : List Int → Nat
  | [] => 1
  | z :: l => rcode l * 32 + z.toNat
/-- The place of a number, struck out; none where it is not there. -/
def strike (x : Nat) : List Nat → Option (List Nat)
  | [] => none
  | y :: l => bif Nat.beq x y then some l else match strike x l with | none => none | some r => some (y :: r)
def sameNs : List Nat → List Nat → Bool
  | [], l => l.isEmpty
  | x :: k, l => match strike x l with | none => false | some r => sameNs k r
theorem strike_perm {x : Nat} : ∀ {l r : List Nat}, strike x l = some r → l.Perm (x :: r) := by
  intro l
  induction l with
  | nil => intro r h; simp [strike] at h
  | cons y l ih =>
    intro r h
    unfold strike at h
    by_cases c : Nat.beq x y = true
    · rw [c] at h; simp at h; subst h
      have := Nat.eq_of_beq_eq_true c
      subst this
      exact List.Perm.refl _
    · rw [Bool.eq_false_iff.2 c] at h
      simp only [cond_false] at h
      cases e : strike x l with
      | none => rw [e] at h; simp at h
      | some s =>
        rw [e] at h; simp at h; subst h
        exact ((ih e).cons y).trans (List.Perm.swap _ _ _)
theorem sameNs_perm : ∀ {k l : List Nat}, sameNs k l = true → k.Perm l := by
  intro k
  induction k with
  | nil => intro l h; simp [sameNs] at h; subst h; exact List.Perm.refl _
  | cons x k ih =>
    intro l h
    unfold sameNs at h
    cases e : strike x l with
    | none => rw [e] at h; simp at h
    | some r => rw [e] at h; exact ((ih h).cons x).trans (strike_perm e).symm

theorem rg_codes : ∀ m, m < 21 → sameNs ((rgF 21 1 m []).map rcode) (((genA m).reverse).map rcode) = true := by decide +kernel

end Go.Proofs.Ytheebpjkjclgbaa

namespace Go.Proofs.Ytheebpjkjclgbaa
open Go.RowKit

/-- The row that a number means. -/
def rdec : Nat → Nat → List Int
  | 0, _ => []
  | f + 1, n => if n ≤ 1 then [] else ((n % 32 : Nat) : Int) :: rdec f (n / 32)
def PartR (l : List Int) : Prop := l.length ≤ 20 ∧ ∀ z ∈ l, 1 ≤ z ∧ z ≤ 20
theorem rcode_pos : ∀ l, 1 ≤ rcode l := by
  intro l
  induction l with
  | nil => exact Nat.le_refl _
  | cons z l ih => simp only [rcode]; omega
theorem rdec_rcode : ∀ {l : List Int} {f : Nat}, l.length ≤ f → (∀ z ∈ l, 1 ≤ z ∧ z ≤ 20) → rdec f (rcode l) = l := by
  intro l
  induction l with
  | nil => intro f _ _; cases f <;> simp [rdec, rcode]
  | cons z l ih =>
    intro f hf hz
    cases f with
    | zero => simp at hf
    | succ f =>
      have h1 := rcode_pos l
      obtain ⟨h2, h3⟩ := hz z (by simp)
      unfold rdec rcode
      rw [if_neg (by omega)]
      rw [show (rcode l * 32 + z.toNat) % 32 = z.toNat by omega, show (rcode l * 32 + z.toNat) / 32 = rcode l by omega, ih (by simpa using hf) (fun x hx => hz x (by simp [hx]))]
      rw [show ((z.toNat : Nat) : Int) = z by omega]
def rowsB (ls : List (List Int)) : Bool := ls.all (fun l => Nat.ble l.length 20 && l.all (fun z => decide (1 ≤ z ∧ z ≤ 20)))
theorem rowsB_ok {ls : List (List Int)} (h : rowsB ls = true) : ∀ l ∈ ls, PartR l := by
  intro l hl
  have := List.all_eq_true.1 h l hl
  simp only [Bool.and_eq_true] at this
  refine ⟨Nat.le_of_ble_eq_true this.1, fun z hz => ?_⟩
  exact of_decide_eq_true (List.all_eq_true.1 this.2 z hz)
theorem rows_run : ∀ m, m < 21 → rowsB (genA m) = true ∧ rowsB (rgF 21 1 m []) = true ∧ (rgF 21 1 m []).length ≤ 1000 := by decide +kernel
theorem genA_row {n : Nat} (h : n ≤ 20) : ∀ l ∈ genA n, PartR l := rowsB_ok (rows_run n (by omega)).1
theorem back_map {ls : List (List Int)} (h : ∀ l ∈ ls, PartR l) : (ls.map rcode).map (rdec 20) = ls := by
  rw [List.map_map]
  conv => rhs; rw [← List.map_id ls]
  exact List.map_congr_left (fun l hl => rdec_rcode (h l hl).1 (h l hl).2)
theorem rg_perm {n : Nat} (h : n ≤ 20) : (rgF 21 1 n []).Perm (genA n) := by
  have h1 := (sameNs_perm (rg_codes n (by omega))).map (rdec 20)
  rw [back_map (rowsB_ok (rows_run n (by omega)).2.1), back_map (fun l hl => genA_row h l (List.mem_reverse.1 hl))] at h1
  exact h1.trans (List.reverse_perm _)
theorem rg_len {n : Nat} (h : n ≤ 20) : (rgF 21 1 n []).length ≤ 1000 := (rows_run n (by omega)).2.2

end Go.Proofs.Ytheebpjkjclgbaa
