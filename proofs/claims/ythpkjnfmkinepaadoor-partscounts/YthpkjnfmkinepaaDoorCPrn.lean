/-
  Both ways list the same partitions: the lists themselves.
-/
import Derived.Test.YthpkjnfmkinepaaDoorCPrm
namespace Go.Proofs.YthpkjnfmkinepaaDoor
open Go.RowKit

/-- The row that a number means. -/
def rdec : Nat → Nat → List Int
  | 0, _ => []
  | f + 1, n => if n ≤ 1 then [] else ((n % 32 : Nat) : Int) :: rdec f (n / 32)
def PartR (l : List Int) : Prop := l.length ≤ 20 ∧ ∀ z ∈ l, 1 ≤ z ∧ z ≤ 20
theorem rcode_pos : ∀ l, 1 ≤ rcode l := by
  intro l
  induction l with
  | nil => exact Nat.le_refl _
  | cons z l ih => simp only [rcode]; omega
theorem rdec_rcode : ∀ {l : List Int} {f : Nat}, l.length ≤ f → (∀ z ∈ l, 1 ≤ z ∧ z ≤ 20) → rdec f (rcode l) = l := by
  intro l
  induction l with
  | nil => intro f _ _; cases f <;> simp [rdec, rcode]
  | cons z l ih =>
    intro f hf hz
    cases f with
    | zero => simp at hf
    | succ f =>
      have h1 := rcode_pos l
      obtain ⟨h2, h3⟩ := hz z (by simp)
      unfold rdec rcode
      rw [if_neg (by omega)]
      rw [show (rcode l * 32 + z.toNat) % 32 = z.toNat by omega, show (rcode l * 32 + z.toNat) / 32 = rcode l by omega, ih (by simpa using hf) (fun x hx => hz x (by simp [hx]))]
      rw [show ((z.toNat : Nat) : Int) = z by omega]
def rowsB (ls : List (List Int)) : Bool := ls.all (fun l => Nat.ble l.length 20 && l.all (fun z => decide (1 ≤ z ∧ z ≤ 20)))
theorem rowsB_ok {ls : List (List Int)} (h : rowsB ls = true) : ∀ l ∈ ls, PartR l := by
  intro l hl
  have := List.all_eq_true.1 h l hl
  simp only [Bool.and_eq_true] at this
  refine ⟨Nat.le_of_ble_eq_true this.1, fun z hz => ?_⟩
  exact of_decide_eq_true (List.all_eq_true.1 this.2 z hz)
theorem rows_run : ∀ m, m < 21 → rowsB (genA m) = true ∧ rowsB (rgF 21 1 m []) = true ∧ (rgF 21 1 m []).length ≤ 1000 := by decide +kernel
theorem genA_row {n : Nat} (h : n ≤ 20) : ∀ l ∈ genA n, PartR l := rowsB_ok (rows_run n (by omega)).1
theorem back_map {ls : List (List Int)} (h : ∀ l ∈ ls, PartR l) : (ls.map rcode).map (rdec 20) = ls := by
  rw [List.map_map]
  conv => rhs; rw [← List.map_id ls]
  exact List.map_congr_left (fun l hl => rdec_rcode (h l hl).1 (h l hl).2)
theorem rg_perm {n : Nat} (h : n ≤ 20) : (rgF 21 1 n []).Perm (genA n) := by
  have h1 := (sameNs_perm (rg_codes n (by omega))).map (rdec 20)
  rw [back_map (rowsB_ok (rows_run n (by omega)).2.1), back_map (fun l hl => genA_row h l (List.mem_reverse.1 hl))] at h1
  exact h1.trans (List.reverse_perm _)
theorem rg_len {n : Nat} (h : n ≤ 20) : (rgF 21 1 n []).length ≤ 1000 := (rows_run n (by omega)).2.2

end Go.Proofs.YthpkjnfmkinepaaDoor
