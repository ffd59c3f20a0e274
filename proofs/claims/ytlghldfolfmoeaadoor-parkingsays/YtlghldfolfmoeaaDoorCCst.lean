/-
  Lists of natural numbers as the memory has them.
-/
import Derived.Test.YtlghldfolfmoeaaDoorTTab
import Derived.Test.YtlghldfolfmoeaaDoorRuA
namespace Go.Proofs.YtlghldfolfmoeaaDoor
open Go.RowKit

def castL (l : List Nat) : List Int := l.map fun (n : Nat) => (n : Int)
def castT (t : List (List Nat)) : List (List Int) := t.map castL
def uL (n : Nat) (u : Nat → Nat) : List Nat := (List.range (n + 1)).map u
theorem castL_len (l : List Nat) : (castL l).length = l.length := by simp [castL]
theorem castT_len (t : List (List Nat)) : (castT t).length = t.length := by simp [castT]
theorem castL_at (l : List Nat) (j : Nat) : (castL l).getD j 0 = (l.getD j 0 : Int) := by
  simp only [castL, List.getD, List.getElem?_map]
  cases l[j]? with
  | none => rfl
  | some v => rfl
theorem castT_at (t : List (List Nat)) (i : Nat) : (castT t).getD i [] = castL (t.getD i []) := by
  simp only [castT, List.getD, List.getElem?_map]
  cases t[i]? with
  | none => rfl
  | some v => rfl
theorem uL_at {n : Nat} {u : Nat → Nat} {x : Nat} (h : x ≤ n) : (uL n u).getD x 0 = u x := by
  simp [uL, List.getD, show x < n + 1 by omega]
theorem tabN_row {c : Nat → Nat} {m : Nat} {g : Nat → Nat → Nat} {i : Nat} (hi : i < m) : (tabN c m g).getD i [] = (List.range (c i)).map (g i) := by
  simp [tabN, List.getD, hi]
theorem tabN_len (c : Nat → Nat) (m : Nat) (g : Nat → Nat → Nat) : (tabN c m g).length = m := by simp [tabN]

/-- Box i, j of the rows. -/
theorem castL_lt {l : List Nat} {b : Nat} (h : ∀ z ∈ l, z ≤ b) : ∀ z ∈ castL l, 0 ≤ z ∧ z ≤ b := fun z hz => by
  simp only [castL, List.mem_map] at hz
  obtain ⟨k, hk, rfl⟩ := hz
  have := h k hk
  omega
theorem getD_le {l : List Nat} {b : Nat} (h : ∀ z ∈ l, z ≤ b) (i : Nat) : l.getD i 0 ≤ b := by
  by_cases hi : i < l.length
  · simp only [List.getD, List.getElem?_eq_getElem hi, Option.getD_some]; exact h _ (List.getElem_mem hi)
  · simp [List.getD, List.getElem?_eq_none (Nat.le_of_not_lt hi)]
/-- One number of what is shown. -/
theorem Shows.nat {w : World} {a : Option Addr} {l : List Nat} (h : Shows w a (castL l)) {i : Nat} (hi : i < l.length) : ∃ b off, a = some ⟨b, off, none⟩ ∧ w.cell? ⟨b, off + i, none⟩ = some (.int .i64 ((l.getD i 0 : Nat) : Int)) := by
  obtain ⟨b, off, z, e, HZ, -, -, hc⟩ := h.elem (by rw [castL_len]; exact hi)
  exact ⟨b, off, e, by rw [hc, HZ.out, castL_at]⟩

end Go.Proofs.YtlghldfolfmoeaaDoor
