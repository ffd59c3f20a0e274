/-
  Tables of ints as an address shows them; the contract of ferref.Joined.
-/
import Derived.Test.YthfbkangjpcpgaaDoorBApp
namespace Go.Proofs.YthfbkangjpcpgaaDoor
open Go.RowKit

/-- The address a shows the rows ls. -/
def Table (w : World) (a : Option Addr) (ls : List (List Int)) : Prop := ∀ i, i < ls.length → ∃ b off ai ci, a = some ⟨b, off, none⟩ ∧ b < w.heap.size ∧ w.cell? ⟨b, off + i, none⟩ = some (.slice ai (ls.getD i []).length ci) ∧ Shows w ai (ls.getD i []) ∧ (ai = none → ls.getD i [] = [] ∧ ci = 0)

theorem Table.below {w w' : World} {a : Option Addr} {ls : List (List Int)} (h : Table w a ls) (hb : Below w.heap.size w w') : Table w' a ls := fun i hi => by
  obtain ⟨b, off, ai, ci, h1, h2, h3, h4, h5⟩ := h i hi
  exact ⟨b, off, ai, ci, h1, Nat.lt_of_lt_of_le h2 hb.size, (hb.cell h2).trans h3, h4.below hb, h5⟩

theorem take_flat (ls : List (List Int)) (k : Nat) (hk : k < ls.length) : (ls.take (k + 1)).flatten = (ls.take k).flatten ++ ls.getD k [] := by
  rw [List.take_succ_eq_append_getElem hk, List.flatten_append]
  simp [List.getD, List.getElem?_eq_getElem hk]
theorem take_flat_le (ls : List (List Int)) (k : Nat) : (ls.take k).flatten.length ≤ ls.flatten.length := by
  conv => rhs; rw [← List.take_append_drop k ls]
  rw [List.flatten_append, List.length_append]; omega


end Go.Proofs.YthfbkangjpcpgaaDoor
