/-
  Rows and boxes of tables: plain facts (split off LMath).
-/
import Derived.Test.YtfdhbnbmobmlpaaDoorBOwn
namespace Go.Proofs.YtfdhbnbmobmlpaaDoor

/-- The row a, the box (a, b). -/
def row (ls : List (List Int)) (a : Nat) : List Int := ls.getD a []
def box (ls : List (List Int)) (a b : Nat) : Int := (row ls a).getD b 0
theorem row_mem {ls : List (List Int)} {a : Nat} (h : a < ls.length) : row ls a ∈ ls := by simp [row, List.getD, List.getElem?_eq_getElem h]
theorem mem_row {ls : List (List Int)} {r : List Int} (h : r ∈ ls) : ∃ a, a < ls.length ∧ row ls a = r := by
  obtain ⟨a, ha, rfl⟩ := List.mem_iff_getElem.1 h
  exact ⟨a, ha, by simp [row, List.getD, List.getElem?_eq_getElem ha]⟩
theorem row_out {ls : List (List Int)} {a : Nat} (h : ls.length ≤ a) : row ls a = [] := by simp [row, List.getD, List.getElem?_eq_none h]
theorem ext_row {ls ms : List (List Int)} (hl : ls.length = ms.length) (h : ∀ a, a < ls.length → row ls a = row ms a) : ls = ms := by
  refine List.ext_getElem hl (fun j h1 h2 => ?_)
  simpa [row, List.getD, List.getElem?_eq_getElem h1, List.getElem?_eq_getElem h2] using h j h1

end Go.Proofs.YtfdhbnbmobmlpaaDoor
