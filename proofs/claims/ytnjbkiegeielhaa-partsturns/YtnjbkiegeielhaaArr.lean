/-
  The array of 41 counts as the world holds it.
-/
import Derived.Test.YtnjbkiegeielhaaApp
import Derived.Laws.Tables
namespace Go.Proofs.Ytnjbkiegeielhaa
open Go.RowKit

def cellsOf (f : Nat → Int) : Array Value := ((List.range 41).map fun j => Value.int .i64 (f j)).toArray
theorem cellsOf_size (f : Nat → Int) : (cellsOf f).size = 41 := by simp [cellsOf]
theorem cellsOf_one (f : Nat → Int) : (cellsOf f).all (·.oneCell') = true := by
  rw [Array.all_eq_true_iff_forall_mem]
  intro v hv
  simp only [cellsOf, List.mem_toArray, List.mem_map] at hv
  obtain ⟨j, _, rfl⟩ := hv
  rfl
theorem cellsOf_get (f : Nat → Int) (j : Nat) (hj : j < 41) : (cellsOf f)[j]? = some (.int .i64 (f j)) := by
  simp [cellsOf, hj]
def upd (f : Nat → Int) (j : Nat) (x : Int) : Nat → Int := fun i => if i = j then x else f i
theorem upd_same (f : Nat → Int) (j : Nat) (x : Int) : upd f j x j = x := by simp [upd]
theorem upd_ne (f : Nat → Int) {i j : Nat} (x : Int) (h : i ≠ j) : upd f j x i = f i := by simp [upd, h]
theorem cellsOf_congr {f g : Nat → Int} (h : ∀ j, j < 41 → f j = g j) : cellsOf f = cellsOf g := by
  unfold cellsOf
  congr 1
  exact List.map_congr_left (fun j hj => by rw [h j (List.mem_range.1 hj)])
theorem cellsOf_set (f : Nat → Int) (j : Nat) (x : Int) : (cellsOf f).setIfInBounds j (.int .i64 x) = cellsOf (upd f j x) := by
  apply Array.ext_getElem?
  intro i
  rw [Array.getElem?_setIfInBounds]
  by_cases hi : i < 41
  · rw [cellsOf_get _ _ hi, cellsOf_get _ _ hi]
    by_cases h : j = i
    · subst h; rw [if_pos rfl, if_pos (by rw [cellsOf_size]; exact hi), upd_same]
    · rw [if_neg h, upd_ne _ _ (fun e => h e.symm)]
  · have e1 : (cellsOf f)[i]? = none := by rw [Array.getElem?_eq_none_iff, cellsOf_size]; omega
    have e2 : (cellsOf (upd f j x))[i]? = none := by rw [Array.getElem?_eq_none_iff, cellsOf_size]; omega
    rw [e1, e2]
    by_cases h : j = i
    · subst h; rw [if_pos rfl, if_neg (by rw [cellsOf_size]; exact hi)]
    · rw [if_neg h]

/-- Block g holds the counts f. -/
def Arr (w : World) (g : Nat) (f : Nat → Int) : Prop := w.heap[g]? = some (.cells (cellsOf f) 51 (0, 0))

theorem Arr.lt {w : World} {g : Nat} {f : Nat → Int} (h : Arr w g f) : g < w.heap.size := by
  rcases Nat.lt_or_ge g w.heap.size with h' | h'
  · exact h'
  · unfold Arr at h; rw [Array.getElem?_eq_none h'] at h; cases h
theorem Arr.cell {w : World} {g : Nat} {f : Nat → Int} (h : Arr w g f) {j : Nat} (hj : j < 41) : w.cell? ⟨g, j, none⟩ = some (.int .i64 (f j)) := by
  rw [cell_of_row w g j _ _ _ h, cellsOf_get _ _ hj]
theorem Arr.frozen {w : World} {g : Nat} {f : Nat → Int} (h : Arr w g f) (j : Nat) : w.frozen? ⟨g, j, none⟩ = false := frozen_of_row w g j _ _ h
theorem Arr.store {w : World} {g : Nat} {f : Nat → Int} (h : Arr w g f) (j : Nat) (x : Int) : Arr (w.setCell ⟨g, j, none⟩ (.int .i64 x)) g (upd f j x) := by
  unfold Arr
  rw [heap_setCell_same w g j _ 51 _ h, cellsOf_set]
theorem Arr.other {w : World} {g g' : Nat} {f : Nat → Int} (h : Arr w g f) (hne : g ≠ g') (j : Nat) (u : Value) : Arr (w.setCell ⟨g', j, none⟩ u) g f := by
  unfold Arr
  rw [heap_setCell_other _ _ _ _ hne]; exact h
theorem Arr.below {w w' : World} {g : Nat} {f : Nat → Int} (h : Arr w g f) (hb : Below w.heap.size w w') : Arr w' g f := by
  unfold Arr; rw [hb.block g h.lt]; exact h
theorem Arr.congr {w : World} {g : Nat} {f f' : Nat → Int} (h : Arr w g f) (he : ∀ j, j < 41 → f j = f' j) : Arr w g f' := by
  unfold Arr; rw [← cellsOf_congr he]; exact h
theorem Try.sz51 (f : Nat → Int) : (Try.prog.info? 51).map (·.size) = some (cellsOf f).size := by
  rw [cellsOf_size]; kernel_rfl

/-- How often j is among the numbers. -/
def cnt (zs : List Int) (j : Nat) : Int := ((zs.countP fun z => z == (j : Int) : Nat) : Int)
theorem cnt_nil (j : Nat) : cnt [] j = 0 := rfl
theorem cnt_nonneg (zs : List Int) (j : Nat) : 0 ≤ cnt zs j := by unfold cnt; omega
theorem cnt_le (zs : List Int) (j : Nat) : cnt zs j ≤ zs.length := by
  unfold cnt; have := List.countP_le_length (p := fun z => z == (j : Int)) (l := zs); omega
theorem cnt_snoc (zs : List Int) (z : Int) (m : Nat) (hz : z = m) : cnt (zs ++ [z]) = upd (cnt zs) m (cnt zs m + 1) := by
  subst hz
  funext j
  unfold cnt upd
  rw [List.countP_append]
  by_cases h : j = m
  · subst h; simp
  · simp only [if_neg h]
    have : ((m : Int) == (j : Int)) = false := beq_eq_false_iff_ne.2 (by omega)
    simp [this]
theorem cnt_cons (zs : List Int) (z : Int) (j : Nat) : cnt (z :: zs) j = cnt zs j + if z = (j : Int) then 1 else 0 := by
  unfold cnt
  rw [List.countP_cons]
  by_cases h : z = (j : Int)
  · simp [h]
  · have : (z == (j : Int)) = false := beq_eq_false_iff_ne.2 h
    simp [h]

#print axioms cellsOf_set
end Go.Proofs.Ytnjbkiegeielhaa
