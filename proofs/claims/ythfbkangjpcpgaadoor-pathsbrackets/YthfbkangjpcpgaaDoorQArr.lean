/-
  An array of 61 rows of 62 numbers in a block, and what paths.allEndings fills it with.
-/
import Derived.Test.YthfbkangjpcpgaaDoorBApp
import Derived.Test.YthfbkangjpcpgaaDoorQEnd
import Derived.Laws.Tables
namespace Go.Proofs.YthfbkangjpcpgaaDoor
open Go.RowKit

def celE (f : Nat → Int) : Array Value := ((List.range 3782).map fun j => Value.int .i64 (f j)).toArray
theorem celE_get (f : Nat → Int) (j : Nat) (hj : j < 3782) : (celE f)[j]? = some (.int .i64 (f j)) := by
  simp [celE, hj]
def upE (f : Nat → Int) (j : Nat) (x : Int) : Nat → Int := fun i => if i = j then x else f i
theorem celE_congr {f g : Nat → Int} (h : ∀ j, j < 3782 → f j = g j) : celE f = celE g := by
  have e : (List.range 3782).map (fun j => Value.int .i64 (f j)) = (List.range 3782).map (fun j => Value.int .i64 (g j)) := List.map_congr_left fun j hj => by rw [h j (List.mem_range.1 hj)]
  unfold celE
  rw [e]
theorem celE_set (f : Nat → Int) (j : Nat) (x : Int) : (celE f).setIfInBounds j (.int .i64 x) = celE (upE f j x) := by
  apply Array.ext_getElem?
  intro i
  by_cases hi : i < 3782
  · rw [celE_get _ _ hi]
    by_cases e : i = j
    · subst e
      rw [Array.getElem?_setIfInBounds_self_of_lt (by simpa [celE] using hi)]
      simp [upE]
    · rw [Array.getElem?_setIfInBounds_ne (by omega), celE_get _ _ hi]
      simp [upE, e]
  · rw [Array.getElem?_eq_none (by simp [celE]; omega), Array.getElem?_eq_none (by simp [celE]; omega)]

/-- Block g holds the numbers f. -/
def ArrE (w : World) (g : Nat) (f : Nat → Int) : Prop := w.heap[g]? = some (.cells (celE f) 62 (0, 0))
theorem ArrE.cell {w : World} {g : Nat} {f : Nat → Int} (h : ArrE w g f) {j : Nat} (hj : j < 3782) : w.cell? ⟨g, j, none⟩ = some (.int .i64 (f j)) := by
  rw [cell_of_row w g j _ _ _ h, celE_get _ _ hj]
theorem ArrE.frozen {w : World} {g : Nat} {f : Nat → Int} (h : ArrE w g f) (j : Nat) : w.frozen? ⟨g, j, none⟩ = false := frozen_of_row w g j _ _ h
theorem ArrE.store {w : World} {g : Nat} {f : Nat → Int} (h : ArrE w g f) (j : Nat) (x : Int) : ArrE (w.setCell ⟨g, j, none⟩ (.int .i64 x)) g (upE f j x) := by
  unfold ArrE
  rw [heap_setCell_same w g j _ 62 _ h, celE_set]
theorem ArrE.congr {w : World} {g : Nat} {f f' : Nat → Int} (h : ArrE w g f) (he : ∀ j, j < 3782 → f j = f' j) : ArrE w g f' := by
  unfold ArrE; rw [← celE_congr he]; exact h
theorem ArrE.same {w w' : World} {g : Nat} {f : Nat → Int} (h : ArrE w g f) (he : w'.heap[g]? = w.heap[g]?) : ArrE w' g f := by
  unfold ArrE; rw [he]; exact h
theorem ArrE.lt {w : World} {g : Nat} {f : Nat → Int} (h : ArrE w g f) : g < w.heap.size := by
  unfold ArrE at h
  rcases Nat.lt_or_ge g w.heap.size with q | q
  · exact q
  · rw [Array.getElem?_eq_none q] at h; cases h

/-- Rows below l are done, and o of row l. -/
def tE (l o k : Nat) : Int := if k / 62 < l ∨ k / 62 = l ∧ k % 62 < o then (eW (k / 62) (k % 62) : Int) else 0
def tF (k : Nat) : Int := (eW (k / 62) (k % 62) : Int)
theorem at_row {l o : Nat} (ho : o < 62) : (l * 62 + o) / 62 = l ∧ (l * 62 + o) % 62 = o := by omega
theorem tE_low {l o r c : Nat} (hc : c < 62) (h : r < l) : tE l o (r * 62 + c) = (eW r c : Int) := by
  have := at_row (l := r) hc
  unfold tE
  rw [this.1, this.2, if_pos (Or.inl h)]
theorem tF_at {r c : Nat} (hc : c < 62) : tF (r * 62 + c) = (eW r c : Int) := by
  have := at_row (l := r) hc
  unfold tF
  rw [this.1, this.2]
theorem tE_start (k : Nat) (hk : k < 3782) : upE (fun _ => 0) 0 1 k = tE 1 0 k := by
  unfold upE tE
  by_cases h : k = 0
  · subst h; rfl
  · rw [if_neg h]
    by_cases h1 : k / 62 < 1 ∨ k / 62 = 1 ∧ k % 62 < 0
    · rw [if_pos h1, show k / 62 = 0 by omega, eW, if_neg (by omega)]; rfl
    · rw [if_neg h1]
theorem tE_step (l o : Nat) (ho : o < 62) (k : Nat) : upE (tE l o) (l * 62 + o) (eW l o : Int) k = tE l (o + 1) k := by
  unfold upE
  by_cases h : k = l * 62 + o
  · rw [if_pos h, h]
    unfold tE
    have := at_row (l := l) ho
    rw [this.1, this.2, if_pos (Or.inr ⟨rfl, by omega⟩)]
  · rw [if_neg h]
    unfold tE
    by_cases h1 : k / 62 < l ∨ k / 62 = l ∧ k % 62 < o
    · rw [if_pos h1, if_pos (by omega)]
    · rw [if_neg h1, if_neg (by omega)]
theorem tE_row (l : Nat) (hl : l ≤ 60) (k : Nat) : tE l 61 k = tE (l + 1) 0 k := by
  unfold tE
  by_cases h : k / 62 < l ∨ k / 62 = l ∧ k % 62 < 61
  · rw [if_pos h, if_pos (by omega)]
  · rw [if_neg h]
    by_cases h2 : k / 62 < l + 1 ∨ k / 62 = l + 1 ∧ k % 62 < 0
    · rw [if_pos h2, eW_far _ _ (by omega)]; rfl
    · rw [if_neg h2]
theorem tE_all (k : Nat) (hk : k < 3782) : tE 61 0 k = tF k := by
  unfold tE tF
  rw [if_pos (by omega)]

theorem zeroE : (Tryd.prog.info? 62).map (fun i => i.zero) = some (some (.agg (celE fun _ => 0))) := by kernel_rfl
theorem run_zeroE (w : World) : (zeroValue 62).run Tryd.prog w = .ok (.agg (celE fun _ => 0)) w := by
  have h := zeroE
  cases hi : Tryd.prog.info? 62 with
  | none => rw [hi] at h; simp at h
  | some i =>
    rw [hi] at h
    simp only [Option.map_some, Option.some.injEq] at h
    simp [zeroValue, typeInfo, hi, h]

end Go.Proofs.YthfbkangjpcpgaaDoor
