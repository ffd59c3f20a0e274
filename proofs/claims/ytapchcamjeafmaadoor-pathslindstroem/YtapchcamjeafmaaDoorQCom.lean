/-
  The table of numbers of paths that have come to each point: its mathematics, and its memory.
-/
import Derived.Test.YtapchcamjeafmaaDoorQLgx
import Derived.Test.YtapchcamjeafmaaDoorQRgc
import Derived.Test.YtapchcamjeafmaaDoorQFms
namespace Go.Proofs.YtapchcamjeafmaaDoor
open Go.RowKit

/-- Which points are done: rows ahead of x, and row x ahead of y. -/
def prC (a : Nat × Nat) (bY x y i j : Nat) : Bool := decide (a.1 ≤ i ∧ a.2 ≤ j ∧ j ≤ bY ∧ (i < x ∨ i = x ∧ j < y))
theorem prC_iff {a : Nat × Nat} {bY x y i j : Nat} : prC a bY x y i j = true ↔ a.1 ≤ i ∧ a.2 ≤ j ∧ j ≤ bY ∧ (i < x ∨ i = x ∧ j < y) := by unfold prC; rw [decide_eq_true_eq]
theorem prC_no {a : Nat × Nat} {bY x y i j : Nat} (h : ¬ (a.1 ≤ i ∧ a.2 ≤ j ∧ j ≤ bY ∧ (i < x ∨ i = x ∧ j < y))) : prC a bY x y i j = false := by unfold prC; exact decide_eq_false h
theorem prC_yes {a : Nat × Nat} {bY x y i j : Nat} (h : a.1 ≤ i ∧ a.2 ≤ j ∧ j ≤ bY ∧ (i < x ∨ i = x ∧ j < y)) : prC a bY x y i j = true := prC_iff.2 h
theorem prC_same {a : Nat × Nat} {bY x y i j x' y' i' j' : Nat} (h : (a.1 ≤ i ∧ a.2 ≤ j ∧ j ≤ bY ∧ (i < x ∨ i = x ∧ j < y)) ↔ (a.1 ≤ i' ∧ a.2 ≤ j' ∧ j' ≤ bY ∧ (i' < x' ∨ i' = x' ∧ j' < y'))) : prC a bY x y i j = prC a bY x' y' i' j' := by
  rw [Bool.eq_iff_iff, prC_iff, prC_iff]; exact h
/-- What comes from the left, and from below. -/
def flC (cl : Nat → Bool) (a : Nat × Nat) (bY x y i j : Nat) : Nat := if decide (0 < i) && prC a bY x y (i - 1) j then nP cl a (i - 1, j) else 0
def fdC (cl : Nat → Bool) (a : Nat × Nat) (bY x y i j : Nat) : Nat := if decide (0 < j) && prC a bY x y i (j - 1) then nP cl a (i, j - 1) else 0
/-- What stands in the table then. -/
def tvC (cl : Nat → Bool) (a : Nat × Nat) (bY x y i j : Nat) : Nat :=
  if prC a bY x y i j = true then nP cl a (i, j) else (if a = (i, j) then 1 else 0) + flC cl a bY x y i j + fdC cl a bY x y i j
def tvF (cl : Nat → Bool) (a : Nat × Nat) (bY x y : Nat) : Nat → Int := fun k => (tvC cl a bY x y (k / 9) (k % 9) : Int)
theorem fl_no {cl : Nat → Bool} {a : Nat × Nat} {bY x y i j : Nat} (h : ¬ (0 < i ∧ a.1 ≤ i - 1 ∧ a.2 ≤ j ∧ j ≤ bY ∧ (i - 1 < x ∨ i - 1 = x ∧ j < y))) : flC cl a bY x y i j = 0 := by
  unfold flC
  rw [if_neg]
  rw [Bool.and_eq_true, decide_eq_true_eq, prC_iff]; omega
theorem fl_yes {cl : Nat → Bool} {a : Nat × Nat} {bY x y i j : Nat} (h : 0 < i ∧ a.1 ≤ i - 1 ∧ a.2 ≤ j ∧ j ≤ bY ∧ (i - 1 < x ∨ i - 1 = x ∧ j < y)) : flC cl a bY x y i j = nP cl a (i - 1, j) := by
  unfold flC
  rw [if_pos]
  rw [Bool.and_eq_true, decide_eq_true_eq, prC_iff]; omega
theorem fd_no {cl : Nat → Bool} {a : Nat × Nat} {bY x y i j : Nat} (h : ¬ (0 < j ∧ a.1 ≤ i ∧ a.2 ≤ j - 1 ∧ j - 1 ≤ bY ∧ (i < x ∨ i = x ∧ j - 1 < y))) : fdC cl a bY x y i j = 0 := by
  unfold fdC
  rw [if_neg]
  rw [Bool.and_eq_true, decide_eq_true_eq, prC_iff]; omega
theorem fd_yes {cl : Nat → Bool} {a : Nat × Nat} {bY x y i j : Nat} (h : 0 < j ∧ a.1 ≤ i ∧ a.2 ≤ j - 1 ∧ j - 1 ≤ bY ∧ (i < x ∨ i = x ∧ j - 1 < y)) : fdC cl a bY x y i j = nP cl a (i, j - 1) := by
  unfold fdC
  rw [if_pos]
  rw [Bool.and_eq_true, decide_eq_true_eq, prC_iff]; omega
theorem tv_no {cl : Nat → Bool} {a : Nat × Nat} {bY x y i j : Nat} (h : ¬ (a.1 ≤ i ∧ a.2 ≤ j ∧ j ≤ bY ∧ (i < x ∨ i = x ∧ j < y))) : tvC cl a bY x y i j = (if a = (i, j) then 1 else 0) + flC cl a bY x y i j + fdC cl a bY x y i j := by
  unfold tvC
  rw [if_neg (c := prC a bY x y i j = true) (by rw [prC_iff]; exact h)]
theorem tv_yes {cl : Nat → Bool} {a : Nat × Nat} {bY x y i j : Nat} (h : a.1 ≤ i ∧ a.2 ≤ j ∧ j ≤ bY ∧ (i < x ∨ i = x ∧ j < y)) : tvC cl a bY x y i j = nP cl a (i, j) := by
  unfold tvC
  rw [if_pos (prC_iff.2 h)]
theorem tv_start (cl : Nat → Bool) (a : Nat × Nat) (bY i j : Nat) : tvC cl a bY a.1 a.2 i j = if a = (i, j) then 1 else 0 := by
  rw [tv_no (by omega), fl_no (by omega), fd_no (by omega)]; omega
theorem tv_same {cl : Nat → Bool} {a : Nat × Nat} {bY x y x' y' : Nat} (i j : Nat) (h1 : prC a bY x y i j = prC a bY x' y' i j) (h2 : 0 < i → prC a bY x y (i - 1) j = prC a bY x' y' (i - 1) j) (h3 : 0 < j → prC a bY x y i (j - 1) = prC a bY x' y' i (j - 1)) : tvC cl a bY x y i j = tvC cl a bY x' y' i j := by
  unfold tvC flC fdC
  rw [h1]
  congr 2
  · congr 1
    by_cases h0 : 0 < i
    · rw [h2 h0]
    · rw [decide_eq_false h0]; rfl
  · by_cases h0 : 0 < j
    · rw [h3 h0]
    · rw [decide_eq_false h0]; rfl
theorem tv_row (cl : Nat → Bool) (a : Nat × Nat) (bY x i j : Nat) : tvC cl a bY x (max a.2 (bY + 1)) i j = tvC cl a bY (x + 1) a.2 i j :=
  tv_same i j (prC_same (by omega)) (fun _ => prC_same (by omega)) (fun _ => prC_same (by omega))
theorem tv_raw (cl : Nat → Bool) (a : Nat × Nat) {bY x y : Nat} (hx : a.1 ≤ x) (hy : a.2 ≤ y) (hb : y ≤ bY) : tvC cl a bY x y x y = (if a = (x, y) then 1 else 0) + lfP cl a (x, y) + dwP cl a (x, y) := by
  rw [tv_no (by omega)]
  unfold lfP dwP
  congr 1
  · congr 1
    by_cases h0 : 0 < x
    · rw [if_pos h0]
      by_cases h : a.1 ≤ x - 1
      · rw [fl_yes (by omega)]
      · rw [fl_no (by omega), nP_far (Or.inl (by simp only; omega))]
    · rw [if_neg h0, fl_no (by omega)]
  · by_cases h0 : 0 < y
    · rw [if_pos h0]
      by_cases h : a.2 ≤ y - 1
      · rw [fd_yes (by omega)]
      · rw [fd_no (by omega), nP_far (Or.inr (by simp only; omega))]
    · rw [if_neg h0, fd_no (by omega)]
theorem tv_step (cl : Nat → Bool) (a : Nat × Nat) {bY x y : Nat} (hx : a.1 ≤ x) (hy : a.2 ≤ y) (hb : y ≤ bY) (i j : Nat) : tvC cl a bY x (y + 1) i j =
    if i = x ∧ j = y then nP cl a (x, y) else if i = x + 1 ∧ j = y then tvC cl a bY x y i j + nP cl a (x, y) else if i = x ∧ j = y + 1 then tvC cl a bY x y i j + nP cl a (x, y) else tvC cl a bY x y i j := by
  by_cases h1 : i = x ∧ j = y
  · obtain ⟨rfl, rfl⟩ := h1
    rw [if_pos ⟨rfl, rfl⟩, tv_yes (by omega)]
  · rw [if_neg h1]
    by_cases h2 : i = x + 1 ∧ j = y
    · obtain ⟨rfl, rfl⟩ := h2
      rw [if_pos ⟨rfl, rfl⟩, tv_no (by omega), tv_no (by omega), fl_yes (y := j + 1) (by omega), fl_no (y := j) (by omega), fd_no (y := j + 1) (by omega), fd_no (y := j) (by omega), show x + 1 - 1 = x by omega]
      omega
    · rw [if_neg h2]
      by_cases h3 : i = x ∧ j = y + 1
      · obtain ⟨rfl, rfl⟩ := h3
        rw [if_pos ⟨rfl, rfl⟩, tv_no (by omega), tv_no (by omega), fd_yes (y := y + 1) (by omega), fd_no (y := y) (by omega), show y + 1 - 1 = y by omega]
        have e : flC cl a bY i (y + 1) i (y + 1) = flC cl a bY i y i (y + 1) := by
          unfold flC
          rw [prC_same (a := a) (bY := bY) (x := i) (y := y + 1) (i := i - 1) (j := y + 1) (x' := i) (y' := y) (i' := i - 1) (j' := y + 1) (by omega)]
        rw [e]
        omega
      · rw [if_neg h3]
        exact tv_same i j (prC_same (by omega)) (fun _ => prC_same (by omega)) (fun _ => prC_same (by omega))
theorem tv_bd (cl : Nat → Bool) (a : Nat × Nat) {bY x y : Nat} (hx : x ≤ 8) (hb : bY < 8) (hy : x = 8 → y ≤ a.2) (i j : Nat) : tvC cl a bY x y i j ≤ 40000 := by
  have h1 : ∀ i j, prC a bY x y i j = true → nP cl a (i, j) ≤ 16384 := fun i j h => by
    rw [prC_iff] at h
    exact nP_bd (by simp only; omega) (by simp only; omega)
  unfold tvC
  split
  · rename_i h; have := h1 i j h; omega
  · have h2 : flC cl a bY x y i j ≤ 16384 := by
      unfold flC
      split
      · rename_i h; rw [Bool.and_eq_true] at h; exact h1 _ _ h.2
      · omega
    have h3 : fdC cl a bY x y i j ≤ 16384 := by
      unfold fdC
      split
      · rename_i h; rw [Bool.and_eq_true] at h; exact h1 _ _ h.2
      · omega
    split <;> omega
theorem tv_end (cl : Nat → Bool) (a b : Nat × Nat) : tvC cl a b.2 (max a.1 (b.1 + 1)) a.2 b.1 b.2 = nP cl a b := by
  by_cases h : a.1 ≤ b.1 ∧ a.2 ≤ b.2
  · rw [tv_yes (by omega)]
  · rw [tv_no (by omega), nP_far (by omega), fl_no (by omega), fd_no (by omega), if_neg (by rintro rfl; simp at h)]

/-- Block g holds the numbers f. -/
def ArN (w : World) (g : Nat) (f : Nat → Int) : Prop := w.heap[g]? = some (.cells (rgC 81 fun k => .int .i64 (f k)) 57 (0, 0))
theorem ArN.cell {w : World} {g : Nat} {f : Nat → Int} (h : ArN w g f) {j : Nat} (hj : j < 81) : w.cell? ⟨g, j, none⟩ = some (.int .i64 (f j)) := by
  rw [cell_of_row w g j _ _ _ h, rgC_get _ _ _ hj]
theorem ArN.frozen {w : World} {g : Nat} {f : Nat → Int} (h : ArN w g f) (j : Nat) : w.frozen? ⟨g, j, none⟩ = false := frozen_of_row w g j _ _ h
def upN (f : Nat → Int) (j : Nat) (x : Int) : Nat → Int := fun i => if i = j then x else f i
theorem ArN.store {w : World} {g : Nat} {f : Nat → Int} (h : ArN w g f) (j : Nat) (x : Int) : ArN (w.setCell ⟨g, j, none⟩ (.int .i64 x)) g (upN f j x) := by
  unfold ArN
  rw [heap_setCell_same w g j _ 57 _ h, rgC_set]
  congr 3
  funext k
  unfold upN
  split <;> rfl
theorem ArN.congr {w : World} {g : Nat} {f f' : Nat → Int} (h : ArN w g f) (he : ∀ j, j < 81 → f j = f' j) : ArN w g f' := by
  unfold ArN at h ⊢
  rw [h]
  congr 2
  unfold rgC
  congr 1
  apply List.map_congr_left
  intro k hk
  rw [he k (List.mem_range.1 hk)]
theorem ArN.same {w w' : World} {g : Nat} {f : Nat → Int} (h : ArN w g f) (he : w'.heap[g]? = w.heap[g]?) : ArN w' g f := by
  unfold ArN; rw [he]; exact h
theorem zeroN : (Tryd.prog.info? 57).map (fun i => i.zero) = some (some (.agg (rgC 81 fun _ => .int .i64 0))) := by kernel_rfl
theorem run_zeroN (w : World) : (zeroValue 57).run Tryd.prog w = .ok (.agg (rgC 81 fun _ => .int .i64 0)) w := by
  have h := zeroN
  cases hi : Tryd.prog.info? 57 with
  | none => rw [hi] at h; simp at h
  | some i =>
    rw [hi] at h
    simp only [Option.map_some, Option.some.injEq] at h
    simp [zeroValue, typeInfo, hi, h]
end Go.Proofs.YtapchcamjeafmaaDoor
