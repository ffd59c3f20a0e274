/-
  An array of 21 rows of 21 bools in a block: which vertices are joined.
-/
import Derived.Test.YtihafckdaecgkaaBApp
import Derived.Test.YtihafckdaecgkaaZLiu
import Derived.Laws.Tables
namespace Go.Proofs.Ytihafckdaecgkaa
open Go.RowKit

def celU (f : Nat → Bool) : Array Value := ((List.range 441).map fun j => Value.bool (f j)).toArray
theorem celU_get (f : Nat → Bool) (j : Nat) (hj : j < 441) : (celU f)[j]? = some (.bool (f j)) := by
  simp [celU, hj]
def upU (f : Nat → Bool) (j : Nat) (x : Bool) : Nat → Bool := fun i => if i = j then x else f i
theorem celU_congr {f g : Nat → Bool} (h : ∀ j, j < 441 → f j = g j) : celU f = celU g := by
  have e : (List.range 441).map (fun j => Value.bool (f j)) = (List.range 441).map (fun j => Value.bool (g j)) := List.map_congr_left fun j hj => by rw [h j (List.mem_range.1 hj)]
  unfold celU
  rw [e]
theorem celU_set (f : Nat → Bool) (j : Nat) (x : Bool) : (celU f).setIfInBounds j (.bool x) = celU (upU f j x) := by
  apply Array.ext_getElem?
  intro i
  by_cases hi : i < 441
  · rw [celU_get _ _ hi]
    by_cases e : i = j
    · subst e
      rw [Array.getElem?_setIfInBounds_self_of_lt (by simpa [celU] using hi)]
      simp [upU]
    · rw [Array.getElem?_setIfInBounds_ne (by omega), celU_get _ _ hi]
      simp [upU, e]
  · rw [Array.getElem?_eq_none (by simp [celU]; omega), Array.getElem?_eq_none (by simp [celU]; omega)]

/-- Block g holds the bools f. -/
def ArU (w : World) (g : Nat) (f : Nat → Bool) : Prop := w.heap[g]? = some (.cells (celU f) 53 (0, 0))
theorem ArU.cell {w : World} {g : Nat} {f : Nat → Bool} (h : ArU w g f) {j : Nat} (hj : j < 441) : w.cell? ⟨g, j, none⟩ = some (.bool (f j)) := by
  rw [cell_of_row w g j _ _ _ h, celU_get _ _ hj]
theorem ArU.frozen {w : World} {g : Nat} {f : Nat → Bool} (h : ArU w g f) (j : Nat) : w.frozen? ⟨g, j, none⟩ = false := frozen_of_row w g j _ _ h
theorem ArU.store {w : World} {g : Nat} {f : Nat → Bool} (h : ArU w g f) (j : Nat) (x : Bool) : ArU (w.setCell ⟨g, j, none⟩ (.bool x)) g (upU f j x) := by
  unfold ArU
  rw [heap_setCell_same w g j _ 53 _ h, celU_set]
theorem ArU.congr {w : World} {g : Nat} {f f' : Nat → Bool} (h : ArU w g f) (he : ∀ j, j < 441 → f j = f' j) : ArU w g f' := by
  unfold ArU; rw [← celU_congr he]; exact h
theorem ArU.same {w w' : World} {g : Nat} {f : Nat → Bool} (h : ArU w g f) (he : w'.heap[g]? = w.heap[g]?) : ArU w' g f := by
  unfold ArU; rw [he]; exact h
theorem ArU.lt {w : World} {g : Nat} {f : Nat → Bool} (h : ArU w g f) : g < w.heap.size := by
  unfold ArU at h
  rcases Nat.lt_or_ge g w.heap.size with q | q
  · exact q
  · rw [Array.getElem?_eq_none q] at h; cases h
theorem zeroU : (Try.prog.info? 53).map (fun i => i.zero) = some (some (.agg (celU fun _ => false))) := by kernel_rfl
theorem run_zeroU (w : World) : (zeroValue 53).run Try.prog w = .ok (.agg (celU fun _ => false)) w := by
  have h := zeroU
  cases hi : Try.prog.info? 53 with
  | none => rw [hi] at h; simp at h
  | some i =>
    rw [hi] at h
    simp only [Option.map_some, Option.some.injEq] at h
    simp [zeroValue, typeInfo, hi, h]

/-- Which cells the edges mark. -/
def jfU (L : List (Int × Int)) (t : Nat) : Bool := L.any fun e => e.1.toNat * 21 + e.2.toNat == t || e.2.toNat * 21 + e.1.toNat == t
theorem jfU_snoc (L : List (Int × Int)) (x y : Nat) (t : Nat) : upU (upU (jfU L) (x * 21 + y) true) (y * 21 + x) true t = jfU (L ++ [((x : Int), (y : Int))]) t := by
  unfold upU jfU
  rw [List.any_append]
  simp only [List.any_cons, List.any_nil, Bool.or_false, Int.toNat_natCast]
  by_cases h1 : t = y * 21 + x
  · rw [if_pos h1]; simp [h1]
  · rw [if_neg h1]
    by_cases h2 : t = x * 21 + y
    · rw [if_pos h2]; simp [h2]
    · rw [if_neg h2]
      have e1 : (x * 21 + y == t) = false := beq_eq_false_iff_ne.2 (Ne.symm h2)
      have e2 : (y * 21 + x == t) = false := beq_eq_false_iff_ne.2 (Ne.symm h1)
      rw [e1, e2]; simp
def jnU (L : List (Int × Int)) (a b : Int) : Bool := decide ((a, b) ∈ L ∨ (b, a) ∈ L)
theorem jnU_je (L : List (Int × Int)) : JE (jnU L) L := fun a b => by unfold jnU; simp
theorem jfU_at {L : List (Int × Int)} (h : ∀ e ∈ L, (0 ≤ e.1 ∧ e.1 ≤ 20) ∧ 0 ≤ e.2 ∧ e.2 ≤ 20) {x y : Nat} (hx : x ≤ 20) (hy : y ≤ 20) : jfU L (x * 21 + y) = jnU L (x : Int) (y : Int) := by
  rw [Bool.eq_iff_iff]
  unfold jfU jnU
  rw [List.any_eq_true, decide_eq_true_iff]
  constructor
  · rintro ⟨e, he, hq⟩
    have hb := h e he
    obtain ⟨p, q⟩ := e
    dsimp only at hb hq
    rw [Bool.or_eq_true, beq_iff_eq, beq_iff_eq] at hq
    rcases hq with hq | hq
    · left
      rw [show (x : Int) = p by omega, show (y : Int) = q by omega]; exact he
    · right
      rw [show (x : Int) = q by omega, show (y : Int) = p by omega]; exact he
  · rintro (he | he)
    · exact ⟨_, he, by simp⟩
    · exact ⟨_, he, by simp⟩
end Go.Proofs.Ytihafckdaecgkaa
