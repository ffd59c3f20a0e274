/-
  Rows of bools and of ints of the call's own; the contracts of perms.Check and perms.checkTwo.
-/
import Derived.Test.YtlghldfolfmoeaaBApp
import Derived.Test.YtlghldfolfmoeaaPMath
namespace Go.Proofs.Ytlghldfolfmoeaa
open Go.RowKit

theorem Try.info4 : (Try.prog.info? 4).map (fun i => (i.zero, i.size, i.bytes)) = some (some (.bool false), 1, 1) := by kernel_rfl

/-- The value v owns the bools bs. -/
def OwnsB (w : World) (base : Nat) (v : Value) (bs : List Bool) : Prop := w.ownsRow base 4 1 v bs.length (bs.map Value.bool)

def tabB (n : Nat) (f : Nat → Bool) : List Bool := (List.range n).map f
theorem tabB_length (n : Nat) (f : Nat → Bool) : (tabB n f).length = n := by simp [tabB]
theorem tabB_congr {n : Nat} {f g : Nat → Bool} (h : ∀ j, j < n → f j = g j) : tabB n f = tabB n g := List.map_congr_left (fun j hj => h j (List.mem_range.1 hj))
theorem tabB_set (n : Nat) (f : Nat → Bool) (j : Nat) (b : Bool) : (tabB n f).set j b = tabB n (fun i => if i = j then b else f i) := by
  apply List.ext_getElem
  · simp [tabB]
  · intro i h1 h2
    simp only [tabB, List.getElem_set, List.getElem_map, List.getElem_range]
    by_cases e : j = i
    · simp [e]
    · simp [e, Ne.symm e]

theorem OwnsB.at {w : World} {base g cap n : Nat} {f : Nat → Bool} (h : OwnsB w base (.slice (some ⟨g, 0, none⟩) n cap) (tabB n f)) {j : Nat} (hj : j < n) :
    w.frozen? ⟨g, j, none⟩ = false ∧ w.cell? ⟨g, j, none⟩ = some (.bool (f j)) := by
  unfold OwnsB at h
  rw [tabB_length] at h
  refine ⟨World.ownsRow.frozenAt h j, ?_⟩
  rw [World.ownsRow.cellAt h j (by omega)]
  simp [tabB, hj]
theorem OwnsB.store {w : World} {base g cap n : Nat} {f : Nat → Bool} (h : OwnsB w base (.slice (some ⟨g, 0, none⟩) n cap) (tabB n f)) (j : Nat) (b : Bool) :
    OwnsB (w.setCell ⟨g, j, none⟩ (.bool b)) base (.slice (some ⟨g, 0, none⟩) n cap) (tabB n (fun i => if i = j then b else f i)) := by
  unfold OwnsB at h ⊢
  rw [tabB_length] at h ⊢
  have h := (World.ownsRow.stored h j (.bool b)).1
  rw [← tabB_set, List.map_set]; exact h
theorem OwnsB.congr {w : World} {base n : Nat} {v : Value} {f g : Nat → Bool} (h : OwnsB w base v (tabB n f)) (he : ∀ j, j < n → f j = g j) : OwnsB w base v (tabB n g) := by rw [← tabB_congr he]; exact h

theorem ownsB_made {w : World} {base g n : Nat} (h : w.ownsRow base 4 1 (.slice (some ⟨g, 0, none⟩) n n) n (madeCells #[Value.bool false] n).toList) : OwnsB w base (.slice (some ⟨g, 0, none⟩) n n) (tabB n (fun _ => false)) := by
  unfold OwnsB
  rw [tabB_length]
  have e : (tabB n (fun _ => false)).map Value.bool = (madeCells #[Value.bool false] n).toList := by
    rw [toList_madeCells_one]
    simp only [tabB, List.map_map]
    rw [List.eq_replicate_iff]
    refine ⟨by simp, fun v hv => ?_⟩
    obtain ⟨j, _, rfl⟩ := List.mem_map.1 hv
    rfl
  rw [e]; exact h
theorem owns_made {w : World} {base g n : Nat} (h : w.ownsRow base 3 1 (.slice (some ⟨g, 0, none⟩) n n) n (madeCells #[Value.int .i64 0] n).toList) : Owns w base (.slice (some ⟨g, 0, none⟩) n n) (tab n (fun _ => 0)) := by
  unfold Owns
  rw [tab_length]
  have e : (tab n (fun _ => 0)).map (Value.int .i64) = (madeCells #[Value.int .i64 0] n).toList := by
    rw [toList_madeCells_one]
    simp only [tab, List.map_map]
    rw [List.eq_replicate_iff]
    refine ⟨by simp, fun v hv => ?_⟩
    obtain ⟨j, _, rfl⟩ := List.mem_map.1 hv
    rfl
  rw [e]; exact h

/-- A function with one value changed. -/
def upd (f : Nat → Int) (j : Nat) (x : Int) : Nat → Int := fun i => if i = j then x else f i
theorem tab_set (n : Nat) (f : Nat → Int) (j : Nat) (x : Int) : (tab n f).set j x = tab n (upd f j x) := by
  apply List.ext_getElem
  · simp [tab]
  · intro i h1 h2
    simp only [tab, upd, List.getElem_set, List.getElem_map, List.getElem_range]
    by_cases e : j = i
    · simp [e]
    · simp [e, Ne.symm e]
theorem Owns.tabStore {w : World} {base g cap n : Nat} {f : Nat → Int} (h : Owns w base (.slice (some ⟨g, 0, none⟩) n cap) (tab n f)) (j : Nat) (x : Int) :
    Owns (w.setCell ⟨g, j, none⟩ (.int .i64 x)) base (.slice (some ⟨g, 0, none⟩) n cap) (tab n (upd f j x)) := by
  rw [← tab_set]; exact h.store (tab_length n f).symm j x
theorem Owns.tabAt {w : World} {base g cap n : Nat} {f : Nat → Int} (h : Owns w base (.slice (some ⟨g, 0, none⟩) n cap) (tab n f)) {j : Nat} (hj : j < n) :
    w.frozen? ⟨g, j, none⟩ = false ∧ w.cell? ⟨g, j, none⟩ = some (.int .i64 (f j)) := by
  obtain ⟨_, h1, h2⟩ := h.at (tab_length n f).symm
  refine ⟨h1 j, ?_⟩
  rw [h2 j (by rw [tab_length]; exact hj), tab_getD n f j hj]
theorem Owns.tabCongr {w : World} {base n : Nat} {v : Value} {f g : Nat → Int} (h : Owns w base v (tab n f)) (he : ∀ j, j < n → f j = g j) : Owns w base v (tab n g) := by rw [← tab_congr he]; exact h

/-- Which numbers were met among the first k. -/
def met (zs : List Int) (k j : Nat) : Bool := decide ((j : Int) + 1 ∈ zs.take k)

theorem okPerm_out {zs : List Int} {k : Nat} (hk : k < zs.length) (h : zs.getD k 0 < 1 ∨ (zs.length : Int) < zs.getD k 0) : okPerm zs = false := by
  unfold okPerm
  rw [decide_eq_false_iff_not]
  intro hh
  have := hh.1 _ (pmem hk)
  omega
theorem okPerm_twice {zs : List Int} {k : Nat} (hk : k < zs.length) (h : zs.getD k 0 ∈ zs.take k) : okPerm zs = false := by
  unfold okPerm
  rw [decide_eq_false_iff_not]
  intro hh
  obtain ⟨i, hi, he⟩ := List.mem_iff_getElem.1 h
  rw [List.length_take] at hi
  have h2 : zs.getD i 0 = zs.getD k 0 := by
    rw [← he]; simp [List.getD, List.getElem?_eq_getElem (show i < zs.length by omega)]
  have := nodup_inj hh.2 (by omega) hk h2
  omega
theorem okPerm_all {zs : List Int} (h : ∀ i, i < zs.length → 1 ≤ zs.getD i 0 ∧ zs.getD i 0 ≤ zs.length ∧ zs.getD i 0 ∉ zs.take i) : okPerm zs = true := by
  unfold okPerm
  rw [decide_eq_true_eq]
  constructor
  · intro z hz
    obtain ⟨i, hi, he⟩ := List.mem_iff_getElem.1 hz
    have := h i hi
    rw [List.getD_eq_getElem?_getD, List.getElem?_eq_getElem hi, Option.getD_some, he] at this
    exact ⟨this.1, this.2.1⟩
  · rw [List.Nodup, List.pairwise_iff_getElem]
    intro i j hi hj hij e
    have := (h j hj).2.2
    apply this
    rw [List.getD_eq_getElem?_getD, List.getElem?_eq_getElem hj, Option.getD_some, ← e]
    refine List.mem_iff_getElem.2 ⟨i, by rw [List.length_take]; omega, by simp⟩

/-- What checkTwo answers. -/
def two (xs ys : List Int) : Int := if pchk xs = 0 then (if pchk ys = 0 then (if xs.length = ys.length then 0 else 3) else pchk ys) else pchk xs

theorem two_ok {xs ys : List Int} : two xs ys = 0 ↔ IsPerm xs ∧ IsPerm ys ∧ xs.length = ys.length := by
  unfold two
  by_cases h1 : pchk xs = 0
  · rw [if_pos h1]
    by_cases h2 : pchk ys = 0
    · rw [if_pos h2]
      by_cases h3 : xs.length = ys.length
      · rw [if_pos h3]; simp [pchk_ok.1 h1, pchk_ok.1 h2, h3]
      · rw [if_neg h3]; constructor
        · intro h; omega
        · intro h; exact absurd h.2.2 h3
    · rw [if_neg h2]; constructor
      · intro h; exact absurd h h2
      · intro h; exact absurd (pchk_ok.2 h.2.1) h2
  · rw [if_neg h1]; constructor
    · intro h; exact absurd h h1
    · intro h; exact absurd (pchk_ok.2 h.1) h1

end Go.Proofs.Ytlghldfolfmoeaa
