/-
  Rows of bools and of ints of the call's own (as PChk has them, under names of their own).
-/
import Derived.Test.YtihafckdaecgkaaBApp
namespace Go.Proofs.Ytihafckdaecgkaa
open Go.RowKit

theorem Try.infoT : (Try.prog.info? 4).map (fun i => (i.zero, i.size, i.bytes)) = some (some (.bool false), 1, 1) := by kernel_rfl

/-- The value v owns the bools bs. -/
def OwnsT (w : World) (base : Nat) (v : Value) (bs : List Bool) : Prop := w.ownsRow base 4 1 v bs.length (bs.map Value.bool)

def tabT (n : Nat) (f : Nat → Bool) : List Bool := (List.range n).map f
theorem tabT_length (n : Nat) (f : Nat → Bool) : (tabT n f).length = n := by simp [tabT]
theorem tabT_congr {n : Nat} {f g : Nat → Bool} (h : ∀ j, j < n → f j = g j) : tabT n f = tabT n g := List.map_congr_left (fun j hj => h j (List.mem_range.1 hj))
theorem tabT_set (n : Nat) (f : Nat → Bool) (j : Nat) (b : Bool) : (tabT n f).set j b = tabT n (fun i => if i = j then b else f i) := by
  apply List.ext_getElem
  · simp [tabT]
  · intro i h1 h2
    simp only [tabT, List.getElem_set, List.getElem_map, List.getElem_range]
    by_cases e : j = i
    · simp [e]
    · simp [e, Ne.symm e]

theorem OwnsT.at {w : World} {base g cap n : Nat} {f : Nat → Bool} (h : OwnsT w base (.slice (some ⟨g, 0, none⟩) n cap) (tabT n f)) {j : Nat} (hj : j < n) :
    w.frozen? ⟨g, j, none⟩ = false ∧ w.cell? ⟨g, j, none⟩ = some (.bool (f j)) := by
  unfold OwnsT at h
  rw [tabT_length] at h
  refine ⟨World.ownsRow.frozenAt h j, ?_⟩
  rw [World.ownsRow.cellAt h j (by omega)]
  simp [tabT, hj]
theorem OwnsT.store {w : World} {base g cap n : Nat} {f : Nat → Bool} (h : OwnsT w base (.slice (some ⟨g, 0, none⟩) n cap) (tabT n f)) (j : Nat) (b : Bool) :
    OwnsT (w.setCell ⟨g, j, none⟩ (.bool b)) base (.slice (some ⟨g, 0, none⟩) n cap) (tabT n (fun i => if i = j then b else f i)) := by
  unfold OwnsT at h ⊢
  rw [tabT_length] at h ⊢
  have h := (World.ownsRow.stored h j (.bool b)).1
  rw [← tabT_set, List.map_set]; exact h
theorem OwnsT.congr {w : World} {base n : Nat} {v : Value} {f g : Nat → Bool} (h : OwnsT w base v (tabT n f)) (he : ∀ j, j < n → f j = g j) : OwnsT w base v (tabT n g) := by rw [← tabT_congr he]; exact h

theorem ownsT_made {w : World} {base g n : Nat} (h : w.ownsRow base 4 1 (.slice (some ⟨g, 0, none⟩) n n) n (madeCells #[Value.bool false] n).toList) : OwnsT w base (.slice (some ⟨g, 0, none⟩) n n) (tabT n (fun _ => false)) := by
  unfold OwnsT
  rw [tabT_length]
  have e : (tabT n (fun _ => false)).map Value.bool = (madeCells #[Value.bool false] n).toList := by
    rw [toList_madeCells_one]
    simp only [tabT, List.map_map]
    rw [List.eq_replicate_iff]
    refine ⟨by simp, fun v hv => ?_⟩
    obtain ⟨j, _, rfl⟩ := List.mem_map.1 hv
    rfl
  rw [e]; exact h
theorem owns_mkT {w : World} {base g n : Nat} (h : w.ownsRow base 3 1 (.slice (some ⟨g, 0, none⟩) n n) n (madeCells #[Value.int .i64 0] n).toList) : Owns w base (.slice (some ⟨g, 0, none⟩) n n) (tab n (fun _ => 0)) := by
  unfold Owns
  rw [tab_length]
  have e : (tab n (fun _ => 0)).map (Value.int .i64) = (madeCells #[Value.int .i64 0] n).toList := by
    rw [toList_madeCells_one]
    simp only [tab, List.map_map]
    rw [List.eq_replicate_iff]
    refine ⟨by simp, fun v hv => ?_⟩
    obtain ⟨j, _, rfl⟩ := List.mem_map.1 hv
    rfl
  rw [e]; exact h

/-- A function with one value changed. -/
def updT (f : Nat → Int) (j : Nat) (x : Int) : Nat → Int := fun i => if i = j then x else f i
theorem tab_setT (n : Nat) (f : Nat → Int) (j : Nat) (x : Int) : (tab n f).set j x = tab n (updT f j x) := by
  apply List.ext_getElem
  · simp [tab]
  · intro i h1 h2
    simp only [tab, updT, List.getElem_set, List.getElem_map, List.getElem_range]
    by_cases e : j = i
    · simp [e]
    · simp [e, Ne.symm e]
theorem Owns.tabPut {w : World} {base g cap n : Nat} {f : Nat → Int} (h : Owns w base (.slice (some ⟨g, 0, none⟩) n cap) (tab n f)) (j : Nat) (x : Int) :
    Owns (w.setCell ⟨g, j, none⟩ (.int .i64 x)) base (.slice (some ⟨g, 0, none⟩) n cap) (tab n (updT f j x)) := by
  rw [← tab_setT]; exact h.store (tab_length n f).symm j x
theorem Owns.tabBox {w : World} {base g cap n : Nat} {f : Nat → Int} (h : Owns w base (.slice (some ⟨g, 0, none⟩) n cap) (tab n f)) {j : Nat} (hj : j < n) :
    w.frozen? ⟨g, j, none⟩ = false ∧ w.cell? ⟨g, j, none⟩ = some (.int .i64 (f j)) := by
  obtain ⟨_, h1, h2⟩ := h.at (tab_length n f).symm
  refine ⟨h1 j, ?_⟩
  rw [h2 j (by rw [tab_length]; exact hj), tab_getD n f j hj]
theorem Owns.tabSame {w : World} {base n : Nat} {v : Value} {f g : Nat → Int} (h : Owns w base v (tab n f)) (he : ∀ j, j < n → f j = g j) : Owns w base v (tab n g) := by rw [← tab_congr he]; exact h

end Go.Proofs.Ytihafckdaecgkaa
