/-
  Lists of texts in a block of their own.
-/
import Derived.Test.YtpdlhnniibjfaaiDoorTTab
import Derived.Deep.OwnRows
namespace Go.Proofs.YtpdlhnniibjfaaiDoor
open Go.RowKit

/-- a list of texts in block X -/
def SRow (w : World) (X n : Nat) (f : Nat → ByteArray) : Prop := w.ownsRow X 9 1 (.slice (some ⟨X, 0, none⟩) n n) n ((List.range n).map fun i => Value.string (f i))
theorem SRow.cell {w : World} {X n : Nat} {f : Nat → ByteArray} (h : SRow w X n f) {i : Nat} (hi : i < n) : w.cell? ⟨X, i, none⟩ = some (.string (f i)) ∧ w.frozen? ⟨X, i, none⟩ = false ∧ X < w.heap.size := by
  refine ⟨?_, World.ownsRow.frozenAt h i, (h.lt X rfl).2⟩
  rw [World.ownsRow.cellAt h i (by omega)]
  simp [hi]
theorem SRow.below {w w' : World} {X n : Nat} {f : Nat → ByteArray} (h : SRow w X n f) (hb : Below w.heap.size w w') : SRow w' X n f := ownsRow_blocks h (fun k e => hb.block k (h.lt k e).2)
theorem SRow.congr {w : World} {X n : Nat} {f g : Nat → ByteArray} (h : SRow w X n f) (e : ∀ i, i < n → f i = g i) : SRow w X n g := by
  unfold SRow; rw [← List.map_congr_left (f := fun i => Value.string (f i)) (fun i hi => by rw [e i (List.mem_range.1 hi)])]; exact h
theorem SRow.set {w W : World} {X n : Nat} {f : Nat → ByteArray} (h : SRow w X n f) (i : Nat) (x : ByteArray) (hW : W.heap = w.heap) : SRow (W.setCell ⟨X, i, none⟩ (.string x)) X n fun k => if k = i then x else f k := by
  have h1 : W.ownsRow X 9 1 (.slice (some ⟨X, 0, none⟩) n n) n ((List.range n).map fun i => Value.string (f i)) := ownsRow_blocks h (fun k _ => by rw [hW])
  have h2 := (World.ownsRow.stored h1 i (.string x)).1
  have e : ((List.range n).map fun i => Value.string (f i)).set i (.string x) = (List.range n).map fun k => Value.string (if k = i then x else f k) := by
    refine List.ext_getElem (by simp) (fun k h1 h2 => ?_)
    rw [List.getElem_set]
    simp only [List.getElem_map, List.getElem_range]
    by_cases e : i = k
    · rw [if_pos e, if_pos e.symm]
    · rw [if_neg e, if_neg (fun x => e x.symm)]
  rw [e] at h2
  exact h2
theorem srow_made {w : World} {n : Nat} (hn : n ≤ 1000) : SRow (w.alloc (.cells (madeCells #[Value.string ⟨#[]⟩] n) 9)) w.heap.size n fun _ => ⟨#[]⟩ := by
  refine ⟨by simp, Or.inr ⟨w.heap.size, n, madeCells #[Value.string ⟨#[]⟩] n, rfl, Nat.le_refl _, heap_alloc_new _ _, Nat.le_refl _, by unfold maxLen; omega, by rw [← Array.length_toList, toList_madeCells_one]; simp, ?_⟩⟩
  rw [Nat.mul_one, List.take_of_length_le (by rw [toList_madeCells_one]; simp), toList_madeCells_one]
  symm
  rw [List.eq_replicate_iff]
  refine ⟨by simp, fun x hx => ?_⟩
  obtain ⟨_, _, rfl⟩ := List.mem_map.1 hx
  rfl

end Go.Proofs.YtpdlhnniibjfaaiDoor
