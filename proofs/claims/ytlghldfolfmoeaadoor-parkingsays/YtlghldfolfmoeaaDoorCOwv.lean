/-
  Tables of uint64 of the call's own.
-/
import Derived.Test.YtlghldfolfmoeaaDoorTTab
namespace Go.Proofs.YtlghldfolfmoeaaDoor
open Go.RowKit

theorem Tryd.infoV : (Tryd.prog.info? 70).map (fun i => (i.zero, i.size, i.bytes)) = some (some (.int .u64 0), 1, 8) := by kernel_rfl
/-- v owns the numbers f 0, .. , f (n - 1). -/
def OwnsV (w : World) (base : Nat) (v : Value) (n : Nat) (f : Nat → Nat) : Prop := w.ownsRow base 70 1 v n ((List.range n).map fun j => Value.int .u64 (f j : Int))
theorem OwnsV.at {w : World} {base g cap n : Nat} {f : Nat → Nat} (h : OwnsV w base (.slice (some ⟨g, 0, none⟩) n cap) n f) {j : Nat} (hj : j < n) :
    w.frozen? ⟨g, j, none⟩ = false ∧ w.cell? ⟨g, j, none⟩ = some (.int .u64 (f j : Int)) := by
  refine ⟨World.ownsRow.frozenAt h j, ?_⟩
  rw [World.ownsRow.cellAt h j (by omega)]
  simp [hj]
theorem OwnsV.congr {w : World} {base n : Nat} {v : Value} {f g : Nat → Nat} (h : OwnsV w base v n f) (he : ∀ j, j < n → f j = g j) : OwnsV w base v n g := by
  unfold OwnsV
  rw [← List.map_congr_left (f := fun j => Value.int .u64 (f j : Int)) (fun j hj => by rw [he j (List.mem_range.1 hj)])]; exact h
theorem OwnsV.store {w : World} {base g cap n : Nat} {f : Nat → Nat} (h : OwnsV w base (.slice (some ⟨g, 0, none⟩) n cap) n f) (j x : Nat) :
    OwnsV (w.setCell ⟨g, j, none⟩ (.int .u64 (x : Int))) base (.slice (some ⟨g, 0, none⟩) n cap) n (fun i => if i = j then x else f i) := by
  unfold OwnsV at h ⊢
  have h := (World.ownsRow.stored h j (.int .u64 (x : Int))).1
  have e : (List.range n).map (fun i => Value.int .u64 ((if i = j then x else f i : Nat) : Int)) = ((List.range n).map fun i => Value.int .u64 (f i : Int)).set j (.int .u64 (x : Int)) := by
    apply List.ext_getElem
    · simp
    · intro i h1 h2
      simp only [List.getElem_map, List.getElem_range, List.getElem_set]
      by_cases e : j = i
      · simp [e]
      · simp [e, Ne.symm e]
  rw [e]; exact h
theorem ownsV_made {w : World} {base g n : Nat} (h : w.ownsRow base 70 1 (.slice (some ⟨g, 0, none⟩) n n) n (madeCells #[Value.int .u64 0] n).toList) : OwnsV w base (.slice (some ⟨g, 0, none⟩) n n) n (fun _ => 0) := by
  unfold OwnsV
  have e : (List.range n).map (fun _ => Value.int .u64 ((0 : Nat) : Int)) = (madeCells #[Value.int .u64 0] n).toList := by
    rw [toList_madeCells_one, List.eq_replicate_iff]
    refine ⟨by simp, fun v hv => ?_⟩
    obtain ⟨j, _, rfl⟩ := List.mem_map.1 hv
    rfl
  rw [e]; exact h

end Go.Proofs.YtlghldfolfmoeaaDoor
