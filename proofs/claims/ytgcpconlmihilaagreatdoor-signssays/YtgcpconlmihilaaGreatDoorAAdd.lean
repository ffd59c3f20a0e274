/-
  The contract of ferrersbig.add.
-/
import Derived.Test.YtgcpconlmihilaaGreatDoorATrm
namespace Go.Proofs.YtgcpconlmihilaaGreatDoor
open Go.RowKit

theorem OwnsW.at {w : World} {base g cap n : Nat} {us : List Nat} (h : OwnsW w base (.slice (some ⟨g, 0, none⟩) n cap) us) (hn : n = us.length) {j : Nat} (hj : j < us.length) :
    w.frozen? ⟨g, j, none⟩ = false ∧ w.cell? ⟨g, j, none⟩ = some (wv (us.getD j 0)) := by
  subst hn
  unfold OwnsW at h
  refine ⟨World.ownsRow.frozenAt h j, ?_⟩
  rw [World.ownsRow.cellAt h j (by omega)]
  simp [List.getD, List.getElem?_eq_getElem hj]
theorem OwnsW.store {w : World} {base g cap n : Nat} {us : List Nat} (h : OwnsW w base (.slice (some ⟨g, 0, none⟩) n cap) us) (hn : n = us.length) (j x : Nat) :
    OwnsW (w.setCell ⟨g, j, none⟩ (wv x)) base (.slice (some ⟨g, 0, none⟩) n cap) (us.set j x) := by
  subst hn
  have h := (World.ownsRow.stored (h : w.ownsRow base 89 1 _ _ _) j (wv x)).1
  unfold OwnsW
  simp only [List.length_set, List.map_set]
  exact h
theorem ownsW_made {w : World} {base g n : Nat} (h : w.ownsRow base 89 1 (.slice (some ⟨g, 0, none⟩) n n) n (madeCells #[Value.int .u32 0] n).toList) : OwnsW w base (.slice (some ⟨g, 0, none⟩) n n) (List.replicate n 0) := by
  unfold OwnsW
  rw [toList_madeCells_one] at h
  simpa [wv] using h
/-- The words so far, noughts behind. -/
def part (rs : List Nat) (n : Nat) : List Nat := rs ++ List.replicate n 0
theorem part_len (rs : List Nat) (n : Nat) : (part rs n).length = rs.length + n := by simp [part]
theorem part_set (rs : List Nat) (n x : Nat) : (part rs (n + 1)).set rs.length x = part (rs ++ [x]) n := by
  induction rs with
  | nil => rfl
  | cons y rs ih =>
    have : (part (y :: rs) (n + 1)) = y :: part rs (n + 1) := rfl
    rw [this, List.length_cons, List.set_cons_succ, ih]; rfl


end Go.Proofs.YtgcpconlmihilaaGreatDoor
