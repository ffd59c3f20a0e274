/-
  What families has made is all that looking wants.
-/
import Derived.Test.YtapchcamjeafmaaDoorQFms
namespace Go.Proofs.YtapchcamjeafmaaDoor
open Go.RowKit

theorem txv_new {w : World} {lo T n : Nat} {M : Array Value} (hM : M = madeCells #[Value.slice none 0 0] n) (hb : w.heap[T]? = some (.cells M 70 (0, 0))) (hT : T < lo) : TxV w lo T (List.replicate n (.slice none 0 0)) (List.replicate n []) := by
  have er : ∀ i, rwU (List.replicate n (Value.slice none 0 0)) i = .slice none 0 0 := fun i => by
    unfold rwU
    simp only [List.getD, List.getElem?_replicate]
    split <;> rfl
  have el : ∀ i, (List.replicate n ([] : List UInt8)).getD i [] = [] := fun i => by
    simp only [List.getD, List.getElem?_replicate]
    split <;> rfl
  refine ⟨?_, hT, by simp, fun i hi => ?_, fun i j hi hj hij g hg => ?_⟩
  · rw [hb]
    congr 2
    rw [hM]
    apply Array.toList_inj.1
    rw [toList_madeCells_one]
  · rw [er, el]; exact World.ownsRow_nil _ _ _ _
  · rw [er] at hg; cases hg
theorem bk_new {G T n k : Nat} (h : Bk G T (List.replicate n (.slice none 0 0)) k) : k = G ∨ k = T := by
  rcases h with h | h | ⟨i, hi, e⟩
  · exact Or.inl h
  · exact Or.inr h
  · exfalso
    have er : rwU (List.replicate n (Value.slice none 0 0)) i = .slice none 0 0 := by
      unfold rwU
      simp only [List.getD, List.getElem?_replicate]
      split <;> rfl
    rw [er] at e; cases e
theorem fuS_le (S E : List (Nat × Nat)) (hn : S.length ≤ 4) (h8 : ∀ i, i < S.length → (ptD E i).1 < 8 ∧ (ptD E i).2 < 8) : ∀ m i, S.length - i ≤ m → fuS S E i ≤ 15 * (S.length - i)
  | 0, i, h => by
    unfold fuS
    rw [show S.length - i = 0 by omega]; simp
  | m + 1, i, h => by
    by_cases hi : i < S.length
    · have := fuS_le S E hn h8 m (i + 1) (by omega)
      rw [fuS_step S E i hi]
      have h1 := h8 i hi
      have h2 : dsP (ptD S i) (ptD E i) ≤ 14 := by unfold dsP; omega
      omega
    · unfold fuS
      rw [show S.length - i = 0 by omega]; simp

end Go.Proofs.YtapchcamjeafmaaDoor
