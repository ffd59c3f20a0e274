/-
  Plain mathematics: the search for standard tableaux, letter by letter, as package fill makes it.
-/
import Derived.Test.YtmbpcapjldbkbaaGreatDoorHBel
namespace Go.Proofs.YtmbpcapjldbkbaaGreatDoor

/-- Row i of a table. -/
def rwN (t : List (List Nat)) (i : Nat) : List Nat := t.getD i []
/-- The lengths of the rows. -/
def lnN (t : List (List Nat)) : Nat → Nat := fun i => (rwN t i).length
/-- A letter at the end of row i. -/
def endN (t : List (List Nat)) (i c : Nat) : List (List Nat) := t.set i (rwN t i ++ [c])
/-- May row i take a letter? -/
def canN (P : Nat → Nat) (t : List (List Nat)) (i : Nat) : Bool := decide (lnN t i ≠ P i) && (decide (i = 0) || decide (lnN t i < lnN t (i - 1)))
/-- All tables that come of t, n letters from c on, the first k rows tried first. -/
def stS (P : Nat → Nat) (m : Nat) : Nat → List (List Nat) → Nat → List (List (List Nat))
  | 0, t, _ => [t]
  | n + 1, t, c => (List.range m).flatMap fun i => if canN P t i = true then stS P m n (endN t i c) (c + 1) else []
/-- The first k rows alone. -/
def stK (P : Nat → Nat) (m n : Nat) (t : List (List Nat)) (c k : Nat) : List (List (List Nat)) := (List.range k).flatMap fun i => if canN P t i = true then stS P m n (endN t i c) (c + 1) else []
theorem stK_succ (P : Nat → Nat) (m n : Nat) (t : List (List Nat)) (c k : Nat) : stK P m n t c (k + 1) = stK P m n t c k ++ (if canN P t k = true then stS P m n (endN t k c) (c + 1) else []) := by
  unfold stK; rw [List.range_succ, List.flatMap_append]; simp
theorem stK_all (P : Nat → Nat) (m n : Nat) (t : List (List Nat)) (c : Nat) : stK P m n t c m = stS P m (n + 1) t c := rfl
theorem lnN_end {t : List (List Nat)} {i c : Nat} (h : i < t.length) : lnN (endN t i c) = moreB (lnN t) i := by
  funext r
  unfold lnN endN moreB rwN
  by_cases e : r = i
  · subst e; rw [if_pos rfl, List.getD, List.getElem?_set, if_pos rfl, if_pos h]; simp
  · rw [if_neg e, List.getD, List.getElem?_set, if_neg (fun q => e q.symm), ← List.getD]
theorem endN_len (t : List (List Nat)) (i c : Nat) : (endN t i c).length = t.length := by simp [endN]
theorem sumZ_len {α : Type} (f : Nat → List α) : ∀ m, ((((List.range m).flatMap f).length : Nat) : Int) = sZ (fun i => (((f i).length : Nat) : Int)) m
  | 0 => rfl
  | m + 1 => by rw [List.range_succ, List.flatMap_append, List.length_append, sZ, ← sumZ_len f m]; simp
/-- It has as many as there are ways up. -/
theorem stS_len (P : Nat → Nat) (m : Nat) : ∀ (n : Nat) (t : List (List Nat)) (c : Nat), t.length = m → (∀ i, i < m → lnN t i ≤ P i) → sZ (fun i => ((P i : Nat) : Int)) m = n + sZ (fun i => ((lnN t i : Nat) : Int)) m → (((stS P m n t c).length : Nat) : Int) = wUp m n (lnN t) P
  | 0, t, c, ht, hle, hs => by
    have he : eqB m (lnN t) P := fun i hi => by
      have := sZ_tight (f := fun i => ((lnN t i : Nat) : Int)) (g := fun i => ((P i : Nat) : Int)) m (fun i hi => by have := hle i hi; omega) (by rw [hs]; simp) i hi
      omega
    rw [wUp, if_pos he]; rfl
  | n + 1, t, c, ht, hle, hs => by
    rw [stS, sumZ_len, wUp]
    refine sZ_congr m fun i hi => ?_
    have hl := hle i hi
    have hc : canN P t i = true ↔ lnN t i < P i ∧ (i = 0 ∨ lnN t i < lnN t (i - 1)) := by
      unfold canN
      simp only [Bool.and_eq_true, Bool.or_eq_true, decide_eq_true_eq]
      constructor
      · intro ⟨a, b⟩; exact ⟨by omega, b⟩
      · intro ⟨a, b⟩; exact ⟨by omega, b⟩
    by_cases h : canN P t i = true
    · have h' := hc.1 h
      rw [if_pos h, if_pos h']
      have hE := lnN_end (c := c) (show i < t.length by omega)
      have h1 : ∀ r, r < m → lnN (endN t i c) r ≤ P r := fun r hr => by
        rw [hE]; unfold moreB
        split
        · subst r; omega
        · exact hle r hr
      have h2 : sZ (fun i => ((P i : Nat) : Int)) m = n + sZ (fun r => ((lnN (endN t i c) r : Nat) : Int)) m := by
        rw [hE, hs]
        have hm : lessB (moreB (lnN t) i) i = lnN t := by
          funext r; unfold lessB moreB
          by_cases e : r = i
          · subst r; simp
          · rw [if_neg e, if_neg e]
        have := sum_dn (y := moreB (lnN t) i) (k := i) (by unfold moreB; rw [if_pos rfl]; omega) m hi
        rw [hm] at this
        omega
      rw [stS_len P m n (endN t i c) (c + 1) (by rw [endN_len]; exact ht) h1 h2, hE]
    · rw [if_neg h, if_neg (fun q => h (hc.2 q))]; rfl
theorem sum_zero_ln (m : Nat) : lnN (List.replicate m []) = fun _ => 0 := by
  funext r
  unfold lnN rwN
  simp only [List.getD, List.getElem?_replicate]
  split <;> rfl
/-- The number of standard tableaux is the length of the list. -/
theorem stS_std {zs : List Int} (h : IsPt zs) : (stS (pF zs) zs.length (szN zs) (List.replicate zs.length []) 1).length = stdN zs := by
  have hs := szN_sum (Nat.le_refl zs.length)
  have e := stS_len (pF zs) zs.length (szN zs) (List.replicate zs.length []) 1 (by simp) (fun i _ => by rw [sum_zero_ln]; exact Nat.zero_le _) (by
    have h0 : sZ (fun i => ((lnN (List.replicate zs.length []) i : Nat) : Int)) zs.length = 0 := sZ_zero fun i _ => by rw [sum_zero_ln]; rfl
    rw [h0, hs]; omega)
  rw [sum_zero_ln, up_fsd (pF_anti h) (pF_out (Nat.le_refl _)) hs, ← stdN_fsd h (Nat.le_refl _)] at e
  exact Int.ofNat_inj.1 e

end Go.Proofs.YtmbpcapjldbkbaaGreatDoor
