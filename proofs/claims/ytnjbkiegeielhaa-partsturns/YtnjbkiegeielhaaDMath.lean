/-
  The boxes on the diagonal: their arms and legs, counted. Plain facts.
-/
import Derived.Test.YtnjbkiegeielhaaDia
namespace Go.Proofs.Ytnjbkiegeielhaa
open Go.RowKit

theorem row_filter (k : Nat) : ∀ m, (rowOf k m).filter isD = if k < m then [((k : Int), (k : Int))] else [] := by
  intro m
  induction m with
  | zero => rfl
  | succ m ih =>
    rw [rowOf_succ, List.filter_append, ih]
    by_cases h1 : k < m
    · rw [if_pos h1, if_pos (by omega), List.filter_cons_of_neg (by simp [isD]; omega)]; simp
    · rw [if_neg h1]
      by_cases h2 : k = m
      · subst h2; rw [if_pos (by omega), List.filter_cons_of_pos (by simp [isD])]; simp
      · rw [if_neg (by omega), List.filter_cons_of_neg (by simp [isD]; omega)]; simp
theorem boxes_filter {zs : List Int} (h : IsPart zs) : ∀ k, k ≤ zs.length → (boxesTo zs k).filter isD = (List.range (min k (durf zs))).map fun (i : Nat) => ((i : Int), (i : Int)) := by
  intro k
  induction k with
  | zero => intro _; simp [boxesTo]
  | succ k ih =>
    intro hk
    rw [boxesTo, List.filter_append, ih (by omega), row_filter]
    have hd := durf_iff h k
    have hz := getD_nonneg h k
    by_cases h1 : k < durf zs
    · have := hd.1 h1
      rw [if_pos (by omega), show min (k + 1) (durf zs) = k + 1 by omega, show min k (durf zs) = k by omega, List.range_succ, List.map_append]; rfl
    · have h2 : ¬ (k : Int) < zs.getD k 0 := fun e => h1 (hd.2 e)
      rw [if_neg (by omega), show min (k + 1) (durf zs) = min k (durf zs) by omega, List.append_nil]
theorem row_cR (i k : Nat) : ∀ m, cR ((i : Int), (i : Int)) (rowOf k m) = if k = i then max ((m : Int) - i - 1) 0 else 0 := by
  intro m
  induction m with
  | zero => show (0 : Int) = _; split <;> omega
  | succ m ih =>
    rw [rowOf_succ, cR_append, ih, cR_one]
    by_cases h1 : k = i
    · subst h1
      rw [if_pos rfl, if_pos rfl]
      by_cases h2 : k < m
      · rw [if_pos (by simp [isR]; omega)]; omega
      · rw [if_neg (by simp [isR]; omega)]; omega
    · rw [if_neg h1, if_neg h1, if_neg (by simp [isR]; omega)]; rfl
theorem row_cB (i k : Nat) : ∀ m, cB ((i : Int), (i : Int)) (rowOf k m) = if i < k ∧ i < m then 1 else 0 := by
  intro m
  induction m with
  | zero => show (0 : Int) = _; rw [if_neg (by omega)]
  | succ m ih =>
    rw [rowOf_succ, cB_append, ih, cB_one]
    by_cases h1 : i < k
    · by_cases h2 : i < m
      · rw [if_pos ⟨h1, h2⟩, if_neg (by simp [isB]; omega), if_pos ⟨h1, by omega⟩]; rfl
      · by_cases h3 : m = i
        · subst h3; rw [if_neg (by omega), if_pos (by simp [isB]; omega), if_pos ⟨h1, by omega⟩]; rfl
        · rw [if_neg (by omega), if_neg (by simp [isB]; omega), if_neg (by omega)]; rfl
    · rw [if_neg (by omega), if_neg (by simp [isB]; omega), if_neg (by omega)]; rfl
theorem boxes_cR {zs : List Int} (h : IsPart zs) {i : Nat} (hi : i < durf zs) : ∀ k, k ≤ zs.length → cR ((i : Int), (i : Int)) (boxesTo zs k) = if i < k then zs.getD i 0 - i - 1 else 0 := by
  intro k
  have h1 := durf_at zs hi
  induction k with
  | zero => intro _; rfl
  | succ k ih =>
    intro hk
    have hz := getD_nonneg h k
    rw [boxesTo, cR_append, ih (by omega), row_cR]
    by_cases e : k = i
    · subst e; rw [if_neg (Nat.lt_irrefl _), if_pos rfl, if_pos (by omega)]; omega
    · rw [if_neg e]
      by_cases e2 : i < k
      · rw [if_pos e2, if_pos (by omega)]; omega
      · rw [if_neg e2, if_neg (by omega)]; rfl
theorem boxes_cB {zs : List Int} (h : IsPart zs) {i : Nat} (hi : i < durf zs) : ∀ k, k ≤ zs.length → cB ((i : Int), (i : Int)) (boxesTo zs k) = colv (zs.take k) i - min (k : Int) (i + 1) := by
  intro k
  have h1 := durf_at zs hi
  induction k with
  | zero => intro _; show (0 : Int) = _; simp [colv]; omega
  | succ k ih =>
    intro hk
    have hz := getD_nonneg h k
    rw [boxesTo, cB_append, ih (by omega), row_cB, take_snoc zs k (by omega), colv_snoc]
    by_cases e : i < k
    · by_cases e2 : (i : Int) < zs.getD k 0
      · rw [if_pos ⟨e, by omega⟩, if_pos e2]; omega
      · rw [if_neg (by omega), if_neg e2]; omega
    · have hki : (i : Int) < zs.getD k 0 := by
        have aux : ∀ d, zs.getD (k + d) 0 ≤ zs.getD k 0 := by
          intro d
          induction d with
          | zero => exact Int.le_refl _
          | succ d ih2 => have := getD_anti h (k + d); rw [Nat.add_assoc] at this; omega
        have := aux (i - k)
        rw [show k + (i - k) = i by omega] at this
        omega
      rw [if_neg (by omega), if_pos hki]; omega

theorem diag_arms {zs : List Int} (h : IsPart zs) : diagA (boxes zs) (boxes zs) = arms zs ∧ diagB (boxes zs) (boxes zs) = legs zs := by
  have hd := durf_le zs
  unfold diagA diagB arms legs boxes
  rw [boxes_filter h zs.length (Nat.le_refl _), show min zs.length (durf zs) = durf zs by omega]
  constructor
  · rw [List.map_map]
    refine List.map_congr_left (fun i hi => ?_)
    have hi' := List.mem_range.1 hi
    show cR ((i : Int), (i : Int)) (boxesTo zs zs.length) = _
    rw [boxes_cR h hi' zs.length (Nat.le_refl _), if_pos (by omega)]
  · rw [List.map_map]
    refine List.map_congr_left (fun i hi => ?_)
    have hi' := List.mem_range.1 hi
    show cB ((i : Int), (i : Int)) (boxesTo zs zs.length) = _
    rw [boxes_cB h hi' zs.length (Nat.le_refl _), List.take_length]; omega

theorem Diagonal_is (a : Option Addr) (cap : Nat) (zs : List Int) (w : World) (hs : Shows w a zs) (hp : IsPart zs) :
    Calls Try.prog 12 #[.slice a zs.length cap] w fun e w' => ∃ v u, e = .returned (.tuple #[v, u]) ∧ Owns w' w.heap.size v (arms zs) ∧ Owns w' w.heap.size u (legs zs) ∧ Below w.heap.size w w' := by
  have := Diagonal_any a cap zs w hs hp (boxes zs) rfl (boxes_len hp) (fun p hpm => by
    have h1 := (boxes_small hp).1 p hpm
    have h2 := boxes_mem hp zs.length (Nat.le_refl _) p hpm
    have h3 := getD_bound hp p.1.toNat
    omega)
  rw [(diag_arms hp).1, (diag_arms hp).2] at this; exact this

#print axioms Diagonal_is
end Go.Proofs.Ytnjbkiegeielhaa
