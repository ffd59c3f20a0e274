/-
  All find a place just where the line is long enough (plain).
-/
import Derived.Test.YtihafckdaecgkaaZLiu
import Derived.Test.YtihafckdaecgkaaZPrk
namespace Go.Proofs.Ytihafckdaecgkaa

theorem countP_or {α : Type} (l : List α) {p q r : α → Bool} (h : ∀ x ∈ l, p x = (q x || r x) ∧ ¬ (q x = true ∧ r x = true)) : l.countP p = l.countP q + l.countP r := by
  induction l with
  | nil => rfl
  | cons x l ih =>
    have h1 := h x (by simp)
    rw [List.countP_cons, List.countP_cons, List.countP_cons, ih (fun y hy => h y (List.mem_cons_of_mem _ hy)), h1.1]
    cases hq : q x <;> cases hr : r x <;> simp [hq, hr] at h1 ⊢ <;> omega
theorem countP_le {α : Type} (l : List α) {p q : α → Bool} (h : ∀ x ∈ l, p x = true → q x = true) : l.countP p ≤ l.countP q := by
  induction l with
  | nil => exact Nat.le_refl _
  | cons x l ih =>
    have h1 := h x (by simp)
    have h2 := ih (fun y hy => h y (List.mem_cons_of_mem _ hy))
    rw [List.countP_cons, List.countP_cons]
    cases hp : p x
    · simp; omega
    · rw [h1 hp]; simp; omega
theorem lin_length (D : Nat → Int) (n : Nat) : ∀ k : Nat, (lin D n k).length = 1 + (List.range n).countP (fun t => decide (1 ≤ D t ∧ D t ≤ (k : Int)))
  | 0 => by
    have : (List.range n).countP (fun t => decide (1 ≤ D t ∧ D t ≤ ((0 : Nat) : Int))) = 0 := List.countP_eq_zero.2 (fun t _ => by simp; omega)
    rw [this]; rfl
  | k + 1 => by
    rw [lin, List.length_append, lin_length D n k, countP_or (p := fun t => decide (1 ≤ D t ∧ D t ≤ ((k + 1 : Nat) : Int))) (q := fun t => decide (1 ≤ D t ∧ D t ≤ (k : Int))) (r := fun t => decide (D t = (k : Int) + 1))]
    · unfold addc
      rw [List.length_map, ← List.countP_eq_length_filter]; omega
    · intro t _
      refine ⟨?_, by simp only [decide_eq_true_eq]; omega⟩
      rw [← Bool.decide_or, decide_eq_decide]; omega
theorem range_getD (l : List Nat) : (List.range l.length).map (fun t => l.getD t 0) = l := by
  refine List.ext_getElem (by simp) (fun i h1 h2 => ?_)
  simp [List.getD, h2]
theorem idx_count (l : List Nat) (q : Nat → Bool) : (List.range l.length).countP (fun t => q (l.getD t 0)) = l.countP q := by
  have := List.countP_map (p := q) (f := fun t => l.getD t 0) (l := List.range l.length)
  rw [range_getD] at this
  exact this.symm
theorem count_lt (k : Nat) : ∀ n, (List.range n).countP (fun x => decide (x < k)) = min n k
  | 0 => by simp
  | n + 1 => by
    rw [List.range_succ, List.countP_append, count_lt k n]
    by_cases h : n < k
    · simp [h]; omega
    · simp [h]; omega
theorem pgo_line {N f : Nat} (hf : f < N) : ∀ (l : List Nat) (T : Nat → Bool), pfin N l T f = false → ∀ t, t < l.length → l.getD t 0 ≤ f → l.getD t 0 ≤ (pgo N l T).getD t 0 ∧ (pgo N l T).getD t 0 < f
  | [], _, _, t, ht, _ => by simp at ht
  | p :: l, T, hp, t, ht, hl => by
    have hT : T f = false := by
      cases h : T f
      · rfl
      · rw [pfin_keeps (p :: l) T f h] at hp; cases hp
    have hx := Nx.of (p := p) ⟨f, hf, hT⟩
    have hne : nx N T p ≠ f := by
      intro e
      have h1 : pfin N (p :: l) T f = true := (pfin_iff (p :: l) T f).2 (Or.inr (by rw [pgo, e]; simp))
      rw [h1] at hp; cases hp
    cases t with
    | zero =>
      rw [pgo]
      simp only [List.getD_cons_zero] at hl ⊢
      obtain ⟨d, h1, h2, h3, h4⟩ := hx
      have hd : d ≤ f - p := by
        refine Nat.le_of_not_lt (fun c => ?_)
        have := h4 (f - p) c
        rw [show p + (f - p) = f by omega, Nat.mod_eq_of_lt hf, hT] at this
        cases this
      rw [Nat.mod_eq_of_lt (show p + d < N by omega)] at h2
      omega
    | succ t =>
      rw [pgo]
      simp only [List.getD_cons_succ] at hl ⊢
      exact pgo_line hf l (tk T (nx N T p)) hp t (by simpa using ht) hl
theorem nodup_lenN : ∀ {V S : List Nat}, V.Nodup → (∀ v ∈ V, v ∈ S) → V.length ≤ S.length
  | [], _, _, _ => Nat.zero_le _
  | v :: V, S, hV, h => by
    have hV' := List.nodup_cons.1 hV
    have hv := h v (by simp)
    have := nodup_lenN (S := S.erase v) hV'.2 (fun u hu => (List.mem_erase_of_ne (fun (e : u = v) => hV'.1 (e ▸ hu))).2 (h u (List.mem_cons_of_mem _ hu)))
    have := List.length_pos_of_mem hv
    rw [List.length_erase_of_mem hv] at *
    simp only [List.length_cons]; omega
/-- The cars' places, from 0 on. -/
theorem free_long {l : List Nat} {D : Nat → Int} (hD : ∀ t, t < l.length → D t = ((l.getD t 0 : Nat) : Int) + 1) (hb : ∀ t, t < l.length → l.getD t 0 < l.length) (h : Free l l.length) : Long D l.length := by
  intro k hk
  rw [lin_length]
  have hp := pgo_all h
  have hl := hp.length_eq
  rw [List.length_range] at hl
  have h1 : (List.range l.length).countP (fun t => decide ((pgo (l.length + 1) l none0).getD t 0 < k)) = k := by
    have := idx_count (pgo (l.length + 1) l none0) (fun x => decide (x < k))
    rw [hl] at this
    rw [this, hp.countP_eq, count_lt]; omega
  have h2 := countP_le (List.range l.length) (p := fun t => decide ((pgo (l.length + 1) l none0).getD t 0 < k)) (q := fun t => decide (1 ≤ D t ∧ D t ≤ (k : Int))) (fun t ht hq => by
    have ht := List.mem_range.1 ht
    simp only [decide_eq_true_eq] at hq ⊢
    have hm : (pgo (l.length + 1) l none0).getD t 0 ∈ List.range l.length := hp.mem_iff.1 (by simp [List.getD, show t < (pgo (l.length + 1) l none0).length by omega])
    have hlt : l.getD t 0 ≤ l.length := Nat.le_of_lt (hb t ht)
    have := pgo_line (show l.length < l.length + 1 by omega) l none0 h.2 t ht hlt
    rw [hD t ht]; omega)
  omega
theorem long_free {l : List Nat} {D : Nat → Int} (hD : ∀ t, t < l.length → D t = ((l.getD t 0 : Nat) : Int) + 1) (h : Long D l.length) : Free l l.length := by
  obtain ⟨f, hf⟩ := free_ex l
  by_cases c : f = l.length
  · rw [c] at hf; exact hf
  exfalso
  have hfl : f < l.length := by have := hf.1; omega
  have h1 := h (f + 1) (by omega)
  rw [lin_length] at h1
  have hs := pgo_spec (N := l.length + 1) l none0 (by rw [tkn_none]; omega)
  have hl := pgo_length (N := l.length + 1) l none0
  have h2 := countP_le (List.range l.length) (p := fun t => decide (1 ≤ D t ∧ D t ≤ ((f + 1 : Nat) : Int))) (q := fun t => decide ((pgo (l.length + 1) l none0).getD t 0 < f)) (fun t ht hq => by
    have ht := List.mem_range.1 ht
    simp only [decide_eq_true_eq] at hq ⊢
    rw [hD t ht] at hq
    exact (pgo_line hf.1 l none0 hf.2 t ht (by omega)).2)
  have h3 := idx_count (pgo (l.length + 1) l none0) (fun x => decide (x < f))
  rw [hl] at h3
  have h4 : (pgo (l.length + 1) l none0).countP (fun x => decide (x < f)) ≤ f := by
    rw [List.countP_eq_length_filter]
    have := nodup_lenN (V := (pgo (l.length + 1) l none0).filter (fun x => decide (x < f))) (S := List.range f) (hs.1.filter _) (fun v hv => by
      have := (List.mem_filter.1 hv).2
      exact List.mem_range.2 (by simpa using this))
    rw [List.length_range] at this
    exact this
  omega
end Go.Proofs.Ytihafckdaecgkaa
