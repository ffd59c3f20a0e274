/-
  Plain mathematics: standard tableaux counted down by corners, told by rows; and as many ways lead up as lead down.
-/
import Derived.Test.YtmbpcapjldbkbaaDoorHHok
namespace Go.Proofs.YtmbpcapjldbkbaaDoor

theorem fsd_congr : ∀ (n m : Nat) {x y : Nat → Int}, (∀ k, k < m → x k = y k) → fsd n m x = fsd n m y
  | 0, _, _, _, _ => rfl
  | n + 1, m, x, y, h => by
    simp only [fsd]
    refine sZ_congr m fun k hk => ?_
    have h1 := h k hk
    have h2 : k = 0 ∨ x (k - 1) = y (k - 1) := by
      rcases Nat.eq_zero_or_pos k with h0 | h0
      · exact .inl h0
      · exact .inr (h (k - 1) (by omega))
    have e : (1 ≤ x k ∧ (k = 0 ∨ x (k - 1) < x k - 1)) ↔ (1 ≤ y k ∧ (k = 0 ∨ y (k - 1) < y k - 1)) := by
      rcases h2 with h2 | h2
      · rw [h1]; simp [h2]
      · rw [h1, h2]
    have ef : fsd n m (upF x k (x k - 1)) = fsd n m (upF y k (y k - 1)) := fsd_congr n m fun q hq => by
      unfold upF
      split
      · rw [h1]
      · exact h q hq
    by_cases hc : 1 ≤ x k ∧ (k = 0 ∨ x (k - 1) < x k - 1)
    · rw [if_pos hc, if_pos (e.1 hc), ef]
    · rw [if_neg hc, if_neg (fun c => hc (e.2 c))]

theorem sZ_rev (f : Nat → Int) : ∀ n, sZ f n = sZ (fun i => f (n - 1 - i)) n
  | 0 => rfl
  | n + 1 => by
    have h : ∀ (g : Nat → Int) (m : Nat), sZ g (m + 1) = g 0 + sZ (fun i => g (i + 1)) m := by
      intro g m
      induction m with
      | zero => simp [sZ]
      | succ m ih => rw [sZ, ih, sZ]; omega
    rw [h (fun i => f (n + 1 - 1 - i)), sZ, sZ_rev f n]
    rw [Int.add_comm]
    congr 1
    exact sZ_congr n fun i hi => by congr 1; omega

/-- One box less in row i. -/
def lessB (P : Nat → Nat) (i : Nat) : Nat → Nat := fun r => if r = i then P i - 1 else P r

theorem fsd_rows {P : Nat → Nat} {M : Nat} (n : Nat) (h0 : P M = 0) :
    fsd (n + 1) M (fun k => (xs P M k : Int)) = sZ (fun i => if P (i + 1) < P i then fsd n M (fun k => (xs (lessB P i) M k : Int)) else 0) M := by
  simp only [fsd]
  rw [sZ_rev]
  refine sZ_congr M fun i hi => ?_
  have hx : xs P M (M - 1 - i) = P i + (M - 1 - i) := by unfold xs; congr 1; congr 1; omega
  have hc : (1 ≤ ((xs P M (M - 1 - i) : Nat) : Int) ∧ (M - 1 - i = 0 ∨ ((xs P M (M - 1 - i - 1) : Nat) : Int) < ((xs P M (M - 1 - i) : Nat) : Int) - 1)) ↔ P (i + 1) < P i := by
    rw [hx]
    rcases Nat.eq_zero_or_pos (M - 1 - i) with hz | hz
    · have : i + 1 = M := by omega
      rw [this, h0, hz]
      constructor
      · intro ⟨a, _⟩; omega
      · intro a; exact ⟨by omega, .inl rfl⟩
    · have hx1 : xs P M (M - 1 - i - 1) = P (i + 1) + (M - 1 - i - 1) := by unfold xs; congr 1; congr 1; omega
      rw [hx1]
      omega
  by_cases hd : P (i + 1) < P i
  · rw [if_pos (hc.2 hd), if_pos hd]
    refine fsd_congr n M fun k hk => ?_
    unfold upF
    by_cases hki : k = M - 1 - i
    · have : M - 1 - k = i := by omega
      rw [if_pos hki, hx]
      unfold xs lessB
      rw [if_pos this]
      omega
    · rw [if_neg hki]
      unfold xs lessB
      rw [if_neg (by omega)]
  · rw [if_neg (fun c => hd (hc.1 c)), if_neg hd]

/-- One box more in row i. -/
def moreB (P : Nat → Nat) (i : Nat) : Nat → Nat := fun r => if r = i then P i + 1 else P r
def eqB (m : Nat) (x y : Nat → Nat) : Prop := ∀ i, i < m → x i = y i
instance (m : Nat) (x y : Nat → Nat) : Decidable (eqB m x y) := inferInstanceAs (Decidable (∀ i, i < m → x i = y i))
/-- Ways up from x to y, and ways down. -/
def wUp (m : Nat) : Nat → (Nat → Nat) → (Nat → Nat) → Int
  | 0, x, y => if eqB m x y then 1 else 0
  | n + 1, x, y => sZ (fun i => if x i < y i ∧ (i = 0 ∨ x i < x (i - 1)) then wUp m n (moreB x i) y else 0) m
def wDn (m : Nat) : Nat → (Nat → Nat) → (Nat → Nat) → Int
  | 0, x, y => if eqB m x y then 1 else 0
  | n + 1, x, y => sZ (fun k => if y (k + 1) < y k ∧ x k < y k then wDn m n x (lessB y k) else 0) m

theorem sZ_if (c : Prop) [Decidable c] (f : Nat → Int) (n : Nat) : (if c then sZ f n else 0) = sZ (fun i => if c then f i else 0) n := by
  split
  · rfl
  · exact (sZ_zero fun _ _ => rfl).symm
theorem moreB_anti {x : Nat → Nat} {i : Nat} (h : ∀ i, x (i + 1) ≤ x i) (hi : i = 0 ∨ x i < x (i - 1)) : ∀ r, moreB x i (r + 1) ≤ moreB x i r := fun r => by
  unfold moreB
  have := h r
  by_cases h1 : r + 1 = i
  · have h2 : r ≠ i := by omega
    have h3 : i - 1 = r := by omega
    rw [if_pos h1, if_neg h2]
    rw [h3] at hi
    omega
  · rw [if_neg h1]
    split
    · subst r; omega
    · exact this
theorem lessB_anti {y : Nat → Nat} {k : Nat} (h : ∀ i, y (i + 1) ≤ y i) (hk : y (k + 1) < y k) : ∀ r, lessB y k (r + 1) ≤ lessB y k r := fun r => by
  unfold lessB
  have := h r
  by_cases h1 : r = k
  · subst r
    rw [if_pos rfl, if_neg (by omega)]
    omega
  · rw [if_neg h1]
    split
    · subst k; omega
    · exact this

theorem up_dn (m : Nat) : ∀ (n : Nat) (x y : Nat → Nat), (∀ i, x (i + 1) ≤ x i) → (∀ i, y (i + 1) ≤ y i) → y m = 0 → wUp m n x y = wDn m n x y
  | 0, _, _, _, _, _ => rfl
  | 1, x, y, hx, hy, hm => by
    simp only [wUp, wDn]
    refine sZ_congr m fun i hi => ?_
    have e1 : (x i < y i ∧ (i = 0 ∨ x i < x (i - 1))) ∧ eqB m (moreB x i) y ↔ (y (i + 1) < y i ∧ x i < y i) ∧ eqB m x (lessB y i) := by
      constructor
      · intro ⟨⟨a, b⟩, c⟩
        have ci := c i hi
        unfold moreB at ci; rw [if_pos rfl] at ci
        have c1 : y (i + 1) < y i := by
          by_cases h1 : i + 1 < m
          · have := c (i + 1) h1
            unfold moreB at this; rw [if_neg (by omega)] at this
            have := hx i
            omega
          · have : i + 1 = m := by omega
            rw [this, hm]; omega
        refine ⟨⟨c1, a⟩, fun r hr => ?_⟩
        have cr := c r hr
        unfold moreB at cr; unfold lessB
        by_cases h1 : r = i
        · subst r; rw [if_pos rfl]; omega
        · rw [if_neg h1] at cr ⊢; exact cr
      · intro ⟨⟨a, b⟩, c⟩
        have ci := c i hi
        unfold lessB at ci; rw [if_pos rfl] at ci
        refine ⟨⟨b, ?_⟩, fun r hr => ?_⟩
        · rcases Nat.eq_zero_or_pos i with h0 | h0
          · exact .inl h0
          · have := c (i - 1) (by omega)
            unfold lessB at this; rw [if_neg (by omega)] at this
            have h2 := hy (i - 1)
            rw [show i - 1 + 1 = i by omega] at h2
            exact .inr (by omega)
        · have cr := c r hr
          unfold lessB at cr; unfold moreB
          by_cases h1 : r = i
          · subst r; rw [if_pos rfl]; omega
          · rw [if_neg h1] at cr ⊢; exact cr
    by_cases h : (x i < y i ∧ (i = 0 ∨ x i < x (i - 1))) ∧ eqB m (moreB x i) y
    · have h' := e1.1 h
      rw [if_pos h.1, if_pos h.2, if_pos h'.1, if_pos h'.2]
    · have h' : ¬ _ := fun c => h (e1.2 c)
      have l : ∀ (c d : Prop) [Decidable c] [Decidable d], ¬ (c ∧ d) → (if c then (if d then (1 : Int) else 0) else 0) = 0 := by
        intro c d _ _ hn
        split
        · split
          · exact absurd ⟨‹_›, ‹_›⟩ hn
          · rfl
        · rfl
      rw [l _ _ h, l _ _ h']
  | n + 2, x, y, hx, hy, hm => by
    have eL : wUp m (n + 2) x y = sZ (fun i => sZ (fun k => if x i < y i ∧ (i = 0 ∨ x i < x (i - 1)) then (if y (k + 1) < y k ∧ moreB x i k < y k then wDn m n (moreB x i) (lessB y k) else 0) else 0) m) m := by
      rw [wUp]
      refine sZ_congr m fun i hi => ?_
      rw [← sZ_if]
      by_cases h : x i < y i ∧ (i = 0 ∨ x i < x (i - 1))
      · rw [if_pos h, if_pos h, up_dn m (n + 1) (moreB x i) y (moreB_anti hx h.2) hy hm, wDn]
      · rw [if_neg h, if_neg h]
    have eR : wDn m (n + 2) x y = sZ (fun k => sZ (fun i => if y (k + 1) < y k ∧ x k < y k then (if x i < lessB y k i ∧ (i = 0 ∨ x i < x (i - 1)) then wUp m n (moreB x i) (lessB y k) else 0) else 0) m) m := by
      rw [wDn]
      refine sZ_congr m fun k hk => ?_
      rw [← sZ_if]
      by_cases h : y (k + 1) < y k ∧ x k < y k
      · rw [if_pos h, if_pos h, ← up_dn m (n + 1) x (lessB y k) hx (lessB_anti hy h.1) (by unfold lessB; rw [if_neg (by omega)]; exact hm), wUp]
      · rw [if_neg h, if_neg h]
    rw [eL, eR, sZ_swap]
    refine sZ_congr m fun k hk => sZ_congr m fun i hi => ?_
    have e : (x i < y i ∧ (i = 0 ∨ x i < x (i - 1))) ∧ (y (k + 1) < y k ∧ moreB x i k < y k) ↔ (y (k + 1) < y k ∧ x k < y k) ∧ (x i < lessB y k i ∧ (i = 0 ∨ x i < x (i - 1))) := by
      unfold moreB lessB
      by_cases h1 : k = i
      · subst k
        rw [if_pos rfl, if_pos rfl]
        omega
      · rw [if_neg h1, if_neg (fun e => h1 e.symm)]
        omega
    have l : ∀ (c d : Prop) [Decidable c] [Decidable d] (v : Int), (if c then (if d then v else 0) else 0) = if c ∧ d then v else 0 := by
      intro c d _ _ v
      by_cases hc : c
      · by_cases hd : d
        · rw [if_pos hc, if_pos hd, if_pos ⟨hc, hd⟩]
        · rw [if_pos hc, if_neg hd, if_neg (fun q => hd q.2)]
      · rw [if_neg hc, if_neg (fun q => hc q.1)]
    rw [l, l]
    by_cases h : (x i < y i ∧ (i = 0 ∨ x i < x (i - 1))) ∧ (y (k + 1) < y k ∧ moreB x i k < y k)
    · rw [if_pos h, if_pos (e.1 h)]
      exact (up_dn m n _ _ (moreB_anti hx h.1.2) (lessB_anti hy h.2.1) (by unfold lessB; rw [if_neg (by omega)]; exact hm)).symm
    · rw [if_neg h, if_neg (fun q => h (e.2 q))]

theorem sum_dn {y : Nat → Nat} {k : Nat} (h : 0 < y k) : ∀ m, k < m → sZ (fun i => (lessB y k i : Int)) m = sZ (fun i => (y i : Int)) m - 1
  | 0, hk => absurd hk (Nat.not_lt_zero k)
  | m + 1, hk => by
    simp only [sZ]
    by_cases h1 : k = m
    · subst k
      rw [sZ_congr (f := fun i => (lessB y m i : Int)) (g := fun i => (y i : Int)) m fun i hi => by unfold lessB; rw [if_neg (by omega)]]
      unfold lessB; rw [if_pos rfl]; omega
    · rw [sum_dn h m (by omega)]
      unfold lessB; rw [if_neg (by omega)]; omega

theorem dn_fsd (m : Nat) : ∀ (n : Nat) (y : Nat → Nat), y m = 0 → sZ (fun i => (y i : Int)) m = n → wDn m n (fun _ => 0) y = fsd n m (fun k => (xs y m k : Int))
  | 0, y, _, hs => by
    have ht := sZ_tight (f := fun _ => 0) (g := fun i => (y i : Int)) m (fun i _ => by omega) (by rw [hs, sZ_zero fun _ _ => rfl]; exact Int.le_refl _)
    have he : eqB m (fun _ => 0) y := fun i hi => by have := ht i hi; show 0 = y i; omega
    rw [wDn, if_pos he]
    rfl
  | n + 1, y, hm, hs => by
    rw [wDn, fsd_rows n hm]
    refine sZ_congr m fun k hk => ?_
    by_cases h : y (k + 1) < y k
    · rw [if_pos ⟨h, by omega⟩, if_pos h]
      exact dn_fsd m n (lessB y k) (by unfold lessB; rw [if_neg (by omega)]; exact hm) (by rw [sum_dn (by omega) m hk, hs]; omega)
    · rw [if_neg (fun q => h q.1), if_neg h]

/-- As many ways lead up, letter by letter, as there are standard tableaux. -/
theorem up_fsd {m n : Nat} {y : Nat → Nat} (hy : ∀ i, y (i + 1) ≤ y i) (hm : y m = 0) (hs : sZ (fun i => (y i : Int)) m = n) : wUp m n (fun _ => 0) y = fsd n m (fun k => (xs y m k : Int)) := by
  rw [up_dn m n _ y (fun _ => Nat.le_refl _) hy hm, dn_fsd m n y hm hs]

end Go.Proofs.YtmbpcapjldbkbaaDoor
