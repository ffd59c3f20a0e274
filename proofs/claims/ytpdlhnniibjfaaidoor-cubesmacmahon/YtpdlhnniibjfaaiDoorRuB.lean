/-
  How many there can be: plain.
-/
import Derived.Test.YtpdlhnniibjfaaiDoorRuA
namespace Go.Proofs.YtpdlhnniibjfaaiDoor

/-- How often u falls behind place m, k places on. -/
def cntD (u : Nat → Nat) : Nat → Nat → Nat
  | _, 0 => 0
  | m, k + 1 => (if u (m + 1) < u m then 1 else 0) + cntD u (m + 1) k
def sumU (u : Nat → Nat) : Nat → Nat → Nat
  | m, 0 => u m
  | m, k + 1 => u m + sumU u (m + 1) k
theorem cntD_le (u : Nat → Nat) : ∀ k m, (∀ x, m ≤ x → x < m + k → u (x + 1) ≤ u x) → cntD u m k ≤ u m ∧ cntD u m k * (cntD u m k + 1) ≤ 2 * sumU u m k := by
  intro k
  induction k with
  | zero => intro m _; simp [cntD]
  | succ k ih =>
    intro m h
    obtain ⟨h1, h2⟩ := ih (m + 1) (fun x hx hx2 => h x (by omega) (by omega))
    have h3 := h m (Nat.le_refl _) (by omega)
    simp only [cntD, sumU]
    generalize cntD u (m + 1) k = r at *
    by_cases e : u (m + 1) < u m
    · rw [if_pos e]
      refine ⟨by omega, ?_⟩
      have e1 : (1 + r) * (1 + r + 1) = r * (r + 1) + 2 * (r + 1) := by
        rw [Nat.add_mul, Nat.one_mul, Nat.mul_add r (1 + r) 1, Nat.add_comm 1 r]; omega
      omega
    · rw [if_neg e, Nat.zero_add]
      exact ⟨by omega, by omega⟩
theorem six_of {r S : Nat} (h : r * (r + 1) ≤ 2 * S) (hS : S ≤ 15) : r ≤ 5 := by
  rcases Nat.lt_or_ge 5 r with h1 | h1
  · have : 6 * 7 ≤ r * (r + 1) := Nat.mul_le_mul h1 (by omega)
    omega
  · exact h1

theorem flat_len {α β : Type} (p : α → Bool) (f : α → List β) (M : Nat) : ∀ l : List α, (∀ x ∈ l, p x = true → (f x).length ≤ M) → (l.flatMap fun x => if p x then f x else []).length ≤ l.countP p * M := by
  intro l
  induction l with
  | nil => intro _; simp
  | cons a l ih =>
    intro h
    have h1 := ih (fun x hx => h x (by simp [hx]))
    rw [List.flatMap_cons, List.length_append, List.countP_cons]
    by_cases e : p a = true
    · have := h a (by simp) e
      simp only [e, if_true]
      rw [Nat.add_mul, Nat.one_mul]; omega
    · simp only [e]
      simpa using h1

theorem may_cnt (b u : Nat → Nat) : ∀ k m, 1 ≤ m → (List.range' (m + 1) k).countP (mayN b u) ≤ cntD u m k := by
  intro k
  induction k with
  | zero => intro m _; simp [cntD]
  | succ k ih =>
    intro m hm
    rw [List.range'_succ, List.countP_cons]
    have := ih (m + 1) (by omega)
    simp only [cntD]
    by_cases e : u (m + 1) < u m
    · rw [if_pos e]
      split <;> omega
    · rw [if_neg e]
      have : mayN b u (m + 1) = false := by
        unfold mayN
        have e2 : decide (m + 1 = 1) = false := decide_eq_false (by omega)
        have e3 : decide (u (m + 1) < u (m + 1 - 1)) = false := decide_eq_false (by simpa using e)
        rw [e2, e3]; simp
      rw [this]; simp; omega
theorem range_sub {lo len n : Nat} (h1 : 1 ≤ lo) (h2 : lo + len ≤ n + 1) : (List.range' lo len).Sublist (List.range' 1 n) := by
  have e : List.range' 1 n = List.range' 1 (lo - 1) ++ (List.range' lo len ++ List.range' (lo + len) (n + 1 - lo - len)) := by
    have a1 : List.range' lo len ++ List.range' (lo + len) (n + 1 - lo - len) = List.range' lo (len + (n + 1 - lo - len)) := List.range'_append_1
    rw [a1]
    have a2 : List.range' 1 (lo - 1) ++ List.range' (1 + (lo - 1)) (len + (n + 1 - lo - len)) = List.range' 1 (lo - 1 + (len + (n + 1 - lo - len))) := List.range'_append_1
    rw [show 1 + (lo - 1) = lo by omega] at a2
    rw [a2]
    congr 1; omega
  rw [e]
  exact (List.sublist_append_left _ _).trans (List.sublist_append_right _ _)
theorem may_six {n lo hi : Nat} {b u : Nat → Nat} (h1 : 1 ≤ lo) (h2 : hi ≤ n) (hd : ∀ x, 1 ≤ x → x < n → u (x + 1) ≤ u x) (hs : sumU u 1 (n - 1) ≤ 15) : (List.range' lo (hi + 1 - lo)).countP (mayN b u) ≤ 6 := by
  rcases Nat.lt_or_ge hi lo with h | h
  · rw [show hi + 1 - lo = 0 by omega]; simp
  · have := List.Sublist.countP_le (p := mayN b u) (range_sub (n := n) h1 (show lo + (hi + 1 - lo) ≤ n + 1 by omega))
    obtain ⟨k, rfl⟩ : ∃ k, n = k + 1 := ⟨n - 1, by omega⟩
    rw [List.range'_succ, List.countP_cons] at this
    have m1 := may_cnt b u k 1 (Nat.le_refl _)
    obtain ⟨_, c2⟩ := cntD_le u k 1 (fun x hx hx2 => hd x hx (by omega))
    have := six_of c2 (by simpa using hs)
    split at * <;> omega

theorem sumU_inc (u : Nat → Nat) (x : Nat) : ∀ k m, m ≤ x → x ≤ m + k → sumU (inc1 u x) m k = sumU u m k + 1 := by
  intro k
  induction k with
  | zero => intro m h1 h2; obtain rfl : m = x := by omega
            simp [sumU, inc1]
  | succ k ih =>
    intro m h1 h2
    simp only [sumU]
    by_cases e : m = x
    · subst e
      have : ∀ k q, m < q → sumU (inc1 u m) q k = sumU u q k := by
        intro k
        induction k with
        | zero => intro q hq; simp only [sumU, inc1]; rw [if_neg (by omega)]
        | succ k ih2 => intro q hq; simp only [sumU]; rw [ih2 _ (by omega)]; simp only [inc1]; rw [if_neg (by omega)]
      rw [this k (m + 1) (by omega)]
      simp only [inc1, if_true]; omega
    · rw [ih (m + 1) (by omega) (by omega)]
      simp only [inc1]
      rw [if_neg e]; omega
theorem inc_dec {n x : Nat} {b u : Nat → Nat} (hm : mayN b u x = true) (hd : ∀ y, 1 ≤ y → y < n → u (y + 1) ≤ u y) : ∀ y, 1 ≤ y → y < n → inc1 u x (y + 1) ≤ inc1 u x y := fun y h1 h2 => by
  have := hd y h1 h2
  unfold inc1
  by_cases e : y + 1 = x
  · rw [if_pos e, if_neg (by omega)]
    unfold mayN at hm
    simp only [Bool.and_eq_true, Bool.or_eq_true, decide_eq_true_eq] at hm
    rcases hm.2 with h | h
    · omega
    · rw [e]; rw [show x - 1 = y by omega] at h; omega
  · rw [if_neg e]
    split <;> omega

theorem srch_len (n : Nat) (b c : Nat → Nat) (m : Nat) : ∀ (bs : List (Nat × Nat)) (g : Nat → Nat → Nat) (u : Nat → Nat), (∀ i j, g i j ≤ n) → (∀ x, 1 ≤ x → x < n → u (x + 1) ≤ u x) → (0 < n → sumU u 1 (n - 1) + bs.length ≤ 16) → (srch n b c m bs g u).length ≤ 6 ^ bs.length := by
  intro bs
  induction bs with
  | nil => intro g u _ _ _; simp [srch]
  | cons x bs ih =>
    obtain ⟨i, j⟩ := x
    intro g u hg hd hs
    simp only [srch]
    have hlo : 1 ≤ loN g i j := by unfold loN; split <;> omega
    have hhi : hiN n c g i j ≤ n := by
      unfold hiN
      split
      · exact Nat.le_refl _
      · exact hg _ _
    rcases Nat.eq_zero_or_pos n with h0 | h0
    · rw [show hiN n c g i j + 1 - loN g i j = 0 by omega]; simp
    · have hs0 := hs h0
      simp only [List.length_cons] at hs0
      have k1 := may_six (b := b) hlo hhi hd (by omega)
      refine Nat.le_trans (flat_len (mayN b u) _ (6 ^ bs.length) _ (fun x hx hm => ?_)) ?_
      · have hr := List.mem_range'_1.1 hx
        refine ih _ _ (fun a d => ?_) (inc_dec hm hd) (fun _ => ?_)
        · unfold upd2; split
          · omega
          · exact hg a d
        · rw [sumU_inc u x (n - 1) 1 (by omega) (by omega)]; omega
      · rw [List.length_cons, Nat.pow_succ, Nat.mul_comm]
        exact Nat.mul_le_mul_left _ k1

/-- Strips: what may come in row i and the rows behind it. -/
def hiG (p c : Nat → Nat) (i : Nat) : Nat := if i = 0 then c 0 else min (p (i - 1)) (c i)
def grN (p c : Nat → Nat) : Nat → Nat → Nat → List (List Nat)
  | 0, _, left => if left = 0 then [[]] else []
  | m + 1, i, left => (List.range (min (hiG p c i + 1 - p i) (left + 1))).flatMap fun d => (grN p c m (i + 1) (left - d)).map fun q => (p i + d) :: q
def avG (p c : Nat → Nat) : Nat → Nat → Nat
  | 0, _ => 0
  | m + 1, i => (if p i < hiG p c i then 1 else 0) + avG p c m (i + 1)
theorem avG_le (p c : Nat → Nat) : ∀ m i, avG p c m (i + 1) ≤ cntD p i m := by
  intro m
  induction m with
  | zero => intro i; simp [avG]
  | succ m ih =>
    intro i
    have := ih (i + 1)
    simp only [avG, cntD]
    by_cases e : p (i + 1) < hiG p c (i + 1)
    · have : p (i + 1) < p i := by
        unfold hiG at e
        rw [if_neg (by omega)] at e
        simp only [Nat.add_sub_cancel] at e
        omega
      rw [if_pos e, if_pos this]; omega
    · rw [if_neg e]; omega
theorem geo (B : Nat) : ∀ L, ((List.range (L + 1)).map fun d => B ^ (L - d)).sum ≤ (B + 1) ^ L := by
  intro L
  induction L with
  | zero => simp
  | succ L ih =>
    rw [List.range_succ, List.map_append, List.sum_append]
    have e : (List.range (L + 1)).map (fun d => B ^ (L + 1 - d)) = (List.range (L + 1)).map (fun d => B * B ^ (L - d)) :=
      List.map_congr_left fun d hd => by
        have := List.mem_range.1 hd
        rw [show L + 1 - d = (L - d) + 1 by omega, Nat.pow_succ, Nat.mul_comm]
    have e2 : ∀ l : List Nat, (l.map fun d => B * B ^ (L - d)).sum = B * (l.map fun d => B ^ (L - d)).sum := by
      intro l
      induction l with
      | nil => simp
      | cons a l ih => simp only [List.map_cons, List.sum_cons]; rw [ih, Nat.mul_add]
    rw [e, e2]
    have h1 : 1 ≤ (B + 1) ^ L := Nat.one_le_pow _ _ (by omega)
    have h2 := Nat.mul_le_mul_left B ih
    have h3 : (B + 1) ^ (L + 1) = B * (B + 1) ^ L + (B + 1) ^ L := by
      rw [Nat.pow_succ, Nat.mul_add, Nat.mul_comm, Nat.mul_one]
    simp
    omega
theorem geo_le (B L k : Nat) (h : k ≤ L + 1) : ((List.range k).map fun d => B ^ (L - d)).sum ≤ (B + 1) ^ L := by
  refine Nat.le_trans ?_ (geo B L)
  obtain ⟨j, hj⟩ : ∃ j, L + 1 = k + j := ⟨L + 1 - k, by omega⟩
  rw [hj, List.range_add, List.map_append, List.sum_append]
  omega
theorem sum_le {f g : Nat → Nat} : ∀ l : List Nat, (∀ d ∈ l, f d ≤ g d) → (l.map f).sum ≤ (l.map g).sum := by
  intro l
  induction l with
  | nil => intro _; simp
  | cons a l ih =>
    intro h
    simp only [List.map_cons, List.sum_cons]
    have h1 := h a (by simp)
    have h2 := ih (fun d hd => h d (by simp [hd]))
    omega
theorem gr_len0 (p c : Nat → Nat) : ∀ m i left, (grN p c m i left).length ≤ (avG p c m i) ^ left := by
  intro m
  induction m with
  | zero =>
    intro i left
    simp only [grN, avG]
    split
    · rename_i h; subst h; simp
    · simp
  | succ m ih =>
    intro i left
    simp only [grN, avG, List.length_flatMap, List.length_map]
    refine Nat.le_trans (sum_le (g := fun d => (avG p c m (i + 1)) ^ (left - d)) _ (fun d _ => ih (i + 1) (left - d))) ?_
    by_cases e : p i < hiG p c i
    · rw [if_pos e, Nat.add_comm 1]
      exact geo_le _ _ _ (by omega)
    · rw [if_neg e, Nat.zero_add]
      have h1 : min (hiG p c i + 1 - p i) (left + 1) ≤ 1 := by omega
      rcases Nat.eq_zero_or_pos (min (hiG p c i + 1 - p i) (left + 1)) with h0 | h0
      · rw [h0]; simp
      · rw [show min (hiG p c i + 1 - p i) (left + 1) = 1 by omega]; simp
theorem gr_len {p c : Nat → Nat} {m k : Nat} (hm : 0 < m) (hd : ∀ x, x + 1 < m → p (x + 1) ≤ p x) (hs : sumU p 0 (m - 1) + k ≤ 16) : (grN p c m 0 k).length ≤ 6 ^ k := by
  rcases Nat.eq_zero_or_pos k with h0 | h0
  · subst h0; have := gr_len0 p c m 0 0; simpa using this
  · refine Nat.le_trans (gr_len0 p c m 0 k) (Nat.pow_le_pow_left ?_ k)
    obtain ⟨q, rfl⟩ : ∃ q, m = q + 1 := ⟨m - 1, by omega⟩
    have h1 := avG_le p c q 0
    obtain ⟨_, h2⟩ := cntD_le p q 0 (fun x _ hx => hd x (by omega))
    have := six_of h2 (by simp at hs; omega)
    simp only [avG]
    split <;> omega

end Go.Proofs.YtpdlhnniibjfaaiDoor
