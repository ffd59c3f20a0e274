/-
  The table that parts.Count and ferref.Partitions fill: plain facts.
-/
import Derived.Test.YthpkjnfmkinepaaDoorPMath
namespace Go.Proofs.YthpkjnfmkinepaaDoor

/-- One row out of the one ahead. -/
def dpStep (f : Nat → Nat) (p : Nat) : Nat → Nat → Nat
  | 0, s => f s
  | n + 1, s => if s < p then f s else f s + dpStep f p n (s - p)
/-- Place s when the parts up to k have been put in. -/
def dp : Nat → Nat → Nat
  | 0 => fun s => if s = 0 then 1 else 0
  | k + 1 => fun s => dpStep (dp k) (k + 1) s s
theorem dpStep_fuel (f : Nat → Nat) (p : Nat) (hp : 0 < p) : ∀ n m s, s ≤ n → s ≤ m → dpStep f p n s = dpStep f p m s := by
  intro n
  induction n with
  | zero =>
    intro m s hn _
    obtain rfl : s = 0 := by omega
    cases m with
    | zero => rfl
    | succ m => rw [dpStep, dpStep, if_pos hp]
  | succ n ih =>
    intro m s hn hm
    cases m with
    | zero =>
      obtain rfl : s = 0 := by omega
      rw [dpStep, dpStep, if_pos hp]
    | succ m =>
      rw [dpStep, dpStep]
      by_cases h : s < p
      · rw [if_pos h, if_pos h]
      · rw [if_neg h, if_neg h, ih m (s - p) (by omega) (by omega)]
theorem dp_zero (s : Nat) : dp 0 s = if s = 0 then 1 else 0 := rfl
theorem dp_low {k s : Nat} (h : s < k + 1) : dp (k + 1) s = dp k s := by
  show dpStep (dp k) (k + 1) s s = _
  cases s with
  | zero => rfl
  | succ s => rw [dpStep, if_pos h]
theorem dp_high {k s : Nat} (h : ¬ s < k + 1) : dp (k + 1) s = dp k s + dp (k + 1) (s - (k + 1)) := by
  show dpStep (dp k) (k + 1) s s = _ + dpStep (dp k) (k + 1) _ _
  cases s with
  | zero => omega
  | succ s => rw [dpStep, if_neg h, dpStep_fuel (dp k) (k + 1) (by omega) s (s + 1 - (k + 1)) (s + 1 - (k + 1)) (by omega) (Nat.le_refl _)]
theorem dp_up (k s : Nat) : dp k s ≤ dp (k + 1) s := by
  by_cases h : s < k + 1
  · rw [dp_low h]; exact Nat.le_refl _
  · rw [dp_high h]; omega
theorem dp_up_le {k m : Nat} (h : k ≤ m) (s : Nat) : dp k s ≤ dp m s := by
  induction m with
  | zero => obtain rfl : k = 0 := by omega
            exact Nat.le_refl _
  | succ m ih =>
    by_cases e : k = m + 1
    · rw [e]; exact Nat.le_refl _
    · exact Nat.le_trans (ih (by omega)) (dp_up m s)
theorem dp_one : ∀ s, dp 1 s = 1 := by
  intro s
  induction s with
  | zero => rw [dp_low (by omega), dp_zero, if_pos rfl]
  | succ s ih => rw [dp_high (by omega), dp_zero, if_neg (by omega), Nat.add_sub_cancel, ih]
theorem dp_side : ∀ k, 1 ≤ k → ∀ s, dp k s ≤ dp k (s + 1) := by
  intro k hk
  induction k with
  | zero => omega
  | succ k ih =>
    rcases Nat.eq_zero_or_pos k with h0 | h0
    · subst h0; intro s; rw [dp_one, dp_one]; exact Nat.le_refl _
    · intro s
      induction s using Nat.strongRecOn with
      | _ s ihs =>
        have h1 := ih h0 s
        by_cases hs : s < k + 1
        · rw [dp_low hs]
          exact Nat.le_trans h1 (dp_up k (s + 1))
        · rw [dp_high hs, dp_high (show ¬ s + 1 < k + 1 by omega)]
          have h2 := ihs (s - (k + 1)) (by omega)
          rw [show s + 1 - (k + 1) = s - (k + 1) + 1 by omega]
          omega
theorem dp_side_le {k s t : Nat} (hk : 1 ≤ k) (h : s ≤ t) : dp k s ≤ dp k t := by
  induction t with
  | zero => obtain rfl : s = 0 := by omega
            exact Nat.le_refl _
  | succ t ih =>
    by_cases e : s = t + 1
    · rw [e]; exact Nat.le_refl _
    · exact Nat.le_trans (ih (by omega)) (dp_side k hk t)
/-- Every place of every row is at most the last one of the last row. -/
theorem dp_le {k s : Nat} (hk : k ≤ 400) (hs : s ≤ 400) : dp k s ≤ dp 400 400 := Nat.le_trans (dp_up_le hk s) (dp_side_le (by omega) hs)
theorem dp_pow : ∀ k s, dp k s ≤ 2 ^ (k + s) := by
  intro k
  induction k with
  | zero =>
    intro s
    rw [dp_zero]
    split
    · exact Nat.one_le_two_pow
    · exact Nat.zero_le _
  | succ k ih =>
    intro s
    induction s using Nat.strongRecOn with
    | _ s ihs =>
      have e : 2 ^ (k + 1 + s) = 2 ^ (k + s) + 2 ^ (k + s) := by rw [show k + 1 + s = (k + s) + 1 by omega, Nat.pow_succ]; omega
      by_cases hs : s < k + 1
      · rw [dp_low hs, e]; have := ih s; omega
      · rw [dp_high hs, e]
        have h1 := ih s
        have h2 := ihs (s - (k + 1)) (by omega)
        rw [show k + 1 + (s - (k + 1)) = s by omega] at h2
        have h3 : 2 ^ s ≤ 2 ^ (k + s) := Nat.pow_le_pow_right (by omega) (by omega)
        omega

end Go.Proofs.YthpkjnfmkinepaaDoor
