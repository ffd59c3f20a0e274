/-
  The greatest number of the table of counts: reckoned with whole rows as one number each.
-/
import Derived.Test.YthpkjnfmkinepaaDoorCMath
import Derived.KernelRfl
namespace Go.Proofs.YthpkjnfmkinepaaDoor

def pk (X : Nat) (f : Nat → Nat) : Nat → Nat
  | 0 => 0
  | n + 1 => pk X f n + f n * X ^ n
theorem pk_lt {X : Nat} {f : Nat → Nat} : ∀ n, (∀ s, s < n → f s < X) → pk X f n < X ^ n := by
  intro n
  induction n with
  | zero => intro _; simp [pk]
  | succ n ih =>
    intro h
    have h1 := ih (fun s hs => h s (by omega))
    have h2 := h n (by omega)
    rw [pk, Nat.pow_succ]
    have h3 : (f n + 1) * X ^ n ≤ X * X ^ n := Nat.mul_le_mul_right _ h2
    rw [Nat.add_mul, Nat.one_mul] at h3
    rw [Nat.mul_comm (X ^ n) X]
    omega
theorem pk_mod {X : Nat} {f : Nat → Nat} {n : Nat} : ∀ m, (∀ s, s < n + m → f s < X) → pk X f (n + m) % X ^ n = pk X f n := by
  intro m
  induction m with
  | zero => intro h; exact Nat.mod_eq_of_lt (pk_lt n (fun s hs => h s (by omega)))
  | succ m ih =>
    intro h
    rw [show n + (m + 1) = n + m + 1 by omega, pk, Nat.pow_add, Nat.mul_comm (f (n + m)), Nat.mul_assoc, Nat.add_mul_mod_self_left]
    exact ih (fun s hs => h s (by omega))
theorem pk_step (X k : Nat) : ∀ n, k + 1 ≤ n → pk X (dp (k + 1)) n = pk X (dp k) n + X ^ (k + 1) * pk X (dp (k + 1)) (n - (k + 1)) := by
  intro n
  induction n with
  | zero => intro h; omega
  | succ n ih =>
    intro h
    by_cases e : n < k + 1
    · have e2 : n = k := by omega
      subst e2
      have key : ∀ m, m ≤ n + 1 → pk X (dp (n + 1)) m = pk X (dp n) m := by
        intro m
        induction m with
        | zero => intro _; rfl
        | succ m ihm => intro hm; rw [pk, pk, ihm (by omega), dp_low (by omega)]
      rw [key _ (Nat.le_refl _), Nat.sub_self]; simp [pk]
    · rw [pk, pk, ih (by omega), dp_high e, show n + 1 - (k + 1) = (n - (k + 1)) + 1 by omega, pk, Nat.mul_add, Nat.add_mul]
      have e3 : X ^ (k + 1) * (dp (k + 1) (n - (k + 1)) * X ^ (n - (k + 1))) = dp (k + 1) (n - (k + 1)) * X ^ n := by
        rw [Nat.mul_comm, Nat.mul_assoc, ← Nat.pow_add, show n - (k + 1) + (k + 1) = n by omega]
      rw [e3]
      omega
theorem pk_small (X k n : Nat) (h : n < k + 1) : pk X (dp (k + 1)) n = pk X (dp k) n := by
  induction n with
  | zero => rfl
  | succ n ih => rw [pk, pk, ih (by omega), dp_low (by omega)]
def Great (X : Nat) : Prop := ∀ k s, k ≤ 400 → s < 401 → dp k s < X

def stepN (X Q p : Nat) : Nat → Nat → Nat
  | 0, n => Q % X ^ n
  | f + 1, n => if n < p then Q % X ^ n else Q % X ^ n + X ^ p * stepN X Q p f (n - p)
def rowN (X : Nat) : Nat → Nat
  | 0 => 1
  | k + 1 => stepN X (rowN X k) (k + 1) 401 401
theorem stepN_eq {X : Nat} (hX : Great X) {k : Nat} (hk : k + 1 ≤ 400) : ∀ f n, n ≤ f → n ≤ 401 → stepN X (pk X (dp k) 401) (k + 1) f n = pk X (dp (k + 1)) n := by
  have hm : ∀ n, n ≤ 401 → pk X (dp k) 401 % X ^ n = pk X (dp k) n := fun n hn => by
    have := pk_mod (f := dp k) (n := n) (401 - n) (fun s hs => hX _ _ (by omega) (by omega))
    rw [show n + (401 - n) = 401 by omega] at this; exact this
  intro f
  induction f with
  | zero =>
    intro n hn h4
    obtain rfl : n = 0 := by omega
    rw [stepN, hm 0 (by omega)]; rfl
  | succ f ih =>
    intro n hn h4
    rw [stepN]
    by_cases h : n < k + 1
    · rw [if_pos h, hm n h4, pk_small X k n h]
    · rw [if_neg h, hm n h4, ih (n - (k + 1)) (by omega) (by omega), ← pk_step X k n (by omega)]
theorem pk_first (X : Nat) : ∀ n, pk X (dp 0) (n + 1) = 1 := by
  intro n
  induction n with
  | zero => simp [pk, dp_zero]
  | succ n ih => rw [pk, ih, dp_zero, if_neg (by omega)]; simp
theorem rowN_eq {X : Nat} (hX : Great X) : ∀ k, k ≤ 400 → rowN X k = pk X (dp k) 401 := by
  intro k
  induction k with
  | zero => intro _; exact (pk_first X 400).symm
  | succ k ih => intro hk; rw [rowN, ih (by omega), stepN_eq hX hk 401 401 (Nat.le_refl _) (Nat.le_refl _)]
theorem pk_top {X : Nat} {f : Nat → Nat} (h0 : 0 < X) (n : Nat) (h : ∀ s, s < n → f s < X) : pk X f (n + 1) / X ^ n = f n := by
  rw [pk, Nat.add_mul_div_right _ _ (Nat.pow_pos h0), Nat.div_eq_of_lt (pk_lt n h), Nat.zero_add]
theorem last_at {X N : Nat} (hX : Great X) (h0 : 0 < X) (hN : N = 400) : rowN X N / X ^ N = dp N N := by
  rw [rowN_eq hX N (by omega), show 401 = N + 1 by omega]
  exact pk_top h0 N (fun s hs => hX _ _ (by omega) (by omega))
theorem great_pow {e : Nat} (he : 801 ≤ e) : Great (2 ^ e) := fun k s hk hs => by
  have h1 := dp_pow k s
  have h2 : 2 ^ (k + s) < 2 ^ e := Nat.pow_lt_pow_right (by omega) (by omega)
  exact Nat.lt_of_le_of_lt h1 h2
/-- The bound as a test that the kernel runs. -/
def lastB (e N : Nat) : Bool := Nat.blt (rowN (2 ^ e) N / (2 ^ e) ^ N) 9223372036854775808
theorem last_lt_at {e N : Nat} (he : 801 ≤ e) (hN : N = 400) (h : lastB e N = true) : dp N N < 9223372036854775808 := by
  unfold lastB at h
  rw [last_at (great_pow he) (Nat.two_pow_pos e) hN] at h
  rw [Nat.blt_eq] at h
  exact h
theorem last_lt : dp 400 400 < 9223372036854775808 := last_lt_at (e := 832) (by omega) rfl (by kernel_rfl)

end Go.Proofs.YthpkjnfmkinepaaDoor
