/-
  Sums, products and determinants of whole numbers, as functions of their places.
  Products of differences: by determinants, and by what lies between.
  Hooks: what they come to, times all differences.
  Right fillings as the search finds them: plain.
  How many there can be: plain.
  Right fillings letter by letter: tables, words and what stays of them: plain.
-/
import Derived.Test.YtheebpjkjclgbaaBOwn
namespace Go.Proofs.Ytheebpjkjclgbaa

/-- A sum of n numbers. -/
def sZ (f : Nat → Int) : Nat → Int
  | 0 => 0
  | n + 1 => sZ f n + f n
/-- A product of n numbers. -/
def pZ (f : Nat → Int) : Nat → Int
  | 0 => 1
  | n + 1 => pZ f n * f n
theorem sZ_congr {f g : Nat → Int} : ∀ n, (∀ i, i < n → f i = g i) → sZ f n = sZ g n
  | 0, _ => rfl
  | n + 1, h => by rw [sZ, sZ, sZ_congr n (fun i hi => h i (by omega)), h n (by omega)]
theorem pZ_congr {f g : Nat → Int} : ∀ n, (∀ i, i < n → f i = g i) → pZ f n = pZ g n
  | 0, _ => rfl
  | n + 1, h => by rw [pZ, pZ, pZ_congr n (fun i hi => h i (by omega)), h n (by omega)]
theorem sZ_add (f g : Nat → Int) : ∀ n, sZ (fun i => f i + g i) n = sZ f n + sZ g n
  | 0 => rfl
  | n + 1 => by rw [sZ, sZ, sZ, sZ_add f g n]; omega
theorem sZ_mul (c : Int) (f : Nat → Int) : ∀ n, sZ (fun i => c * f i) n = c * sZ f n
  | 0 => by simp [sZ]
  | n + 1 => by rw [sZ, sZ, sZ_mul c f n, Int.mul_add]
theorem sZ_zero {f : Nat → Int} {n : Nat} (h : ∀ i, i < n → f i = 0) : sZ f n = 0 := by
  induction n with
  | zero => rfl
  | succ n ih => rw [sZ, ih (fun i hi => h i (by omega)), h n (by omega)]; rfl
theorem sZ_one {f : Nat → Int} {k : Nat} : ∀ n, k < n → (∀ i, i < n → i ≠ k → f i = 0) → sZ f n = f k := by
  intro n
  induction n with
  | zero => intro h _; omega
  | succ n ih =>
    intro hk h
    rw [sZ]
    by_cases e : k = n
    · subst e; rw [sZ_zero (fun i hi => h i (by omega) (by omega)), Int.zero_add]
    · rw [ih (by omega) (fun i hi hne => h i (by omega) hne), h n (by omega) (fun q => e q.symm), Int.add_zero]
theorem sZ_two {f : Nat → Int} {k : Nat} : ∀ n, k + 1 < n → (∀ i, i < n → i ≠ k → i ≠ k + 1 → f i = 0) → sZ f n = f k + f (k + 1) := by
  intro n
  induction n with
  | zero => intro h _; omega
  | succ n ih =>
    intro hk h
    rw [sZ]
    by_cases e : k + 1 = n
    · subst e; rw [sZ_one (k := k) (k + 1) (by omega) (fun i hi hne => h i (by omega) hne (by omega))]
    · rw [ih (by omega) (fun i hi h1 h2 => h i (by omega) h1 h2), h n (by omega) (by omega) (fun q => e q.symm), Int.add_zero]
theorem sZ_swap (f : Nat → Nat → Int) (m : Nat) : ∀ n, sZ (fun i => sZ (f i) m) n = sZ (fun j => sZ (fun i => f i j) n) m
  | 0 => by simp only [sZ]; rw [sZ_zero (fun _ _ => rfl)]
  | n + 1 => by rw [sZ, sZ_swap f m n, ← sZ_add]; rfl
theorem sZ_shift (f : Nat → Int) : ∀ n, sZ f (n + 1) = f 0 + sZ (fun i => f (i + 1)) n
  | 0 => by simp [sZ]
  | n + 1 => by rw [sZ, sZ_shift f n, sZ]; omega
theorem pZ_shift (f : Nat → Int) : ∀ n, pZ f (n + 1) = f 0 * pZ (fun i => f (i + 1)) n
  | 0 => by simp [pZ]
  | n + 1 => by rw [pZ, pZ_shift f n, pZ, Int.mul_assoc]
theorem pZ_mul (f g : Nat → Int) : ∀ n, pZ (fun i => f i * g i) n = pZ f n * pZ g n
  | 0 => rfl
  | n + 1 => by rw [pZ, pZ, pZ, pZ_mul f g n]; ac_rfl
theorem pZ_add (f : Nat → Int) (m : Nat) : ∀ n, pZ f (m + n) = pZ f m * pZ (fun i => f (m + i)) n
  | 0 => by simp [pZ]
  | n + 1 => by rw [← Nat.add_assoc, pZ, pZ_add f m n, pZ, Int.mul_assoc]

/-- The sign of place i. -/
def sg : Nat → Int
  | 0 => 1
  | i + 1 => - sg i
/-- Place r, place i left out. -/
def skp (i r : Nat) : Nat := if r < i then r else r + 1
def psn (i k : Nat) : Nat := if k < i then k else k - 1
theorem skp_psn {i k r : Nat} (h : i ≠ k) : skp i r = k ↔ r = psn i k := by
  unfold skp psn
  split <;> split <;> omega
theorem skp_ne (i r : Nat) : skp i r ≠ i := by unfold skp; split <;> omega
theorem pZ_skp (d : Nat → Int) : ∀ n i, i ≤ n → d i * pZ (fun r => d (skp i r)) n = pZ d (n + 1) := by
  intro n
  induction n with
  | zero => intro i hi; obtain rfl : i = 0 := by omega
            simp [pZ]
  | succ n ih =>
    intro i hi
    by_cases e : i = n + 1
    · subst e
      rw [pZ_congr (n + 1) (g := d) (fun r hr => by rw [skp, if_pos hr]), pZ, pZ, pZ]; ac_rfl
    · rw [pZ, ← Int.mul_assoc, ih i (by omega), show skp i n = n + 1 by unfold skp; rw [if_neg (by omega)]]
      rfl

/-- The determinant, by its first column. -/
def det : Nat → (Nat → Nat → Int) → Int
  | 0, _ => 1
  | n + 1, A => sZ (fun i => sg i * (A i 0 * det n (fun r c => A (skp i r) (c + 1)))) (n + 1)
theorem det_congr : ∀ n {A B : Nat → Nat → Int}, (∀ r c, r < n → c < n → A r c = B r c) → det n A = det n B
  | 0, _, _, _ => rfl
  | n + 1, A, B, h => by
    rw [det, det]
    refine sZ_congr _ (fun i hi => ?_)
    rw [h i 0 hi (by omega), det_congr n (A := fun r c => A (skp i r) (c + 1)) (B := fun r c => B (skp i r) (c + 1)) (fun r c hr hc => h _ _ (by unfold skp; split <;> omega) (by omega))]
/-- Row k becomes u. -/
def rpR (A : Nat → Nat → Int) (k : Nat) (u : Nat → Int) : Nat → Nat → Int := fun r c => if r = k then u c else A r c
theorem minor_rp (A : Nat → Nat → Int) {i k : Nat} (u : Nat → Int) (h : i ≠ k) : (fun r c => rpR A k u (skp i r) (c + 1)) = rpR (fun r c => A (skp i r) (c + 1)) (psn i k) (fun c => u (c + 1)) := by
  funext r c
  unfold rpR
  by_cases e : skp i r = k
  · rw [if_pos e, if_pos ((skp_psn h).1 e)]
  · rw [if_neg e, if_neg (fun q => e ((skp_psn h).2 q))]
theorem minor_self (A : Nat → Nat → Int) (k : Nat) (u : Nat → Int) : (fun r c => rpR A k u (skp k r) (c + 1)) = fun r c => A (skp k r) (c + 1) := by
  funext r c
  unfold rpR
  rw [if_neg (skp_ne k r)]
/-- It is linear in each row. -/
theorem det_lin : ∀ (n : Nat) (A : Nat → Nat → Int) (k : Nat) (a b : Int) (u v : Nat → Int), k < n → det n (rpR A k (fun c => a * u c + b * v c)) = a * det n (rpR A k u) + b * det n (rpR A k v) := by
  intro n
  induction n with
  | zero => intro A k a b u v hk; omega
  | succ n ih =>
    intro A k a b u v hk
    rw [det, det, det, ← sZ_mul, ← sZ_mul, ← sZ_add]
    refine sZ_congr _ (fun i hi => ?_)
    by_cases e : i = k
    · subst e
      rw [minor_self, minor_self, minor_self]
      simp only [rpR, if_pos]
      generalize det n _ = D
      rw [Int.add_mul, Int.mul_add]
      ac_rfl
    · rw [minor_rp A _ e, minor_rp A _ e, minor_rp A _ e]
      have hp : psn i k < n := by unfold psn; split <;> omega
      rw [ih _ _ a b (fun c => u (c + 1)) (fun c => v (c + 1)) hp]
      simp only [rpR, if_neg e]
      rw [Int.mul_add, Int.mul_add]
      ac_rfl
theorem rpR_self (A : Nat → Nat → Int) (k : Nat) : rpR A k (A k) = A := by
  funext r c
  unfold rpR
  by_cases e : r = k
  · rw [if_pos e, e]
  · rw [if_neg e]
/-- Two rows that follow each other are the same: 0. -/
theorem det_alt : ∀ (n : Nat) (A : Nat → Nat → Int) (k : Nat), k + 1 < n → (∀ c, A k c = A (k + 1) c) → det n A = 0 := by
  intro n
  induction n with
  | zero => intro A k hk; omega
  | succ n ih =>
    intro A k hk h
    rw [det, sZ_two (k := k) (n + 1) hk (fun i hi h1 h2 => ?_)]
    · have e : det n (fun r c => A (skp k r) (c + 1)) = det n (fun r c => A (skp (k + 1) r) (c + 1)) := by
        refine det_congr n (fun r c hr _ => ?_)
        unfold skp
        by_cases e1 : r < k
        · rw [if_pos e1, if_pos (by omega)]
        · by_cases e2 : r = k
          · subst e2; rw [if_neg (by omega), if_pos (by omega)]; exact (h _).symm
          · rw [if_neg e1, if_neg (by omega)]
      rw [e, h 0, show sg (k + 1) = - sg k from rfl, Int.neg_mul]
      omega
    · have e : det n (fun r c => A (skp i r) (c + 1)) = 0 := by
        refine ih _ (psn i k) (by unfold psn; split <;> omega) (fun c => ?_)
        have e1 : skp i (psn i k) = k := (skp_psn h1).2 rfl
        have e2 : psn i k + 1 = psn i (k + 1) := by unfold psn; split <;> split <;> omega
        have e3 : skp i (psn i k + 1) = k + 1 := by rw [e2]; exact (skp_psn h2).2 rfl
        rw [e1, e3]; exact h _
      rw [e, Int.mul_zero, Int.mul_zero]
/-- A row is added to the next one, so many times. -/
theorem det_addrow {n : Nat} (A : Nat → Nat → Int) {k : Nat} (a : Int) (hk : k + 1 < n) : det n (rpR A (k + 1) (fun c => A (k + 1) c + a * A k c)) = det n A := by
  have h := det_lin n A (k + 1) 1 a (A (k + 1)) (A k) hk
  rw [rpR_self, det_alt n (rpR A (k + 1) (A k)) k hk (fun c => by simp [rpR])] at h
  rw [show (fun c => A (k + 1) c + a * A k c) = fun c => 1 * A (k + 1) c + a * A k c from funext fun c => by rw [Int.one_mul], h]
  omega
/-- From row j on each row without the one ahead. -/
def difM (A : Nat → Nat → Int) (j : Nat) : Nat → Nat → Int := fun r c => if r < j then A r c else A r c - A (r - 1) c
theorem det_dif (n : Nat) (A : Nat → Nat → Int) : ∀ d j, j + d = n → 1 ≤ j → det n (difM A j) = det n A := by
  intro d
  induction d with
  | zero => intro j hj _; exact det_congr n (fun r c hr _ => by unfold difM; rw [if_pos (by omega)])
  | succ d ih =>
    intro j hj h1
    rw [← ih (j + 1) (by omega) (by omega)]
    obtain ⟨k, rfl⟩ : ∃ k, j = k + 1 := ⟨j - 1, by omega⟩
    rw [← det_addrow (difM A (k + 1 + 1)) (k := k) (-1) (by omega)]
    refine det_congr n (fun r c _ _ => ?_)
    unfold rpR difM
    by_cases e : r = k + 1
    · subst e
      rw [if_neg (by omega), if_pos rfl]
      dsimp only
      rw [if_pos (by omega), if_pos (by omega), show k + 1 - 1 = k by omega]; omega
    · rw [if_neg e]
      by_cases e2 : r < k + 1
      · rw [if_pos e2, if_pos (by omega)]
      · rw [if_neg e2, if_neg (by omega)]
/-- The first column is 1 throughout. -/
theorem det_ones (n : Nat) (A : Nat → Nat → Int) (h : ∀ r, r < n + 1 → A r 0 = 1) : det (n + 1) A = det n (fun r c => A (r + 1) (c + 1) - A r (c + 1)) := by
  rw [← det_dif (n + 1) A n 1 (by omega) (by omega), det, sZ_one (k := 0) (n + 1) (by omega) (fun i hi hne => ?_)]
  · have e0 : difM A 1 0 0 = 1 := by unfold difM; rw [if_pos (by omega)]; exact h 0 (by omega)
    rw [e0, show sg 0 = 1 from rfl, Int.one_mul, Int.one_mul]
    refine det_congr n (fun r c _ _ => ?_)
    have e1 : skp 0 r = r + 1 := by unfold skp; rw [if_neg (by omega)]
    unfold difM
    rw [e1, if_neg (by omega)]; rfl
  · have e0 : difM A 1 i 0 = 0 := by
      unfold difM; rw [if_neg (by omega), h i hi, h (i - 1) (by omega)]; rfl
    rw [e0, Int.zero_mul, Int.mul_zero]
/-- Each row times a number. -/
theorem det_rows : ∀ (n : Nat) (d : Nat → Int) (A : Nat → Nat → Int), det n (fun r c => d r * A r c) = pZ d n * det n A := by
  intro n
  induction n with
  | zero => intro d A; rfl
  | succ n ih =>
    intro d A
    rw [det, det, ← sZ_mul]
    refine sZ_congr _ (fun i hi => ?_)
    rw [ih (fun r => d (skp i r)) (fun r c => A (skp i r) (c + 1)), ← pZ_skp d n i (by omega)]
    ac_rfl
/-- Each column times a number. -/
theorem det_cols : ∀ (n : Nat) (d : Nat → Int) (A : Nat → Nat → Int), det n (fun r c => d c * A r c) = pZ d n * det n A := by
  intro n
  induction n with
  | zero => intro d A; rfl
  | succ n ih =>
    intro d A
    rw [det, det, ← sZ_mul]
    refine sZ_congr _ (fun i hi => ?_)
    rw [ih (fun c => d (c + 1)) (fun r c => A (skp i r) (c + 1)), pZ_shift]
    ac_rfl
/-- A row that is a sum. -/
theorem det_sum {n : Nat} (A : Nat → Nat → Int) {k : Nat} (u : Nat → Nat → Int) (hk : k < n) : ∀ m, det n (rpR A k (fun c => sZ (fun t => u t c) m)) = sZ (fun t => det n (rpR A k (u t))) m := by
  intro m
  induction m with
  | zero =>
    have h := det_lin n A k 0 0 (fun _ => 0) (fun _ => 0) hk
    simp only [sZ]
    simpa using h
  | succ m ih =>
    rw [sZ, ← ih]
    have h := det_lin n A k 1 1 (fun c => sZ (fun t => u t c) m) (u m) hk
    rw [Int.one_mul, Int.one_mul] at h
    rw [← h]
    exact congrArg (fun f => det n (rpR A k f)) (funext fun c => by simp only [sZ]; omega)
/-- The rows, one by one, each column times a number, come to the determinant times their sum. -/
theorem det_trace : ∀ (n : Nat) (d : Nat → Int) (A : Nat → Nat → Int), sZ (fun k => det n (rpR A k (fun c => d c * A k c))) n = sZ d n * det n A := by
  intro n
  induction n with
  | zero => intro d A; rfl
  | succ n ih =>
    intro d A
    have e1 : ∀ k, k < n + 1 → det (n + 1) (rpR A k (fun c => d c * A k c)) = sZ (fun i => if i = k then d 0 * (sg i * (A i 0 * det n (fun r c => A (skp i r) (c + 1)))) else sg i * (A i 0 * det n (rpR (fun r c => A (skp i r) (c + 1)) (psn i k) (fun c => d (c + 1) * A k (c + 1))))) (n + 1) := fun k hk => by
      rw [det]
      refine sZ_congr _ (fun i hi => ?_)
      by_cases e : i = k
      · subst e
        rw [if_pos rfl, minor_self]
        simp only [rpR, if_pos]
        ac_rfl
      · rw [if_neg e, minor_rp A _ e]
        simp only [rpR, if_neg e]
    rw [sZ_congr (n + 1) e1, sZ_swap, det, ← sZ_mul]
    refine sZ_congr _ (fun i hi => ?_)
    have e2 : ∀ (X : Int) (f : Nat → Int) m, i ≤ m → sZ (fun k => if i = k then X else f (psn i k)) (m + 1) = X + sZ f m := by
      intro X f m
      induction m with
      | zero => intro h; obtain rfl : i = 0 := by omega
                simp [sZ]
      | succ m ihm =>
        intro h
        by_cases e : i = m + 1
        · subst e
          rw [sZ, if_pos rfl, sZ_congr (m + 1) (g := f) (fun k hk => by rw [if_neg (by omega)]; unfold psn; rw [if_pos hk])]
          omega
        · rw [sZ, ihm (by omega), if_neg e, sZ, show psn i (m + 1) = m by unfold psn; rw [if_neg (by omega)]; omega]
          omega
    obtain ⟨F, hF⟩ : ∃ F : Nat → Int, ∀ q, F q = sg i * (A i 0 * det n (rpR (fun r c => A (skp i r) (c + 1)) q (fun c => d (c + 1) * A (skp i q) (c + 1)))) := ⟨_, fun _ => rfl⟩
    have e3 : ∀ k, k < n + 1 → (if i = k then d 0 * (sg i * (A i 0 * det n (fun r c => A (skp i r) (c + 1)))) else sg i * (A i 0 * det n (rpR (fun r c => A (skp i r) (c + 1)) (psn i k) (fun c => d (c + 1) * A k (c + 1))))) = (if i = k then d 0 * (sg i * (A i 0 * det n (fun r c => A (skp i r) (c + 1)))) else F (psn i k)) := fun k _ => by
      by_cases e : i = k
      · rw [if_pos e, if_pos e]
      · rw [if_neg e, if_neg e, hF, (skp_psn e).2 rfl]
    rw [sZ_congr (n + 1) e3, e2 _ F n (by omega), sZ_congr n (fun q _ => hF q), sZ_mul, sZ_mul, ih (fun c => d (c + 1)) (fun r c => A (skp i r) (c + 1)), sZ_shift d n, Int.add_mul]
    ac_rfl

end Go.Proofs.Ytheebpjkjclgbaa

namespace Go.Proofs.Ytheebpjkjclgbaa

/-- x (x - 1) .., so many factors. -/
def nwt (x : Int) : Nat → Int
  | 0 => 1
  | j + 1 => nwt x j * (x - j)
theorem nwt_succ (z : Int) : ∀ c, nwt (z + 1) (c + 1) = (z + 1) * nwt z c
  | 0 => by simp [nwt]
  | c + 1 => by
    rw [nwt, nwt_succ z c, nwt, Int.mul_assoc]
    rw [show z + 1 - ((c + 1 : Nat) : Int) = z - c by omega]
theorem nwt_dif (z : Int) (c : Nat) : nwt (z + 1) (c + 1) - nwt z (c + 1) = ((c : Int) + 1) * nwt z c := by
  rw [nwt_succ, nwt, Int.mul_comm (nwt z c), ← Int.sub_mul]
  congr 1; omega
theorem nwt_sum (a : Int) (c : Nat) : ∀ w, ((c : Int) + 1) * sZ (fun t => nwt (a + t) c) w = nwt (a + w) (c + 1) - nwt a (c + 1)
  | 0 => by simp [sZ]
  | w + 1 => by
    rw [sZ, Int.mul_add, nwt_sum a c w, ← nwt_dif, show a + ((w + 1 : Nat) : Int) = a + w + 1 by omega]; omega

/-- What is between, divided. -/
def ddf (x : Nat → Int) : Nat → Nat → Nat → Int
  | 0, 0, _ => 1
  | 0, _ + 1, _ => 0
  | j + 1, 0, i => (x i - j) * ddf x j 0 i
  | j + 1, s + 1, i => (x (i + (s + 1)) - j) * ddf x j (s + 1) i + ddf x j s i
theorem ddf_zero (x : Nat → Int) (i : Nat) : ∀ j, ddf x j 0 i = nwt (x i) j
  | 0 => rfl
  | j + 1 => by rw [ddf, ddf_zero x i j, nwt, Int.mul_comm]
theorem ddf_step (x : Nat → Int) : ∀ j s i, ddf x j s (i + 1) - ddf x j s i = (x (i + s + 1) - x i) * ddf x j (s + 1) i
  | 0, 0, i => by simp [ddf]
  | 0, s + 1, i => by simp [ddf]
  | j + 1, 0, i => by
    have h := ddf_step x j 0 i
    rw [ddf, ddf, ddf]
    rw [Nat.add_zero] at h ⊢
    rw [Int.mul_add, show (x (i + 1) - x i) * ((x (i + (0 + 1)) - (j : Int)) * ddf x j (0 + 1) i) = (x (i + 1) - (j : Int)) * ((x (i + 1) - x i) * ddf x j (0 + 1) i) by rw [Nat.zero_add]; ac_rfl, ← h]
    rw [Int.mul_sub, Int.sub_mul (x (i + 1)) (x i), Int.sub_mul, Int.sub_mul, Int.sub_mul]
    omega
  | j + 1, s + 1, i => by
    have h1 := ddf_step x j (s + 1) i
    have h2 := ddf_step x j s i
    rw [ddf, ddf, ddf, Int.mul_add]
    rw [show i + 1 + (s + 1) = i + (s + 1) + 1 by omega, show i + (s + 1 + 1) = i + (s + 1) + 1 by omega]
    rw [show (x (i + (s + 1) + 1) - x i) * ((x (i + (s + 1) + 1) - (j : Int)) * ddf x j (s + 1 + 1) i) = (x (i + (s + 1) + 1) - (j : Int)) * ((x (i + (s + 1) + 1) - x i) * ddf x j (s + 1 + 1) i) by ac_rfl, ← h1]
    rw [show i + s + 1 = i + (s + 1) by omega] at h2
    rw [show (x (i + (s + 1) + 1) - x i) * ddf x j (s + 1) i = (x (i + (s + 1) + 1) - x (i + (s + 1))) * ddf x j (s + 1) i + (x (i + (s + 1)) - x i) * ddf x j (s + 1) i by rw [← Int.add_mul]; congr 1; omega, ← h2]
    rw [Int.mul_sub, Int.sub_mul (x (i + (s + 1) + 1)) (x (i + (s + 1))), Int.sub_mul _ _ (ddf x j (s + 1) (i + 1)), Int.sub_mul _ _ (ddf x j (s + 1) i), Int.sub_mul _ _ (ddf x j (s + 1) i)]
    omega
theorem ddf_low (x : Nat → Int) : ∀ j s i, j < s → ddf x j s i = 0
  | 0, 0, i, h => by omega
  | 0, s + 1, i, h => rfl
  | j + 1, 0, i, h => by omega
  | j + 1, s + 1, i, h => by rw [ddf, ddf_low x j (s + 1) i (by omega), ddf_low x j s i (by omega)]; simp
theorem ddf_diag (x : Nat → Int) : ∀ s i, ddf x s s i = 1
  | 0, i => rfl
  | s + 1, i => by rw [ddf, ddf_low x s (s + 1) i (by omega), ddf_diag x s i]; simp

theorem det_ddf (x : Nat → Int) : ∀ n s, det n (fun r c => ddf x (s + c) s r) = pZ (fun j => pZ (fun i => x (j + s) - x i) j) n
  | 0, s => rfl
  | n + 1, s => by
    rw [det_ones n _ (fun r _ => by rw [Nat.add_zero]; exact ddf_diag x s r)]
    rw [det_congr n (B := fun r c => (x (r + s + 1) - x r) * ddf x (s + 1 + c) (s + 1) r) (fun r c _ _ => by
      rw [ddf_step, show s + (c + 1) = s + 1 + c by omega])]
    rw [det_rows n (fun r => x (r + s + 1) - x r) (fun r c => ddf x (s + 1 + c) (s + 1) r), det_ddf x n (s + 1), ← pZ_mul, pZ_shift]
    rw [show pZ (fun i => x (0 + s) - x i) 0 = 1 from rfl, Int.one_mul]
    refine pZ_congr n (fun j _ => ?_)
    rw [pZ, Int.mul_comm, show j + 1 + s = j + s + 1 by omega, show j + (s + 1) = j + s + 1 by omega]
/-- The product of all differences. -/
def van (x : Nat → Int) (m : Nat) : Int := pZ (fun j => pZ (fun i => x j - x i) j) m
theorem det_nwt (x : Nat → Int) (m : Nat) : det m (fun r c => nwt (x r) c) = van x m := by
  have h := det_ddf x m 0
  rw [det_congr m (B := fun r c => nwt (x r) c) (fun r c _ _ => by rw [Nat.zero_add]; exact ddf_zero x r c)] at h
  exact h
theorem van_congr {x y : Nat → Int} {m : Nat} (h : ∀ i, i < m → x i = y i) : van x m = van y m :=
  pZ_congr m fun j hj => pZ_congr j fun i hi => by rw [h j hj, h i (by omega)]

def upF (y : Nat → Int) (k : Nat) (z : Int) : Nat → Int := fun i => if i = k then z else y i
/-- The sum of F over all y with a i <= y i < a i + w i. -/
def bxS : Nat → (Nat → Int) → (Nat → Nat) → ((Nat → Int) → Int) → Int
  | 0, _, _, F => F (fun _ => 0)
  | k + 1, a, w, F => sZ (fun t => bxS k a w (fun y => F (upF y k (a k + t)))) (w k)
theorem bxS_mul (c : Int) : ∀ k a w F, bxS k a w (fun y => c * F y) = c * bxS k a w F
  | 0, _, _, _ => rfl
  | k + 1, a, w, F => by
    rw [bxS, bxS, ← sZ_mul]
    exact sZ_congr _ fun t _ => bxS_mul c k a w _
theorem bxS_congr : ∀ k (a : Nat → Int) (w : Nat → Nat) {F G : (Nat → Int) → Int}, (∀ y, (∀ i, i < k → a i ≤ y i ∧ y i < a i + w i) → F y = G y) → bxS k a w F = bxS k a w G
  | 0, _, _, _, _, h => h _ (fun _ hi => by omega)
  | k + 1, a, w, F, G, h => by
    rw [bxS, bxS]
    refine sZ_congr _ fun t ht => bxS_congr k a w fun y hy => h _ fun i hi => ?_
    unfold upF
    by_cases e : i = k
    · subst e; rw [if_pos rfl]; omega
    · rw [if_neg e]; exact hy i (by omega)
theorem det_box {n : Nat} (v : Int → Nat → Int) (a : Nat → Int) (w : Nat → Nat) : ∀ k (B : Nat → Nat → Int), k ≤ n → det n (fun r c => if r < k then sZ (fun t => v (a r + t) c) (w r) else B r c) = bxS k a w (fun y => det n (fun r c => if r < k then v (y r) c else B r c)) := by
  intro k
  induction k with
  | zero => intro B _; rw [bxS]; exact det_congr n fun r c _ _ => by rw [if_neg (by omega), if_neg (by omega)]
  | succ k ih =>
    intro B hk
    have e1 : (fun r c => if r < k + 1 then sZ (fun t => v (a r + t) c) (w r) else B r c) = rpR (fun r c => if r < k then sZ (fun t => v (a r + t) c) (w r) else B r c) k (fun c => sZ (fun t : Nat => (fun (t : Nat) c => v (a k + t) c) t c) (w k)) := by
      funext r c
      unfold rpR
      by_cases e : r = k
      · subst e; rw [if_pos (by omega), if_pos rfl]
      · rw [if_neg e]
        dsimp only
        by_cases e2 : r < k
        · rw [if_pos (by omega), if_pos e2]
        · rw [if_neg (by omega), if_neg e2]
    rw [e1, det_sum _ _ (by omega), bxS]
    refine sZ_congr _ fun t _ => ?_
    have e2 : rpR (fun r c => if r < k then sZ (fun t => v (a r + t) c) (w r) else B r c) k ((fun (t : Nat) c => v (a k + t) c) t) = fun r c => if r < k then sZ (fun t => v (a r + t) c) (w r) else rpR B k (fun c => v (a k + t) c) r c := by
      funext r c
      unfold rpR
      by_cases e : r = k
      · subst e; rw [if_pos rfl, if_neg (by omega), if_pos rfl]
      · rw [if_neg e, if_neg e]
    rw [e2, ih _ (by omega)]
    refine bxS_congr k a w fun y _ => det_congr n fun r c _ _ => ?_
    unfold rpR upF
    by_cases e : r = k
    · subst e; rw [if_neg (by omega), if_pos rfl, if_pos (by omega), if_pos rfl]
    · by_cases e2 : r < k
      · rw [if_pos e2, if_pos (by omega), if_neg e]
      · rw [if_neg e2, if_neg e, if_neg (by omega)]
/-- k! -/
def fct (k : Nat) : Int := pZ (fun c => (c : Int) + 1) k
theorem fct_succ (k : Nat) : fct (k + 1) = fct k * ((k : Int) + 1) := rfl
/-- The differences of m + 1 come of those of m that lie between. -/
theorem van_step (x : Nat → Int) (w : Nat → Nat) (m : Nat) (h : ∀ i, i < m → x (i + 1) = x i + w i) : van x (m + 1) = fct m * bxS m x w (fun y => van y m) := by
  rw [← det_nwt, det_ones m _ (fun _ _ => rfl)]
  rw [det_congr m (B := fun r c => ((c : Int) + 1) * (if r < m then sZ (fun t => nwt (x r + t) c) (w r) else 0)) (fun r c hr _ => by
    rw [if_pos hr, nwt_sum, h r hr])]
  rw [det_cols m (fun c => (c : Int) + 1) (fun r c => if r < m then sZ (fun t => nwt (x r + t) c) (w r) else 0), det_box nwt x w m (fun _ _ => 0) (Nat.le_refl _)]
  refine congrArg (fct m * ·) (bxS_congr m x w fun y _ => ?_)
  rw [← det_nwt]
  exact det_congr m fun r c hr _ => by rw [if_pos hr]
/-- How many ways there are to go on between, and between. -/
def cntG : Nat → (Nat → Int) → Int
  | 0, _ => 1
  | m + 1, x => bxS m x (fun i => (x (i + 1) - x i).toNat) (cntG m)
def sfc (m : Nat) : Int := pZ fct m
theorem van_cnt : ∀ m x, (∀ i, i + 1 < m → x i ≤ x (i + 1)) → van x m = sfc m * cntG m x
  | 0, x, _ => rfl
  | m + 1, x, h => by
    rw [van_step x (fun i => (x (i + 1) - x i).toNat) m (fun i hi => by have := h i (by omega); omega), cntG]
    rw [bxS_congr m x _ (G := fun y => sfc m * cntG m y) (fun y hy => van_cnt m y fun i hi => by
      have h1 := hy i (by omega)
      have h2 := hy (i + 1) (by omega)
      have h3 := h i (by omega)
      omega)]
    rw [bxS_mul, ← Int.mul_assoc, Int.mul_comm (fct m)]; rfl

/-- One less, place by place. -/
theorem van_less (x : Nat → Int) (m : Nat) : sZ (fun k => x k * van (upF x k (x k - 1)) m) m = (sZ x m - sZ (fun c => (c : Int)) m) * van x m := by
  have h := det_trace m (fun c => (c : Int)) (fun r c => nwt (x r) c)
  have e : ∀ k, k < m → x k * van (upF x k (x k - 1)) m = x k * van x m + (-1) * det m (rpR (fun r c => nwt (x r) c) k (fun c => (c : Int) * nwt (x k) c)) := fun k hk => by
    rw [← det_nwt, ← det_nwt]
    have e1 := det_lin m (fun r c => nwt (x r) c) k (x k) (-1) (fun c => nwt (x k) c) (fun c => (c : Int) * nwt (x k) c) hk
    rw [show (fun c => nwt (x k) c) = (fun r c => nwt (x r) c) k from rfl, rpR_self] at e1
    rw [← e1]
    have e2 := det_lin m (fun r c => nwt (x r) c) k (x k) 0 (fun c => nwt (x k - 1) c) (fun c => 0) hk
    simp only [Int.zero_mul, Int.add_zero] at e2
    rw [det_congr m (A := fun r c => nwt (upF x k (x k - 1) r) c) (B := rpR (fun r c => nwt (x r) c) k (fun c => nwt (x k - 1) c)) (fun r c _ _ => by
      unfold upF rpR
      by_cases q : r = k
      · rw [if_pos q, if_pos q]
      · rw [if_neg q, if_neg q]), ← e2]
    refine det_congr m fun r c _ _ => ?_
    unfold rpR
    by_cases q : r = k
    · rw [if_pos q, if_pos q]
      have h1 := nwt_succ (x k - 1) c
      rw [show x k - 1 + 1 = x k by omega] at h1
      simp only
      rw [← h1, nwt, Int.mul_sub, Int.mul_comm (nwt (x k) c) (x k), Int.mul_comm (nwt (x k) c)]; omega
    · rw [if_neg q, if_neg q]
  rw [sZ_congr m e, sZ_add, sZ_mul, h, ← det_nwt, Int.sub_mul]
  rw [show (fun k => x k * det m fun r c => nwt (x r) c) = fun k => (det m fun r c => nwt (x r) c) * x k from funext fun k => Int.mul_comm _ _, sZ_mul, Int.mul_comm (sZ x m)]
  omega

end Go.Proofs.Ytheebpjkjclgbaa

namespace Go.Proofs.Ytheebpjkjclgbaa

theorem pZ_rev (f : Nat → Int) : ∀ n, pZ f n = pZ (fun i => f (n - 1 - i)) n
  | 0 => rfl
  | n + 1 => by
    rw [pZ_shift (fun i => f (n + 1 - 1 - i)) n, pZ, Int.mul_comm, pZ_rev f n]
    refine congr (congrArg _ (by rw [show n + 1 - 1 - 0 = n by omega])) (pZ_congr n fun i hi => ?_)
    rw [show n + 1 - 1 - (i + 1) = n - 1 - i by omega]
theorem pZ_ne {f : Nat → Int} : ∀ n, (∀ i, i < n → f i ≠ 0) → pZ f n ≠ 0
  | 0, _ => by simp [pZ]
  | n + 1, h => by rw [pZ]; exact Int.mul_ne_zero (pZ_ne n fun i hi => h i (by omega)) (h n (by omega))
theorem fct_ne (k : Nat) : fct k ≠ 0 := pZ_ne k fun i _ => by omega
theorem sfc_ne (m : Nat) : sfc m ≠ 0 := pZ_ne m fun i _ => fct_ne i
theorem fct_rev (P : Nat) : pZ (fun j => (P : Int) - j) P = fct P := by
  rw [pZ_rev]
  exact pZ_congr P fun i hi => by omega
theorem fct_add (a k : Nat) : fct a * pZ (fun j => (a : Int) + 1 + j) k = fct (a + k) := by
  unfold fct
  rw [pZ_add]
  exact congrArg _ (pZ_congr k fun i _ => by omega)
/-- A product that slides by one. -/
theorem pZ_tel (A : Int) : ∀ q : Nat, pZ (fun j => A - j) q * (A - q) = A * pZ (fun j => A - 1 - j) q
  | 0 => by simp [pZ]
  | q + 1 => by
    rw [pZ, pZ_tel A q, pZ, Int.mul_assoc]
    rw [show A - ((q + 1 : Nat) : Int) = A - 1 - q by omega]

/-- How many of the first t numbers are above j. -/
def cq (q : Nat → Nat) (j : Nat) : Nat → Nat
  | 0 => 0
  | t + 1 => cq q j t + (if j < q t then 1 else 0)
theorem cq_full {q : Nat → Nat} {j : Nat} : ∀ t, (∀ s, s < t → j < q s) → cq q j t = t
  | 0, _ => rfl
  | t + 1, h => by rw [cq, cq_full t fun s hs => h s (by omega), if_pos (h t (by omega))]
theorem cq_congr {q q' : Nat → Nat} {j : Nat} : ∀ t, (∀ s, s < t → q s = q' s) → cq q j t = cq q' j t
  | 0, _ => rfl
  | t + 1, h => by rw [cq, cq, cq_congr t fun s hs => h s (by omega), h t (by omega)]
/-- The hooks of a row, and the differences to the rows below. -/
theorem hook_row (P : Nat) (q : Nat → Nat) (hP : ∀ s, q s ≤ P) (hq : ∀ s, q (s + 1) ≤ q s) : ∀ t, pZ (fun j => (P : Int) - j + cq q j t) P * pZ (fun s => (P : Int) - q s + (s + 1)) t = fct (P + t)
  | 0 => by
    rw [pZ, Int.mul_one, Nat.add_zero, ← fct_rev]
    exact pZ_congr P fun j _ => by simp [cq]
  | t + 1 => by
    have ih := hook_row P q hP hq t
    have hmono : ∀ s, s ≤ t → q t ≤ q s := fun s hs => by
      obtain ⟨d, rfl⟩ : ∃ d, t = s + d := ⟨t - s, by omega⟩
      clear ih hs
      induction d with
      | zero => exact Nat.le_refl _
      | succ d ihd => exact Nat.le_trans (hq (s + d)) ihd
    obtain ⟨d, hd⟩ : ∃ d, P = q t + d := ⟨P - q t, by have := hP t; omega⟩
    have e1 : pZ (fun j => (P : Int) - j + cq q j (t + 1)) P = pZ (fun j => ((P : Int) + t + 1) - j) (q t) * pZ (fun i => (P : Int) - ((q t + i : Nat) : Int) + cq q (q t + i) t) d := by
      conv => lhs; arg 2; rw [hd]
      rw [pZ_add]
      refine congr (congrArg _ (pZ_congr _ fun j hj => ?_)) (pZ_congr _ fun i _ => ?_)
      · rw [cq_full (t + 1) fun s hs => by have := hmono s (by omega); omega]; omega
      · rw [cq, if_neg (by omega), Nat.add_zero]
    have e2 : pZ (fun j => (P : Int) - j + cq q j t) P = pZ (fun j => ((P : Int) + t + 1) - 1 - j) (q t) * pZ (fun i => (P : Int) - ((q t + i : Nat) : Int) + cq q (q t + i) t) d := by
      conv => lhs; arg 2; rw [hd]
      rw [pZ_add]
      refine congr (congrArg _ (pZ_congr _ fun j hj => ?_)) rfl
      rw [cq_full t fun s hs => by have := hmono s (by omega); omega]; omega
    rw [e2] at ih
    rw [e1, pZ, ← Nat.add_assoc, fct_succ, ← ih]
    have h := pZ_tel ((P : Int) + t + 1) (q t)
    rw [show (P : Int) - q t + (t + 1) = (P : Int) + t + 1 - q t by omega, show (((P + t : Nat) : Int) + 1) = (P : Int) + t + 1 by omega]
    generalize pZ (fun j => ((P : Int) + t + 1) - j) (q t) = X at *
    generalize pZ (fun j => ((P : Int) + t + 1) - 1 - j) (q t) = Y at *
    generalize pZ (fun i => (P : Int) - ((q t + i : Nat) : Int) + cq q (q t + i) t) d = Z
    generalize pZ (fun s => (P : Int) - q s + (s + 1)) t = U
    calc X * Z * (U * ((P : Int) + t + 1 - q t)) = (X * ((P : Int) + t + 1 - q t)) * (Z * U) := by ac_rfl
      _ = Y * Z * U * ((P : Int) + t + 1) := by rw [h]; ac_rfl

/-- The hook of a box, the shape having M rows (0 among them, perhaps). -/
def hk (P : Nat → Nat) (M i j : Nat) : Int := (P i : Int) - j + cq (fun s => P (i + 1 + s)) j (M - 1 - i)
/-- Its numbers, from the last row on, each with its place. -/
def xs (P : Nat → Nat) (M k : Nat) : Nat := P (M - 1 - k) + k
theorem hook_van {P : Nat → Nat} (M : Nat) (h : ∀ i, P (i + 1) ≤ P i) : pZ (fun i => pZ (hk P M i) (P i)) M * van (fun k => (xs P M k : Int)) M = pZ (fun k => fct (xs P M k)) M := by
  have hm : ∀ i d, P (i + d) ≤ P i := fun i d => by
    induction d with
    | zero => exact Nat.le_refl _
    | succ d ih => exact Nat.le_trans (h (i + d)) ih
  rw [pZ_rev (fun i => pZ (hk P M i) (P i)) M, van, ← pZ_mul]
  refine pZ_congr M fun k hk' => ?_
  have e := hook_row (P (M - 1 - k)) (fun s => P (M - 1 - k + 1 + s)) (fun s => by have := hm (M - 1 - k) (1 + s); rw [← Nat.add_assoc] at this; exact this) (fun s => h _) k
  rw [show fct (xs P M k) = fct (P (M - 1 - k) + k) from rfl, ← e]
  refine congr (congrArg _ (pZ_congr _ fun j _ => ?_)) ?_
  · unfold hk
    rw [show M - 1 - (M - 1 - k) = k by omega]
  · rw [pZ_rev (fun i => ((xs P M k : Nat) : Int) - (xs P M i : Nat)) k]
    refine pZ_congr k fun s hs => ?_
    unfold xs
    rw [show M - 1 - (k - 1 - s) = M - 1 - k + 1 + s by omega]
    omega
theorem xs_up {P : Nat → Nat} {M : Nat} (h : ∀ i, P (i + 1) ≤ P i) (k : Nat) (hk : k + 1 < M) : xs P M k < xs P M (k + 1) := by
  unfold xs
  have := h (M - 1 - (k + 1))
  rw [show M - 1 - (k + 1) + 1 = M - 1 - k by omega] at this
  omega
/-- What the boxes' places come to. -/
def ctn (P : Nat → Nat) (M : Nat) : Int := pZ (fun i => pZ (fun j => (M : Int) - i + j) (P i)) M
theorem ctn_fct (P : Nat → Nat) (M : Nat) : ctn P M * sfc M = pZ (fun k => fct (xs P M k)) M := by
  unfold ctn sfc
  rw [pZ_rev fct M, ← pZ_mul, pZ_rev (fun k => fct (xs P M k)) M]
  refine pZ_congr M fun i hi => ?_
  have e := fct_add (M - 1 - i) (P i)
  rw [show fct (xs P M (M - 1 - i)) = fct (M - 1 - i + P i) by unfold xs; rw [show M - 1 - (M - 1 - i) = i by omega, Nat.add_comm], ← e, Int.mul_comm]
  exact congrArg _ (pZ_congr _ fun j _ => by omega)
/-- STANLEY'S: the hooks' product times the number of tableaux is that of what the places come to. -/
theorem hook_content {P : Nat → Nat} (M : Nat) (h : ∀ i, P (i + 1) ≤ P i) : pZ (fun i => pZ (hk P M i) (P i)) M * cntG M (fun k => (xs P M k : Int)) = ctn P M := by
  have h1 := hook_van M h
  rw [van_cnt M _ (fun i hi => by have := xs_up h i hi; omega), ← ctn_fct] at h1
  refine Int.eq_of_mul_eq_mul_right (sfc_ne M) ?_
  rw [← h1]
  ac_rfl

/-- How many ways there are down to nothing, one less at a time. -/
def fsd : Nat → Nat → (Nat → Int) → Int
  | 0, _, _ => 1
  | n + 1, m, x => sZ (fun k => if 1 ≤ x k ∧ (k = 0 ∨ x (k - 1) < x k - 1) then fsd n m (upF x k (x k - 1)) else 0) m
theorem van_same {x : Nat → Int} {m i j : Nat} (hi : i < j) (hj : j < m) (h : x i = x j) : van x m = 0 := by
  unfold van
  obtain ⟨d, rfl⟩ : ∃ d, m = (j + 1) + d := ⟨m - (j + 1), by omega⟩
  rw [pZ_add, pZ]
  obtain ⟨e, he⟩ : ∃ e, j = (i + 1) + e := ⟨j - (i + 1), by omega⟩
  have : pZ (fun i => x j - x i) j = 0 := by
    conv => lhs; arg 2; rw [he]
    rw [pZ_add, pZ, h, Int.sub_self, Int.mul_zero, Int.zero_mul]
  rw [this, Int.mul_zero, Int.zero_mul]
def fcz (x : Int) : Int := fct x.toNat
theorem fcz_step {x : Int} (h : 1 ≤ x) : x * fcz (x - 1) = fcz x := by
  unfold fcz
  obtain ⟨k, rfl⟩ : ∃ k : Nat, x = k + 1 := ⟨(x - 1).toNat, by omega⟩
  rw [show ((k : Int) + 1 - 1).toNat = k by omega, show ((k : Int) + 1).toNat = k + 1 by omega, fct_succ, Int.mul_comm]
theorem pZ_up (f : Int → Int) (x : Nat → Int) (k : Nat) (z : Int) : ∀ m, k < m → f (x k) * pZ (fun i => f (upF x k z i)) m = f z * pZ (fun i => f (x i)) m
  | 0, h => by omega
  | m + 1, h => by
    rw [pZ, pZ]
    by_cases e : k = m
    · subst e
      rw [pZ_congr k (f := fun i => f (upF x k z i)) (g := fun i => f (x i)) (fun i hi => by unfold upF; rw [if_neg (by omega)])]
      unfold upF
      rw [if_pos rfl]; ac_rfl
    · have ih := pZ_up f x k z m (by omega)
      rw [show upF x k z m = x m by unfold upF; rw [if_neg (fun q => e q.symm)], ← Int.mul_assoc, ih, Int.mul_assoc]
theorem sZ_up (x : Nat → Int) (k : Nat) (z : Int) : ∀ m, k < m → sZ (upF x k z) m = sZ x m + z - x k
  | 0, h => by omega
  | m + 1, h => by
    rw [sZ, sZ]
    by_cases e : k = m
    · subst e
      rw [sZ_congr k (f := upF x k z) (g := x) (fun i hi => by unfold upF; rw [if_neg (by omega)])]
      unfold upF
      rw [if_pos rfl]; omega
    · rw [sZ_up x k z m (by omega), show upF x k z m = x m by unfold upF; rw [if_neg (fun q => e q.symm)]]; omega
theorem sZ_mono {f g : Nat → Int} : ∀ m, (∀ i, i < m → f i ≤ g i) → sZ f m ≤ sZ g m
  | 0, _ => Int.le_refl _
  | m + 1, h => by rw [sZ, sZ]; have := sZ_mono m fun i hi => h i (by omega); have := h m (by omega); omega
theorem sZ_tight {f g : Nat → Int} : ∀ m, (∀ i, i < m → f i ≤ g i) → sZ g m ≤ sZ f m → ∀ i, i < m → f i = g i
  | 0, _, _, i, hi => by omega
  | m + 1, h, hs, i, hi => by
    rw [sZ, sZ] at hs
    have h1 := sZ_mono m fun i hi => h i (by omega)
    have h2 := h m (by omega)
    by_cases e : i = m
    · subst e; omega
    · exact sZ_tight m (fun i hi => h i (by omega)) (by omega) i (by omega)
/-- FRAME, ROBINSON, THRALL, by differences. -/
theorem van_fsd (m : Nat) : ∀ (n : Nat) (x : Nat → Int), (∀ i, i < m → 0 ≤ x i) → (∀ i, i + 1 < m → x i < x (i + 1)) → sZ x m = n + sZ (fun c => (c : Int)) m → fct n * van x m = fsd n m x * pZ (fun k => fcz (x k)) m := by
  intro n
  induction n with
  | zero =>
    intro x h0 h1 hs
    have hge : ∀ i, i < m → (i : Int) ≤ x i := fun i => by
      induction i with
      | zero => intro hi; exact h0 0 hi
      | succ i ih => intro hi; have := ih (by omega); have := h1 i hi; omega
    have he := sZ_tight (f := fun c => (c : Int)) m hge (by rw [hs]; simp)
    rw [fsd, Int.one_mul, show fct 0 = 1 from rfl, Int.one_mul]
    refine pZ_congr m fun j hj => ?_
    rw [← he j hj]
    unfold fcz
    rw [show (j : Int).toNat = j by omega, ← fct_rev]
    exact pZ_congr j fun i hi => by rw [← he i (by omega)]
  | succ n ih =>
    intro x h0 h1 hs
    have h := van_less x m
    rw [hs, show ((n + 1 : Nat) : Int) + sZ (fun c => (c : Int)) m - sZ (fun c => (c : Int)) m = (n : Int) + 1 by omega] at h
    rw [fct_succ, Int.mul_assoc, ← h, ← sZ_mul, fsd, Int.mul_comm (sZ _ m), ← sZ_mul]
    refine sZ_congr m fun k hk => ?_
    by_cases hv : 1 ≤ x k ∧ (k = 0 ∨ x (k - 1) < x k - 1)
    · rw [if_pos hv]
      have e := ih (upF x k (x k - 1)) (fun i hi => by unfold upF; split; omega; exact h0 i hi) (fun i hi => by
        have a1 := h1 i hi
        unfold upF
        by_cases q1 : i = k
        · rw [if_pos q1, if_neg (by omega)]; rw [← q1]; omega
        · rw [if_neg q1]
          by_cases q2 : i + 1 = k
          · rw [if_pos q2]
            rcases hv.2 with q | q
            · omega
            · rw [← q2] at q ⊢; exact q
          · rw [if_neg q2]; exact a1) (by rw [sZ_up x k _ m hk, hs]; omega)
      have e2 := pZ_up fcz x k (x k - 1) m hk
      have e3 := fcz_step hv.1
      have e4 : x k * pZ (fun i => fcz (upF x k (x k - 1) i)) m = pZ (fun i => fcz (x i)) m := by
        have hne : fcz (x k - 1) ≠ 0 := fct_ne _
        refine Int.eq_of_mul_eq_mul_left hne ?_
        rw [← e2, ← e3]; ac_rfl
      calc fct n * (x k * van (upF x k (x k - 1)) m) = x k * (fct n * van (upF x k (x k - 1)) m) := by ac_rfl
        _ = x k * pZ (fun i => fcz (upF x k (x k - 1) i)) m * fsd n m (upF x k (x k - 1)) := by rw [e]; ac_rfl
        _ = pZ (fun k => fcz (x k)) m * fsd n m (upF x k (x k - 1)) := by rw [e4]
    · rw [if_neg hv, Int.mul_zero]
      have hz : x k * van (upF x k (x k - 1)) m = 0 := by
        by_cases q : 1 ≤ x k
        · have q2 : ¬ (k = 0 ∨ x (k - 1) < x k - 1) := fun z => hv ⟨q, z⟩
          have q3 : k ≠ 0 := fun z => q2 (Or.inl z)
          have a1 := h1 (k - 1) (by omega)
          rw [show k - 1 + 1 = k by omega] at a1
          have q4 : x (k - 1) = x k - 1 := by
            have : ¬ x (k - 1) < x k - 1 := fun z => q2 (Or.inr z)
            omega
          rw [van_same (i := k - 1) (j := k) (by omega) hk (by unfold upF; rw [if_neg (by omega), if_pos rfl]; exact q4), Int.mul_zero]
        · have := h0 k hk
          rw [show x k = 0 by omega, Int.zero_mul]
      rw [hz, Int.mul_zero]
/-- .. by hooks. -/
theorem hook_fsd {P : Nat → Nat} (M n : Nat) (h : ∀ i, P (i + 1) ≤ P i) (hs : sZ (fun i => (P i : Int)) M = n) : pZ (fun i => pZ (hk P M i) (P i)) M * fsd n M (fun k => (xs P M k : Int)) = fct n := by
  have h1 := hook_van M h
  have h2 := van_fsd M n (fun k => (xs P M k : Int)) (fun i _ => by omega) (fun i hi => by have := xs_up h i hi; omega) (by
    have e : ∀ m, m ≤ M → sZ (fun k => (xs P M k : Int)) m = sZ (fun k => (P (M - 1 - k) : Int)) m + sZ (fun c => (c : Int)) m := fun m _ => by
      rw [← sZ_add]; exact sZ_congr m fun k _ => by unfold xs; omega
    have e2 : ∀ m, sZ (fun i => (P i : Int)) m = sZ (fun k => (P (m - 1 - k) : Int)) m := fun m => by
      induction m with
      | zero => rfl
      | succ m ih =>
        rw [sZ_shift (fun k => (P (m + 1 - 1 - k) : Int)) m, sZ, ih, Int.add_comm]
        refine congr (congrArg _ (by rw [show m + 1 - 1 - 0 = m by omega])) (sZ_congr m fun i hi => ?_)
        rw [show m + 1 - 1 - (i + 1) = m - 1 - i by omega]
    rw [e M (Nat.le_refl _), ← e2, hs])
  have hv : van (fun k => (xs P M k : Int)) M ≠ 0 := pZ_ne M fun j hj => pZ_ne j fun i hi => by
    have : ∀ d, i + d + 1 < M → xs P M i < xs P M (i + d + 1) := fun d => by
      induction d with
      | zero => intro hd; exact xs_up h i hd
      | succ d ih => intro hd; have := ih (by omega); have := xs_up h (i + d + 1) hd; rw [show i + (d + 1) + 1 = i + d + 1 + 1 by omega]; omega
    have := this (j - i - 1) (by omega)
    rw [show i + (j - i - 1) + 1 = j by omega] at this
    show ((xs P M j : Nat) : Int) - (xs P M i : Nat) ≠ 0
    omega
  have e3 : pZ (fun k => fcz (xs P M k : Int)) M = pZ (fun k => fct (xs P M k)) M := pZ_congr M fun k _ => by unfold fcz; rw [show ((xs P M k : Nat) : Int).toNat = xs P M k by omega]
  rw [e3, ← h1] at h2
  refine Int.eq_of_mul_eq_mul_right hv ?_
  rw [h2]; ac_rfl

end Go.Proofs.Ytheebpjkjclgbaa

namespace Go.Proofs.Ytheebpjkjclgbaa

/-- One box changed. -/
def upd2 (g : Nat → Nat → Nat) (i j x : Nat) : Nat → Nat → Nat := fun a b => if a = i ∧ b = j then x else g a b
def inc1 (u : Nat → Nat) (x : Nat) : Nat → Nat := fun y => if y = x then u y + 1 else u y
theorem upd2_same (g : Nat → Nat → Nat) (i j x : Nat) : upd2 g i j x i j = x := by simp [upd2]
theorem upd2_other (g : Nat → Nat → Nat) {i j x a b : Nat} (h : ¬ (a = i ∧ b = j)) : upd2 g i j x a b = g a b := by simp [upd2, h]

/-- The rows c, filled by g. -/
def tabN (c : Nat → Nat) (m : Nat) (g : Nat → Nat → Nat) : List (List Nat) := (List.range m).map fun i => (List.range (c i)).map (g i)
theorem tabN_at {c : Nat → Nat} {m : Nat} {g : Nat → Nat → Nat} {i j : Nat} (hi : i < m) (hj : j < c i) : ((tabN c m g).getD i []).getD j 0 = g i j := by
  simp [tabN, List.getD, hi, hj]
theorem tabN_congr {c : Nat → Nat} {m : Nat} {g g' : Nat → Nat → Nat} (h : ∀ i j, i < m → j < c i → g i j = g' i j) : tabN c m g = tabN c m g' := by
  unfold tabN
  refine List.map_congr_left fun i hi => List.map_congr_left fun j hj => h i j (List.mem_range.1 hi) (List.mem_range.1 hj)

def loN (g : Nat → Nat → Nat) (i j : Nat) : Nat := if i = 0 then 1 else g (i - 1) j + 1
def hiN (n : Nat) (c : Nat → Nat) (g : Nat → Nat → Nat) (i j : Nat) : Nat := if j + 1 = c i then n else g i (j + 1)
def mayN (b u : Nat → Nat) (x : Nat) : Bool := decide (u x ≠ b x) && (decide (x = 1) || decide (u x < u (x - 1)))

/-- What the search hands on. -/
def srch (n : Nat) (b c : Nat → Nat) (m : Nat) : List (Nat × Nat) → (Nat → Nat → Nat) → (Nat → Nat) → List (List (List Nat))
  | [], g, _ => [tabN c m g]
  | (i, j) :: bs, g, u => (List.range' (loN g i j) (hiN n c g i j + 1 - loN g i j)).flatMap fun x => if mayN b u x then srch n b c m bs (upd2 g i j x) (inc1 u x) else []

/-- The boxes come in such an order that what is above and what is right of one comes ahead of it. -/
def OrdB : List (Nat × Nat) → Prop
  | [] => True
  | (i, j) :: bs => (i, j) ∉ bs ∧ (0 < i → (i - 1, j) ∉ bs) ∧ (i, j + 1) ∉ bs ∧ OrdB bs

def Loc (n : Nat) (b c : Nat → Nat) : List (Nat × Nat) → (Nat → Nat → Nat) → (Nat → Nat) → Prop
  | [], _, _ => True
  | (i, j) :: bs, g, u => loN g i j ≤ g i j ∧ g i j ≤ hiN n c g i j ∧ mayN b u (g i j) = true ∧ Loc n b c bs g (inc1 u (g i j))

theorem lo_congr {g g' : Nat → Nat → Nat} {i j : Nat} (h : 0 < i → g (i - 1) j = g' (i - 1) j) : loN g i j = loN g' i j := by
  unfold loN
  split
  · rfl
  · rw [h (by omega)]
theorem hi_congr {n : Nat} {c : Nat → Nat} {g g' : Nat → Nat → Nat} {i j : Nat} (h : g i (j + 1) = g' i (j + 1)) : hiN n c g i j = hiN n c g' i j := by
  unfold hiN; rw [h]

/-- What lies in the boxes that are still to come makes no difference. -/
theorem srch_congr (n : Nat) (b c : Nat → Nat) (m : Nat) : ∀ (bs : List (Nat × Nat)) (g g' : Nat → Nat → Nat) (u : Nat → Nat), OrdB bs → (∀ i j, (i, j) ∉ bs → g i j = g' i j) → srch n b c m bs g u = srch n b c m bs g' u := by
  intro bs
  induction bs with
  | nil => intro g g' u _ h; simp only [srch]; rw [show g = g' from funext fun i => funext fun j => h i j (by simp)]
  | cons x bs ih =>
    obtain ⟨i, j⟩ := x
    intro g g' u ho h
    obtain ⟨h1, h2, h3, h4⟩ := ho
    have e1 : loN g i j = loN g' i j := lo_congr (fun hi => h _ _ (by simp only [List.mem_cons, not_or]; exact ⟨fun e => by have := (Prod.mk.inj e).1; omega, h2 hi⟩))
    have e2 : hiN n c g i j = hiN n c g' i j := hi_congr (h _ _ (by simp only [List.mem_cons, not_or]; exact ⟨fun e => by have := (Prod.mk.inj e).2; omega, h3⟩))
    simp only [srch]
    rw [e1, e2]
    congr 1
    funext x
    split
    · refine ih _ _ _ h4 fun a b hab => ?_
      by_cases e : a = i ∧ b = j
      · obtain ⟨rfl, rfl⟩ := e; rw [upd2_same, upd2_same]
      · rw [upd2_other _ e, upd2_other _ e]
        exact h _ _ (by simp only [List.mem_cons, not_or]; exact ⟨fun e2 => e (Prod.mk.inj e2), hab⟩)
    · rfl

theorem mem_srch (n : Nat) (b c : Nat → Nat) (m : Nat) : ∀ (bs : List (Nat × Nat)) (g : Nat → Nat → Nat) (u : Nat → Nat) (t : List (List Nat)), OrdB bs →
    (t ∈ srch n b c m bs g u ↔ ∃ g', t = tabN c m g' ∧ (∀ i j, (i, j) ∉ bs → g' i j = g i j) ∧ Loc n b c bs g' u) := by
  intro bs
  induction bs with
  | nil =>
    intro g u t _
    simp only [srch, List.mem_singleton, Loc, and_true]
    constructor
    · rintro rfl; exact ⟨g, rfl, fun _ _ _ => rfl⟩
    · rintro ⟨g', rfl, h⟩
      rw [show g' = g from funext fun i => funext fun j => h i j (by simp)]
  | cons x bs ih =>
    obtain ⟨i, j⟩ := x
    intro g u t ho
    obtain ⟨h1, h2, h3, h4⟩ := ho
    simp only [srch, List.mem_flatMap, Loc]
    have key : ∀ g' : Nat → Nat → Nat, (∀ a b, (a, b) ∉ (i, j) :: bs → g' a b = g a b) → loN g' i j = loN g i j ∧ hiN n c g' i j = hiN n c g i j := fun g' h =>
      ⟨lo_congr (fun hi => h _ _ (by simp only [List.mem_cons, not_or]; exact ⟨fun e => by have := (Prod.mk.inj e).1; omega, h2 hi⟩)),
       hi_congr (h _ _ (by simp only [List.mem_cons, not_or]; exact ⟨fun e => by have := (Prod.mk.inj e).2; omega, h3⟩))⟩
    constructor
    · rintro ⟨x, hx, ht⟩
      by_cases hm : mayN b u x = true
      · rw [if_pos hm] at ht
        obtain ⟨g', rfl, hg, hl⟩ := (ih _ _ _ h4).1 ht
        have e : g' i j = x := by rw [hg i j h1, upd2_same]
        have hg2 : ∀ a b, (a, b) ∉ (i, j) :: bs → g' a b = g a b := fun a b hab => by
          simp only [List.mem_cons, not_or] at hab
          rw [hg a b hab.2, upd2_other _ (fun e2 => hab.1 (by rw [e2.1, e2.2]))]
        obtain ⟨k1, k2⟩ := key g' hg2
        have hr := List.mem_range'_1.1 hx
        exact ⟨g', rfl, hg2, by rw [k1, e]; exact hr.1, by rw [k2, e]; omega, by rw [e]; exact hm, by rw [e]; exact hl⟩
      · rw [if_neg hm] at ht; cases ht
    · rintro ⟨g', rfl, hg, l1, l2, l3, l4⟩
      obtain ⟨k1, k2⟩ := key g' hg
      refine ⟨g' i j, List.mem_range'_1.2 ⟨by rw [← k1]; exact l1, by rw [← k1, ← k2]; omega⟩, ?_⟩
      rw [if_pos l3]
      refine (ih _ _ _ h4).2 ⟨g', rfl, fun a b hab => ?_, l4⟩
      by_cases e : a = i ∧ b = j
      · obtain ⟨rfl, rfl⟩ := e; rw [upd2_same]
      · rw [upd2_other _ e]
        exact hg a b (by simp only [List.mem_cons, not_or]; exact ⟨fun e2 => e (Prod.mk.inj e2), hab⟩)

theorem nodup_flat {α β : Type} (f : α → List β) : ∀ l : List α, l.Nodup → (∀ x ∈ l, (f x).Nodup) → (∀ x ∈ l, ∀ y ∈ l, x ≠ y → ∀ z ∈ f x, z ∉ f y) → (l.flatMap f).Nodup := by
  intro l
  induction l with
  | nil => intro _ _ _; simp
  | cons a l ih =>
    intro h1 h2 h3
    rw [List.flatMap_cons, List.nodup_append]
    obtain ⟨ha, hl⟩ := List.nodup_cons.1 h1
    refine ⟨h2 a (by simp), ih hl (fun x hx => h2 x (by simp [hx])) (fun x hx y hy => h3 x (by simp [hx]) y (by simp [hy])), fun z hz z' hz' e => ?_⟩
    subst e
    obtain ⟨y, hy, hzy⟩ := List.mem_flatMap.1 hz'
    exact h3 a (by simp) y (by simp [hy]) (fun e => ha (by rw [e]; exact hy)) z hz hzy

theorem srch_nodup (n : Nat) (b c : Nat → Nat) (m : Nat) : ∀ (bs : List (Nat × Nat)) (g : Nat → Nat → Nat) (u : Nat → Nat), OrdB bs → (∀ p ∈ bs, p.1 < m ∧ p.2 < c p.1) → (srch n b c m bs g u).Nodup := by
  intro bs
  induction bs with
  | nil => intro g u _ _; simp [srch]
  | cons x bs ih =>
    obtain ⟨i, j⟩ := x
    intro g u ho hin
    obtain ⟨h1, h2, h3, h4⟩ := ho
    have hij := hin (i, j) (by simp)
    simp only [srch]
    have hv : ∀ x t, t ∈ (if mayN b u x then srch n b c m bs (upd2 g i j x) (inc1 u x) else []) → (t.getD i []).getD j 0 = x := fun x t ht => by
      split at ht
      · obtain ⟨g', rfl, hg, _⟩ := (mem_srch n b c m bs _ _ _ h4).1 ht
        rw [tabN_at hij.1 hij.2, hg i j h1, upd2_same]
      · cases ht
    refine nodup_flat _ _ (List.nodup_range' ..) (fun x _ => ?_) (fun x _ y _ hxy z hz hz' => hxy ((hv x z hz).symm.trans (hv y z hz')))
    split
    · exact ih _ _ h4 (fun p hp => hin p (by simp [hp]))
    · simp

end Go.Proofs.Ytheebpjkjclgbaa

namespace Go.Proofs.Ytheebpjkjclgbaa

/-- How often u falls behind place m, k places on. -/
def cntD (u : Nat → Nat) : Nat → Nat → Nat
  | _, 0 => 0
  | m, k + 1 => (if u (m + 1) < u m then 1 else 0) + cntD u (m + 1) k
def sumU (u : Nat → Nat) : Nat → Nat → Nat
  | m, 0 => u m
  | m, k + 1 => u m + sumU u (m + 1) k
theorem cntD_le (u : Nat → Nat) : ∀ k m, (∀ x, m ≤ x → x < m + k → u (x + 1) ≤ u x) → cntD u m k ≤ u m ∧ cntD u m k * (cntD u m k + 1) ≤ 2 * sumU u m k := by
  intro k
  induction k with
  | zero => intro m _; simp [cntD]
  | succ k ih =>
    intro m h
    obtain ⟨h1, h2⟩ := ih (m + 1) (fun x hx hx2 => h x (by omega) (by omega))
    have h3 := h m (Nat.le_refl _) (by omega)
    simp only [cntD, sumU]
    generalize cntD u (m + 1) k = r at *
    by_cases e : u (m + 1) < u m
    · rw [if_pos e]
      refine ⟨by omega, ?_⟩
      have e1 : (1 + r) * (1 + r + 1) = r * (r + 1) + 2 * (r + 1) := by
        rw [Nat.add_mul, Nat.one_mul, Nat.mul_add r (1 + r) 1, Nat.add_comm 1 r]; omega
      omega
    · rw [if_neg e, Nat.zero_add]
      exact ⟨by omega, by omega⟩
theorem six_of {r S : Nat} (h : r * (r + 1) ≤ 2 * S) (hS : S ≤ 15) : r ≤ 5 := by
  rcases Nat.lt_or_ge 5 r with h1 | h1
  · have : 6 * 7 ≤ r * (r + 1) := Nat.mul_le_mul h1 (by omega)
    omega
  · exact h1

theorem flat_len {α β : Type} (p : α → Bool) (f : α → List β) (M : Nat) : ∀ l : List α, (∀ x ∈ l, p x = true → (f x).length ≤ M) → (l.flatMap fun x => if p x then f x else []).length ≤ l.countP p * M := by
  intro l
  induction l with
  | nil => intro _; simp
  | cons a l ih =>
    intro h
    have h1 := ih (fun x hx => h x (by simp [hx]))
    rw [List.flatMap_cons, List.length_append, List.countP_cons]
    by_cases e : p a = true
    · have := h a (by simp) e
      simp only [e, if_true]
      rw [Nat.add_mul, Nat.one_mul]; omega
    · simp only [e]
      simpa using h1

theorem may_cnt (b u : Nat → Nat) : ∀ k m, 1 ≤ m → (List.range' (m + 1) k).countP (mayN b u) ≤ cntD u m k := by
  intro k
  induction k with
  | zero => intro m _; simp [cntD]
  | succ k ih =>
    intro m hm
    rw [List.range'_succ, List.countP_cons]
    have := ih (m + 1) (by omega)
    simp only [cntD]
    by_cases e : u (m + 1) < u m
    · rw [if_pos e]
      split <;> omega
    · rw [if_neg e]
      have : mayN b u (m + 1) = false := by
        unfold mayN
        have e2 : decide (m + 1 = 1) = false := decide_eq_false (by omega)
        have e3 : decide (u (m + 1) < u (m + 1 - 1)) = false := decide_eq_false (by simpa using e)
        rw [e2, e3]; simp
      rw [this]; simp; omega
theorem range_sub {lo len n : Nat} (h1 : 1 ≤ lo) (h2 : lo + len ≤ n + 1) : (List.range' lo len).Sublist (List.range' 1 n) := by
  have e : List.range' 1 n = List.range' 1 (lo - 1) ++ (List.range' lo len ++ List.range' (lo + len) (n + 1 - lo - len)) := by
    have a1 : List.range' lo len ++ List.range' (lo + len) (n + 1 - lo - len) = List.range' lo (len + (n + 1 - lo - len)) := List.range'_append_1
    rw [a1]
    have a2 : List.range' 1 (lo - 1) ++ List.range' (1 + (lo - 1)) (len + (n + 1 - lo - len)) = List.range' 1 (lo - 1 + (len + (n + 1 - lo - len))) := List.range'_append_1
    rw [show 1 + (lo - 1) = lo by omega] at a2
    rw [a2]
    congr 1; omega
  rw [e]
  exact (List.sublist_append_left _ _).trans (List.sublist_append_right _ _)
theorem may_six {n lo hi : Nat} {b u : Nat → Nat} (h1 : 1 ≤ lo) (h2 : hi ≤ n) (hd : ∀ x, 1 ≤ x → x < n → u (x + 1) ≤ u x) (hs : sumU u 1 (n - 1) ≤ 15) : (List.range' lo (hi + 1 - lo)).countP (mayN b u) ≤ 6 := by
  rcases Nat.lt_or_ge hi lo with h | h
  · rw [show hi + 1 - lo = 0 by omega]; simp
  · have := List.Sublist.countP_le (p := mayN b u) (range_sub (n := n) h1 (show lo + (hi + 1 - lo) ≤ n + 1 by omega))
    obtain ⟨k, rfl⟩ : ∃ k, n = k + 1 := ⟨n - 1, by omega⟩
    rw [List.range'_succ, List.countP_cons] at this
    have m1 := may_cnt b u k 1 (Nat.le_refl _)
    obtain ⟨_, c2⟩ := cntD_le u k 1 (fun x hx hx2 => hd x hx (by omega))
    have := six_of c2 (by simpa using hs)
    split at * <;> omega

theorem sumU_inc (u : Nat → Nat) (x : Nat) : ∀ k m, m ≤ x → x ≤ m + k → sumU (inc1 u x) m k = sumU u m k + 1 := by
  intro k
  induction k with
  | zero => intro m h1 h2; obtain rfl : m = x := by omega
            simp [sumU, inc1]
  | succ k ih =>
    intro m h1 h2
    simp only [sumU]
    by_cases e : m = x
    · subst e
      have : ∀ k q, m < q → sumU (inc1 u m) q k = sumU u q k := by
        intro k
        induction k with
        | zero => intro q hq; simp only [sumU, inc1]; rw [if_neg (by omega)]
        | succ k ih2 => intro q hq; simp only [sumU]; rw [ih2 _ (by omega)]; simp only [inc1]; rw [if_neg (by omega)]
      rw [this k (m + 1) (by omega)]
      simp only [inc1, if_true]; omega
    · rw [ih (m + 1) (by omega) (by omega)]
      simp only [inc1]
      rw [if_neg e]; omega
theorem inc_dec {n x : Nat} {b u : Nat → Nat} (hm : mayN b u x = true) (hd : ∀ y, 1 ≤ y → y < n → u (y + 1) ≤ u y) : ∀ y, 1 ≤ y → y < n → inc1 u x (y + 1) ≤ inc1 u x y := fun y h1 h2 => by
  have := hd y h1 h2
  unfold inc1
  by_cases e : y + 1 = x
  · rw [if_pos e, if_neg (by omega)]
    unfold mayN at hm
    simp only [Bool.and_eq_true, Bool.or_eq_true, decide_eq_true_eq] at hm
    rcases hm.2 with h | h
    · omega
    · rw [e]; rw [show x - 1 = y by omega] at h; omega
  · rw [if_neg e]
    split <;> omega

theorem srch_len (n : Nat) (b c : Nat → Nat) (m : Nat) : ∀ (bs : List (Nat × Nat)) (g : Nat → Nat → Nat) (u : Nat → Nat), (∀ i j, g i j ≤ n) → (∀ x, 1 ≤ x → x < n → u (x + 1) ≤ u x) → (0 < n → sumU u 1 (n - 1) + bs.length ≤ 16) → (srch n b c m bs g u).length ≤ 6 ^ bs.length := by
  intro bs
  induction bs with
  | nil => intro g u _ _ _; simp [srch]
  | cons x bs ih =>
    obtain ⟨i, j⟩ := x
    intro g u hg hd hs
    simp only [srch]
    have hlo : 1 ≤ loN g i j := by unfold loN; split <;> omega
    have hhi : hiN n c g i j ≤ n := by
      unfold hiN
      split
      · exact Nat.le_refl _
      · exact hg _ _
    rcases Nat.eq_zero_or_pos n with h0 | h0
    · rw [show hiN n c g i j + 1 - loN g i j = 0 by omega]; simp
    · have hs0 := hs h0
      simp only [List.length_cons] at hs0
      have k1 := may_six (b := b) hlo hhi hd (by omega)
      refine Nat.le_trans (flat_len (mayN b u) _ (6 ^ bs.length) _ (fun x hx hm => ?_)) ?_
      · have hr := List.mem_range'_1.1 hx
        refine ih _ _ (fun a d => ?_) (inc_dec hm hd) (fun _ => ?_)
        · unfold upd2; split
          · omega
          · exact hg a d
        · rw [sumU_inc u x (n - 1) 1 (by omega) (by omega)]; omega
      · rw [List.length_cons, Nat.pow_succ, Nat.mul_comm]
        exact Nat.mul_le_mul_left _ k1

/-- Strips: what may come in row i and the rows behind it. -/
def hiG (p c : Nat → Nat) (i : Nat) : Nat := if i = 0 then c 0 else min (p (i - 1)) (c i)
def grN (p c : Nat → Nat) : Nat → Nat → Nat → List (List Nat)
  | 0, _, left => if left = 0 then [[]] else []
  | m + 1, i, left => (List.range (min (hiG p c i + 1 - p i) (left + 1))).flatMap fun d => (grN p c m (i + 1) (left - d)).map fun q => (p i + d) :: q
def avG (p c : Nat → Nat) : Nat → Nat → Nat
  | 0, _ => 0
  | m + 1, i => (if p i < hiG p c i then 1 else 0) + avG p c m (i + 1)
theorem avG_le (p c : Nat → Nat) : ∀ m i, avG p c m (i + 1) ≤ cntD p i m := by
  intro m
  induction m with
  | zero => intro i; simp [avG]
  | succ m ih =>
    intro i
    have := ih (i + 1)
    simp only [avG, cntD]
    by_cases e : p (i + 1) < hiG p c (i + 1)
    · have : p (i + 1) < p i := by
        unfold hiG at e
        rw [if_neg (by omega)] at e
        simp only [Nat.add_sub_cancel] at e
        omega
      rw [if_pos e, if_pos this]; omega
    · rw [if_neg e]; omega
theorem geo (B : Nat) : ∀ L, ((List.range (L + 1)).map fun d => B ^ (L - d)).sum ≤ (B + 1) ^ L := by
  intro L
  induction L with
  | zero => simp
  | succ L ih =>
    rw [List.range_succ, List.map_append, List.sum_append]
    have e : (List.range (L + 1)).map (fun d => B ^ (L + 1 - d)) = (List.range (L + 1)).map (fun d => B * B ^ (L - d)) :=
      List.map_congr_left fun d hd => by
        have := List.mem_range.1 hd
        rw [show L + 1 - d = (L - d) + 1 by omega, Nat.pow_succ, Nat.mul_comm]
    have e2 : ∀ l : List Nat, (l.map fun d => B * B ^ (L - d)).sum = B * (l.map fun d => B ^ (L - d)).sum := by
      intro l
      induction l with
      | nil => simp
      | cons a l ih => simp only [List.map_cons, List.sum_cons]; rw [ih, Nat.mul_add]
    rw [e, e2]
    have h1 : 1 ≤ (B + 1) ^ L := Nat.one_le_pow _ _ (by omega)
    have h2 := Nat.mul_le_mul_left B ih
    have h3 : (B + 1) ^ (L + 1) = B * (B + 1) ^ L + (B + 1) ^ L := by
      rw [Nat.pow_succ, Nat.mul_add, Nat.mul_comm, Nat.mul_one]
    simp
    omega
theorem geo_le (B L k : Nat) (h : k ≤ L + 1) : ((List.range k).map fun d => B ^ (L - d)).sum ≤ (B + 1) ^ L := by
  refine Nat.le_trans ?_ (geo B L)
  obtain ⟨j, hj⟩ : ∃ j, L + 1 = k + j := ⟨L + 1 - k, by omega⟩
  rw [hj, List.range_add, List.map_append, List.sum_append]
  omega
theorem sum_le {f g : Nat → Nat} : ∀ l : List Nat, (∀ d ∈ l, f d ≤ g d) → (l.map f).sum ≤ (l.map g).sum := by
  intro l
  induction l with
  | nil => intro _; simp
  | cons a l ih =>
    intro h
    simp only [List.map_cons, List.sum_cons]
    have h1 := h a (by simp)
    have h2 := ih (fun d hd => h d (by simp [hd]))
    omega
theorem gr_len0 (p c : Nat → Nat) : ∀ m i left, (grN p c m i left).length ≤ (avG p c m i) ^ left := by
  intro m
  induction m with
  | zero =>
    intro i left
    simp only [grN, avG]
    split
    · rename_i h; subst h; simp
    · simp
  | succ m ih =>
    intro i left
    simp only [grN, avG, List.length_flatMap, List.length_map]
    refine Nat.le_trans (sum_le (g := fun d => (avG p c m (i + 1)) ^ (left - d)) _ (fun d _ => ih (i + 1) (left - d))) ?_
    by_cases e : p i < hiG p c i
    · rw [if_pos e, Nat.add_comm 1]
      exact geo_le _ _ _ (by omega)
    · rw [if_neg e, Nat.zero_add]
      have h1 : min (hiG p c i + 1 - p i) (left + 1) ≤ 1 := by omega
      rcases Nat.eq_zero_or_pos (min (hiG p c i + 1 - p i) (left + 1)) with h0 | h0
      · rw [h0]; simp
      · rw [show min (hiG p c i + 1 - p i) (left + 1) = 1 by omega]; simp
theorem gr_len {p c : Nat → Nat} {m k : Nat} (hm : 0 < m) (hd : ∀ x, x + 1 < m → p (x + 1) ≤ p x) (hs : sumU p 0 (m - 1) + k ≤ 16) : (grN p c m 0 k).length ≤ 6 ^ k := by
  rcases Nat.eq_zero_or_pos k with h0 | h0
  · subst h0; have := gr_len0 p c m 0 0; simpa using this
  · refine Nat.le_trans (gr_len0 p c m 0 k) (Nat.pow_le_pow_left ?_ k)
    obtain ⟨q, rfl⟩ : ∃ q, m = q + 1 := ⟨m - 1, by omega⟩
    have h1 := avG_le p c q 0
    obtain ⟨_, h2⟩ := cntD_le p q 0 (fun x _ hx => hd x (by omega))
    have := six_of h2 (by simp at hs; omega)
    simp only [avG]
    split <;> omega

end Go.Proofs.Ytheebpjkjclgbaa

namespace Go.Proofs.Ytheebpjkjclgbaa

def nrow (t : List (List Nat)) (r : Nat) : List Nat := t.getD r []
def at2 (t : List (List Nat)) (r j : Nat) : Nat := (nrow t r).getD j 0
def len2 (t : List (List Nat)) (r : Nat) : Nat := (nrow t r).length
/-- The letters, nrow by nrow, each from right to left. -/
def rwd (t : List (List Nat)) : List Nat := t.flatMap List.reverse
/-- Never more x than x - 1, k more of x - 1 so far. -/
def lat (x : Nat) : Nat → List Nat → Bool
  | _, [] => true
  | k, y :: w => if y + 1 = x then lat x (k + 1) w else if y = x then (decide (k ≠ 0) && lat x (k - 1) w) else lat x k w

theorem lat_filter (x : Nat) (p : Nat → Bool) (hp : p x = true) (hp2 : ∀ y, y + 1 = x → p y = true) : ∀ (w : List Nat) (k : Nat), lat x k (w.filter p) = lat x k w := by
  intro w
  induction w with
  | nil => intro k; rfl
  | cons y w ih =>
    intro k
    by_cases h1 : y + 1 = x
    · rw [List.filter_cons_of_pos (hp2 y h1)]
      simp only [lat, if_pos h1]; exact ih _
    · by_cases h2 : y = x
      · subst h2
        rw [List.filter_cons_of_pos hp]
        simp only [lat, if_neg h1, if_true]; rw [ih]
      · by_cases h3 : p y = true
        · rw [List.filter_cons_of_pos h3]
          simp only [lat, if_neg h1, if_neg h2]; exact ih _
        · rw [List.filter_cons_of_neg h3]
          simp only [lat, if_neg h1, if_neg h2]; exact ih _
theorem count_filter_pos {p : Nat → Bool} {y : Nat} (h : p y = true) (w : List Nat) : (w.filter p).count y = w.count y := List.count_filter h

theorem tab_ext : ∀ {t t' : List (List Nat)}, (∀ r, r < t.length → 0 < len2 t r) → (∀ r, r < t'.length → 0 < len2 t' r) → (∀ r, nrow t r = nrow t' r) → t = t' := by
  intro t t' h1 h2 h
  have hl : t.length = t'.length := by
    rcases Nat.lt_trichotomy t.length t'.length with e | e | e
    · have := h2 t.length e
      unfold len2 at this
      rw [← h] at this
      unfold nrow at this
      rw [List.getD, List.getElem?_eq_none (Nat.le_refl _)] at this
      simp at this
    · exact e
    · have := h1 t'.length e
      unfold len2 at this
      rw [h] at this
      unfold nrow at this
      rw [List.getD, List.getElem?_eq_none (Nat.le_refl _)] at this
      simp at this
  refine List.ext_getElem hl fun r h3 h4 => ?_
  have := h r
  unfold nrow at this
  simpa [List.getD, h3, h4] using this

theorem rwd_rows (t : List (List Nat)) {K : Nat} (h : t.length ≤ K) : rwd t = (List.range K).flatMap fun r => (nrow t r).reverse := by
  induction t generalizing K with
  | nil =>
    unfold rwd nrow
    simp
  | cons a t ih =>
    obtain ⟨K, rfl⟩ : ∃ K', K = K' + 1 := ⟨K - 1, by simp at h; omega⟩
    rw [List.range_succ_eq_map, List.flatMap_cons, List.flatMap_map]
    have := ih (K := K) (by simpa using h)
    unfold rwd nrow at *
    rw [List.flatMap_cons, this]
    simp
theorem row_map {f : Nat → List Nat} {K r : Nat} : nrow ((List.range K).map f) r = if r < K then f r else [] := by
  unfold nrow
  by_cases h : r < K
  · simp [List.getD, h]
  · rw [if_neg h, List.getD, List.getElem?_eq_none (by simp; omega)]; rfl

/-- The rows of t, made as long as q says, by x. -/
def growT (t : List (List Nat)) (x : Nat) (q : List Nat) : List (List Nat) := (List.range q.length).map fun r => nrow t r ++ List.replicate (q.getD r 0 - len2 t r) x
theorem grow_row {t : List (List Nat)} {x : Nat} {q : List Nat} (h : ∀ r, len2 t r ≤ q.getD r 0) (r : Nat) : nrow (growT t x q) r = nrow t r ++ List.replicate (q.getD r 0 - len2 t r) x := by
  unfold growT
  rw [row_map]
  by_cases e : r < q.length
  · rw [if_pos e]
  · rw [if_neg e]
    have h0 : q.getD r 0 = 0 := by rw [List.getD, List.getElem?_eq_none (by omega)]; rfl
    have := h r
    rw [h0] at this ⊢
    have h1 : nrow t r = [] := List.eq_nil_of_length_eq_zero (by unfold len2 at this; omega)
    rw [h1]; simp
theorem grow_len {t : List (List Nat)} {x : Nat} {q : List Nat} (h : ∀ r, len2 t r ≤ q.getD r 0) (r : Nat) : len2 (growT t x q) r = q.getD r 0 := by
  unfold len2
  rw [grow_row h]
  have := h r
  unfold len2 at *
  rw [List.length_append, List.length_replicate]; omega
theorem grow_at {t : List (List Nat)} {x : Nat} {q : List Nat} (h : ∀ r, len2 t r ≤ q.getD r 0) (r j : Nat) (hj : j < q.getD r 0) : at2 (growT t x q) r j = if j < len2 t r then at2 t r j else x := by
  unfold at2
  rw [grow_row h]
  generalize q.getD r 0 = Q at *
  by_cases e : j < len2 t r
  · rw [if_pos e]
    simp only [List.getD]
    rw [List.getElem?_append_left (by exact e)]
  · rw [if_neg e]
    simp only [List.getD]
    rw [List.getElem?_append_right (by unfold len2 at e; omega), List.getElem?_replicate]
    unfold len2 at *
    rw [if_pos (by omega)]; rfl

theorem sorted_split (x : Nat) : ∀ l : List Nat, l.Pairwise (· ≤ ·) → (∀ e ∈ l, e ≤ x + 1) → l = l.filter (fun e => decide (e ≤ x)) ++ List.replicate (l.length - (l.filter (fun e => decide (e ≤ x))).length) (x + 1) := by
  intro l
  induction l with
  | nil => intro _ _; simp
  | cons h l ih =>
    intro hp hb
    obtain ⟨h1, h2⟩ := List.pairwise_cons.1 hp
    by_cases e : h ≤ x
    · rw [List.filter_cons_of_pos (by simpa using e)]
      have := ih h2 (fun z hz => hb z (by simp [hz]))
      simp only [List.length_cons, List.cons_append, Nat.add_sub_add_right]
      rw [← this]
    · have e1 : h = x + 1 := by have := hb h (by simp); omega
      have e2 : ∀ z ∈ l, z = x + 1 := fun z hz => by have := hb z (by simp [hz]); have := h1 z hz; omega
      have e3 : (h :: l).filter (fun e => decide (e ≤ x)) = [] := by
        rw [List.filter_eq_nil_iff]
        intro z hz
        rcases List.mem_cons.1 hz with rfl | hz
        · simpa using e
        · have := e2 z hz; simp; omega
      rw [e3]
      simp only [List.length_nil, Nat.sub_zero, List.nil_append]
      rw [List.eq_replicate_iff]
      exact ⟨rfl, fun z hz => by rcases List.mem_cons.1 hz with rfl | hz; exact e1; exact e2 z hz⟩

/-- A filling by letters up to x, in the making. -/
structure PF (a b c : Nat → Nat) (m x : Nat) (t : List (List Nat)) : Prop where
  rows : t.length ≤ m
  ne : ∀ r, r < t.length → 0 < len2 t r
  lo : ∀ r, a r ≤ len2 t r
  hi : ∀ r, len2 t r ≤ c r
  dec : ∀ r, len2 t (r + 1) ≤ len2 t r
  hole : ∀ r j, j < a r → at2 t r j = 0
  pos : ∀ r j, a r ≤ j → j < len2 t r → 1 ≤ at2 t r j ∧ at2 t r j ≤ x
  srt : ∀ r, (nrow t r).Pairwise (· ≤ ·)
  col : ∀ r j, a (r + 1) ≤ j → j < len2 t (r + 1) → at2 t r j < at2 t (r + 1) j
  cnt : ∀ y, 1 ≤ y → y ≤ x → (rwd t).count y = b y
  ltc : ∀ y, 2 ≤ y → y ≤ x → lat y 0 (rwd t) = true

theorem at_mem {l : List Nat} {e : Nat} (h : e ∈ l) : ∃ j, j < l.length ∧ l.getD j 0 = e := by
  obtain ⟨j, hj, he⟩ := List.getElem_of_mem h
  exact ⟨j, hj, by simp [List.getD, hj, he]⟩
theorem mem_at {l : List Nat} {j : Nat} (h : j < l.length) : l.getD j 0 ∈ l := by
  simp [List.getD, h]
theorem PF.le {a b c : Nat → Nat} {m x : Nat} {t : List (List Nat)} (h : PF a b c m x t) (r : Nat) : ∀ e ∈ nrow t r, e ≤ x := fun e he => by
  obtain ⟨j, hj, rfl⟩ := at_mem he
  by_cases hh : j < a r
  · have := h.hole r j hh; unfold at2 at this; omega
  · exact (h.pos r j (by omega) hj).2

theorem filter_flat {α : Type} (p : Nat → Bool) (f : α → List Nat) : ∀ l : List α, (l.flatMap f).filter p = l.flatMap fun r => (f r).filter p := by
  intro l
  induction l with
  | nil => rfl
  | cons a l ih => rw [List.flatMap_cons, List.filter_append, ih, List.flatMap_cons]
theorem flat_congr {α : Type} {f g : α → List Nat} : ∀ l : List α, (∀ r ∈ l, f r = g r) → l.flatMap f = l.flatMap g := by
  intro l
  induction l with
  | nil => intro _; rfl
  | cons a l ih => intro h; rw [List.flatMap_cons, List.flatMap_cons, h a (by simp), ih (fun r hr => h r (by simp [hr]))]
/-- The word of a table cut down to the letters up to x. -/
theorem rwd_cut {t t' : List (List Nat)} {x K : Nat} (h1 : t.length ≤ K) (h2 : t'.length ≤ K) (h : ∀ r, nrow t r = (nrow t' r).filter (fun e => decide (e ≤ x))) : rwd t = (rwd t').filter (fun e => decide (e ≤ x)) := by
  rw [rwd_rows t h1, rwd_rows t' h2, filter_flat]
  exact flat_congr _ (fun r _ => by rw [h r, List.filter_reverse])
theorem count_flat {α : Type} (y : Nat) (f : α → List Nat) : ∀ l : List α, (l.flatMap f).count y = (l.map fun r => (f r).count y).sum := by
  intro l
  induction l with
  | nil => rfl
  | cons a l ih => rw [List.flatMap_cons, List.count_append, ih]; rfl
theorem len_flat {α : Type} (f : α → List Nat) : ∀ l : List α, (l.flatMap f).length = (l.map fun r => (f r).length).sum := by
  intro l
  induction l with
  | nil => rfl
  | cons a l ih => rw [List.flatMap_cons, List.length_append, ih]; rfl

/-- What a strip is. -/
structure Strip (p c : Nat → Nat) (m k : Nat) (q : List Nat) : Prop where
  len : q.length ≤ m
  pos : ∀ r, r < q.length → 0 < q.getD r 0
  lo : ∀ r, p r ≤ q.getD r 0
  hi : ∀ r, r < m → q.getD r 0 ≤ hiG p c r
  sum : ((List.range m).map fun r => q.getD r 0 - p r).sum = k

theorem grow_cut {a b c : Nat → Nat} {m x : Nat} {t : List (List Nat)} {q : List Nat} (h : PF a b c m x t) (hq : ∀ r, len2 t r ≤ q.getD r 0) (r : Nat) : nrow t r = (nrow (growT t (x + 1) q) r).filter (fun e => decide (e ≤ x)) := by
  rw [grow_row hq, List.filter_append]
  have e1 : (nrow t r).filter (fun e => decide (e ≤ x)) = nrow t r := by
    rw [List.filter_eq_self]
    intro e he; simpa using h.le r e he
  have e2 : (List.replicate (q.getD r 0 - len2 t r) (x + 1)).filter (fun e => decide (e ≤ x)) = [] := by
    rw [List.filter_eq_nil_iff]
    intro e he
    rw [List.eq_of_mem_replicate he]; simp
  rw [e1, e2, List.append_nil]

theorem getD_out {q : List Nat} {r : Nat} (h : q.length ≤ r) : q.getD r 0 = 0 := by
  rw [List.getD, List.getElem?_eq_none h]; rfl
theorem PF.grow {a b c : Nat → Nat} {m x : Nat} {t : List (List Nat)} {q : List Nat} (h : PF a b c m x t) (hs : Strip (len2 t) c m (b (x + 1)) q) (hl : x + 1 = 1 ∨ lat (x + 1) 0 (rwd (growT t (x + 1) q)) = true) :
    PF a b c m (x + 1) (growT t (x + 1) q) := by
  have hq := hs.lo
  have hlen : ∀ r, len2 (growT t (x + 1) q) r = q.getD r 0 := grow_len hq
  have hrow := grow_row (x := x + 1) hq
  have hcut : rwd t = (rwd (growT t (x + 1) q)).filter (fun e => decide (e ≤ x)) := rwd_cut h.rows (by simp [growT]; exact hs.len) (grow_cut h hq)
  have hmono : ∀ r, q.getD (r + 1) 0 ≤ len2 t r := fun r => by
    by_cases hr : r + 1 < m
    · have := hs.hi (r + 1) hr
      unfold hiG at this
      rw [if_neg (by omega)] at this
      simp only [Nat.add_sub_cancel] at this
      omega
    · rw [getD_out (by have := hs.len; omega)]; omega
  refine ⟨by simp [growT]; exact hs.len, fun r hr => ?_, fun r => ?_, fun r => ?_, fun r => ?_, fun r j hj => ?_, fun r j h1 h2 => ?_, fun r => ?_, fun r j h1 h2 => ?_, fun y h1 h2 => ?_, fun y h1 h2 => ?_⟩
  · rw [hlen]; exact hs.pos r (by simpa [growT] using hr)
  · rw [hlen]; exact Nat.le_trans (h.lo r) (hq r)
  · rw [hlen]
    by_cases hr : r < m
    · have := hs.hi r hr
      unfold hiG at this
      split at this
      · rename_i e; subst e; exact this
      · omega
    · rw [getD_out (by have := hs.len; omega)]; omega
  · rw [hlen, hlen]; exact Nat.le_trans (hmono r) (hq r)
  · have := h.lo r
    rw [grow_at hq r j (by have := hq r; omega), if_pos (by omega)]
    exact h.hole r j hj
  · rw [hlen] at h2
    rw [grow_at hq r j h2]
    split
    · rename_i e
      have := h.pos r j h1 e; omega
    · omega
  · rw [hrow, List.pairwise_append]
    refine ⟨h.srt r, List.pairwise_replicate.2 (Or.inr (Nat.le_refl _)), fun e1 he1 e2 he2 => ?_⟩
    rw [List.eq_of_mem_replicate he2]
    have := h.le r e1 he1; omega
  · rw [hlen] at h2
    have h3 := hmono r
    rw [grow_at hq (r + 1) j h2, grow_at hq r j (by have := hq r; omega), if_pos (show j < len2 t r by omega)]
    split
    · rename_i e; exact h.col r j h1 e
    · have : at2 t r j ≤ x := h.le r _ (mem_at (by unfold len2 at h3; omega))
      omega
  · by_cases e : y = x + 1
    · subst e
      rw [rwd_rows (growT t (x + 1) q) (K := m) (by simp [growT]; exact hs.len), count_flat]
      rw [← hs.sum]
      congr 1
      refine List.map_congr_left fun r _ => ?_
      rw [List.count_reverse, hrow, List.count_append, List.count_replicate_self]
      have : (nrow t r).count (x + 1) = 0 := List.count_eq_zero.2 (fun he => by have := h.le r _ he; omega)
      omega
    · rw [← count_filter_pos (p := fun e => decide (e ≤ x)) (by simp; omega), ← hcut]
      exact h.cnt y h1 (by omega)
  · by_cases e : y = x + 1
    · subst e
      rcases hl with hl | hl
      · omega
      · exact hl
    · rw [← lat_filter y (fun e => decide (e ≤ x)) (by simp; omega) (fun z hz => by simp; omega), ← hcut]
      exact h.ltc y h1 (by omega)

/-- A nrow of rows, up to the first empty one. -/
theorem takeW_row (L : List (List Nat)) (h : ∀ r, nrow L (r + 1) ≠ [] → nrow L r ≠ []) : ∀ r, nrow (L.takeWhile (fun l => !l.isEmpty)) r = nrow L r := by
  induction L with
  | nil => intro r; rfl
  | cons l L ih =>
    intro r
    by_cases e : l = []
    · subst e
      have h0 : ∀ r, nrow ([] :: L) r = [] := by
        intro r
        induction r with
        | zero => rfl
        | succ r ih2 =>
          rcases Classical.em (nrow ([] :: L) (r + 1) = []) with q | q
          · exact q
          · exact absurd ih2 (h r q)
      rw [h0 r]
      simp [nrow]
    · have e1 : (!l.isEmpty) = true := by cases l with | nil => exact absurd rfl e | cons _ _ => rfl
      rw [List.takeWhile_cons_of_pos (p := fun l : List Nat => !l.isEmpty) e1]
      cases r with
      | zero => rfl
      | succ r =>
        have := ih (fun r hr => h (r + 1) hr) r
        exact this
theorem mem_takeW {p : List Nat → Bool} : ∀ {L : List (List Nat)} {l : List Nat}, l ∈ L.takeWhile p → p l = true := by
  intro L
  induction L with
  | nil => intro l h; simp at h
  | cons a L ih =>
    intro l h
    by_cases e : p a = true
    · rw [List.takeWhile_cons_of_pos e] at h
      rcases List.mem_cons.1 h with rfl | h
      · exact e
      · exact ih h
    · rw [List.takeWhile_cons_of_neg e] at h; cases h
theorem takeW_ne (L : List (List Nat)) : ∀ r, r < (L.takeWhile (fun l => !l.isEmpty)).length → 0 < len2 (L.takeWhile (fun l => !l.isEmpty)) r := fun r hr => by
  have hm : nrow (L.takeWhile (fun l => !l.isEmpty)) r ∈ L.takeWhile (fun l => !l.isEmpty) := by
    unfold nrow; simp [List.getD, hr]
  have := mem_takeW hm
  unfold len2
  rcases Nat.eq_zero_or_pos (nrow (L.takeWhile (fun l => !l.isEmpty)) r).length with e | e
  · rw [List.eq_nil_of_length_eq_zero e] at this; simp at this
  · exact e
def cutT (x : Nat) (t : List (List Nat)) : List (List Nat) := (t.map fun l => l.filter (fun e => decide (e ≤ x))).takeWhile (fun l => !l.isEmpty)
theorem row_mapf (f : List Nat → List Nat) (h0 : f [] = []) (t : List (List Nat)) (r : Nat) : nrow (t.map f) r = f (nrow t r) := by
  unfold nrow
  simp only [List.getD, List.getElem?_map]
  cases t[r]? with
  | none => simp [h0]
  | some v => rfl

theorem PF.cut {a b c : Nat → Nat} {m x : Nat} {t : List (List Nat)} (h : PF a b c m (x + 1) t) (ha : ∀ r, a (r + 1) ≤ a r) :
    PF a b c m x (cutT x t) ∧ (∀ r, nrow (cutT x t) r = (nrow t r).filter (fun e => decide (e ≤ x))) ∧ Strip (len2 (cutT x t)) c m (b (x + 1)) (t.map List.length) ∧ growT (cutT x t) (x + 1) (t.map List.length) = t := by
  have hsp : ∀ r, nrow t r = (nrow t r).filter (fun e => decide (e ≤ x)) ++ List.replicate ((nrow t r).length - ((nrow t r).filter (fun e => decide (e ≤ x))).length) (x + 1) := fun r => sorted_split x (nrow t r) (h.srt r) (h.le r)
  -- a letter up to x lies among the first ones
  have hat : ∀ r j, j < len2 t r → (at2 t r j ≤ x ↔ j < ((nrow t r).filter (fun e => decide (e ≤ x))).length) := fun r j hj => by
    constructor
    · intro hle
      rcases Nat.lt_or_ge j ((nrow t r).filter (fun e => decide (e ≤ x))).length with e | e
      · exact e
      · exfalso
        have : at2 t r j = x + 1 := by
          unfold at2
          rw [hsp r]
          simp only [List.getD]
          rw [List.getElem?_append_right e, List.getElem?_replicate]
          unfold len2 at hj
          rw [if_pos (by omega)]; rfl
        omega
    · intro hlt
      have hm : at2 t r j ∈ (nrow t r).filter (fun e => decide (e ≤ x)) := by
        unfold at2
        have e : (nrow t r).getD j 0 = ((nrow t r).filter (fun e => decide (e ≤ x))).getD j 0 := by
          have := congrArg (fun l : List Nat => l.getD j 0) (hsp r)
          simp only [List.getD] at this ⊢
          rw [this, List.getElem?_append_left hlt]
        rw [e]; exact mem_at hlt
      simpa using (List.mem_filter.1 hm).2
  have hfl : ∀ r, ((nrow t r).filter (fun e => decide (e ≤ x))).length ≤ len2 t r := fun r => List.length_filter_le _ _
  have hdec : ∀ r, ((nrow t (r + 1)).filter (fun e => decide (e ≤ x))).length ≤ ((nrow t r).filter (fun e => decide (e ≤ x))).length := fun r => by
    rcases Nat.lt_or_ge ((nrow t r).filter (fun e => decide (e ≤ x))).length ((nrow t (r + 1)).filter (fun e => decide (e ≤ x))).length with e | e
    · exfalso
      obtain ⟨j, hj⟩ : ∃ j, j = ((nrow t r).filter (fun e => decide (e ≤ x))).length := ⟨_, rfl⟩
      rw [← hj] at e
      have h1 := hfl (r + 1)
      have h2 := h.dec r
      have h3 := (hat (r + 1) j (by omega)).2 e
      by_cases e2 : j < a (r + 1)
      · have := ha r
        have := (hat r j (by omega)).1 (by rw [h.hole r j (by omega)]; omega)
        omega
      · have := h.col r j (by omega) (by omega)
        have := (hat r j (by omega)).1 (by omega)
        omega
    · exact e
  have hrow : ∀ r, nrow (cutT x t) r = (nrow t r).filter (fun e => decide (e ≤ x)) := fun r => by
    unfold cutT
    rw [takeW_row, row_mapf _ (by rfl)]
    intro r hne hn
    rw [row_mapf _ (by rfl)] at hne hn
    have := hdec r
    rw [hn] at this
    exact hne (List.eq_nil_of_length_eq_zero (by simpa using this))
  have hlen : ∀ r, len2 (cutT x t) r = ((nrow t r).filter (fun e => decide (e ≤ x))).length := fun r => by unfold len2; rw [hrow]
  have hq : ∀ r, (t.map List.length).getD r 0 = len2 t r := fun r => by
    unfold len2 nrow
    simp only [List.getD, List.getElem?_map]
    cases t[r]? with
    | none => rfl
    | some v => rfl
  have hle : ∀ r, len2 (cutT x t) r ≤ (t.map List.length).getD r 0 := fun r => by rw [hq, hlen]; exact hfl r
  have hatc : ∀ r j, j < len2 (cutT x t) r → at2 (cutT x t) r j = at2 t r j := fun r j hj => by
    unfold at2
    rw [hrow]
    have := congrArg (fun l : List Nat => l.getD j 0) (hsp r)
    simp only [List.getD] at this ⊢
    rw [hlen] at hj
    rw [this, List.getElem?_append_left hj]
  have hrl : (cutT x t).length ≤ m := by
    have h1 : (cutT x t).length ≤ (t.map fun l => l.filter (fun e => decide (e ≤ x))).length := (List.takeWhile_sublist _).length_le
    have := h.rows
    simp at h1; omega
  have hwd : rwd (cutT x t) = (rwd t).filter (fun e => decide (e ≤ x)) := rwd_cut hrl h.rows hrow
  have hal : ∀ r, a r ≤ len2 (cutT x t) r := fun r => by
    rcases Nat.lt_or_ge (len2 (cutT x t) r) (a r) with e | e
    · exfalso
      have h1 := h.lo r
      have := (hat r (len2 (cutT x t) r) (by omega)).1 (by rw [h.hole r _ e]; omega)
      rw [hlen] at this; omega
    · exact e
  refine ⟨⟨hrl, takeW_ne _, hal, fun r => ?_, fun r => ?_, fun r j hj => ?_, fun r j h1 h2 => ?_, fun r => ?_, fun r j h1 h2 => ?_, fun y h1 h2 => ?_, fun y h1 h2 => ?_⟩, hrow, ⟨?_, fun r hr => ?_, hle, fun r hr => ?_, ?_⟩, ?_⟩
  · rw [hlen]; exact Nat.le_trans (hfl r) (h.hi r)
  · rw [hlen, hlen]; exact hdec r
  · rw [hatc r j (by have := hal r; omega)]; exact h.hole r j hj
  · rw [hatc r j h2]
    rw [hlen] at h2
    have h3 := hfl r
    exact ⟨(h.pos r j h1 (by omega)).1, (hat r j (by omega)).2 h2⟩
  · rw [hrow]; exact (h.srt r).filter _
  · have h4 : j < len2 (cutT x t) r := by rw [hlen] at h2 ⊢; have := hdec r; omega
    rw [hatc _ _ h2, hatc _ _ h4]
    rw [hlen] at h2
    have h3 := hfl (r + 1)
    exact h.col r j h1 (by omega)
  · rw [hwd, count_filter_pos (by simp; omega)]; exact h.cnt y h1 (by omega)
  · rw [hwd, lat_filter y (fun e => decide (e ≤ x)) (by simp; omega) (fun z hz => by simp; omega)]
    exact h.ltc y h1 (by omega)
  · simpa using h.rows
  · rw [hq]; exact h.ne r (by simpa using hr)
  · rw [hq]
    unfold hiG
    by_cases e : r = 0
    · subst e; rw [if_pos rfl]; exact h.hi 0
    · rw [if_neg e]
      refine Nat.le_min.2 ⟨?_, h.hi r⟩
      obtain ⟨r, rfl⟩ : ∃ r', r = r' + 1 := ⟨r - 1, by omega⟩
      simp only [Nat.add_sub_cancel]
      rcases Nat.lt_or_ge (len2 (cutT x t) r) (len2 t (r + 1)) with e2 | e2
      · exfalso
        obtain ⟨j, hj⟩ : ∃ j, j = len2 (cutT x t) r := ⟨_, rfl⟩
        rw [← hj] at e2
        have h1 := hal r
        have h2 := ha r
        have h3 := h.dec r
        have h4 := h.col r j (by omega) e2
        have h5 := (h.pos (r + 1) j (by omega) e2).2
        have h6 := (hat r j (by omega)).1 (by omega)
        rw [hlen] at hj; omega
      · exact e2
  · have h1 := h.cnt (x + 1) (by omega) (Nat.le_refl _)
    rw [rwd_rows t h.rows, count_flat] at h1
    rw [← h1]
    congr 1
    refine List.map_congr_left fun r _ => ?_
    rw [List.count_reverse, hq, hlen]
    have e : (nrow t r).count (x + 1) = (((nrow t r).filter (fun e => decide (e ≤ x))) ++ List.replicate ((nrow t r).length - ((nrow t r).filter (fun e => decide (e ≤ x))).length) (x + 1)).count (x + 1) := by rw [← hsp r]
    rw [e, List.count_append, List.count_replicate_self]
    have : ((nrow t r).filter (fun e => decide (e ≤ x))).count (x + 1) = 0 := List.count_eq_zero.2 (fun he => absurd (of_decide_eq_true (List.mem_filter.1 he).2) (by omega))
    unfold len2; omega
  · refine tab_ext (fun r hr => ?_) h.ne (fun r => ?_)
    · rw [grow_len hle, hq]; exact h.ne r (by simpa [growT] using hr)
    · rw [grow_row hle, hrow, hq, hlen]
      exact (hsp r).symm

end Go.Proofs.Ytheebpjkjclgbaa
