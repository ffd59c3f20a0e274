/-
  Sums, products and determinants of whole numbers, as functions of their places.
  Products of differences: by determinants, and by what lies between.
  Hooks: what they come to, times all differences.
  Plain mathematics: standard tableaux counted down by corners, told by rows; and as many ways lead up as lead down.
-/

namespace Go.Proofs.YtmbpcapjldbkbaaDoor

/-- A sum of n numbers. -/
def sZ (f : Nat → Int) : Nat → Int
  | 0 => 0
  | n + 1 => sZ f n + f n
/-- A product of n numbers. -/
def pZ (f : Nat → Int) : Nat → Int
  | 0 => 1
  | n + 1 => pZ f n * f n
theorem sZ_congr {f g : Nat → Int} : ∀ n, (∀ i, i < n → f i = g i) → sZ f n = sZ g n
  | 0, _ => rfl
  | n + 1, h => by rw [sZ, sZ, sZ_congr n (fun i hi => h i (by omega)), h n (by omega)]
theorem pZ_congr {f g : Nat → Int} : ∀ n, (∀ i, i < n → f i = g i) → pZ f n = pZ g n
  | 0, _ => rfl
  | n + 1, h => by rw [pZ, pZ, pZ_congr n (fun i hi => h i (by omega)), h n (by omega)]
theorem sZ_add (f g : Nat → Int) : ∀ n, sZ (fun i => f i + g i) n = sZ f n + sZ g n
  | 0 => rfl
  | n + 1 => by rw [sZ, sZ, sZ, sZ_add f g n]; omega
theorem sZ_mul (c : Int) (f : Nat → Int) : ∀ n, sZ (fun i => c * f i) n = c * sZ f n
  | 0 => by simp [sZ]
  | n + 1 => by rw [sZ, sZ, sZ_mul c f n, Int.mul_add]
theorem sZ_zero {f : Nat → Int} {n : Nat} (h : ∀ i, i < n → f i = 0) : sZ f n = 0 := by
  induction n with
  | zero => rfl
  | succ n ih => rw [sZ, ih (fun i hi => h i (by omega)), h n (by omega)]; rfl
theorem sZ_one {f : Nat → Int} {k : Nat} : ∀ n, k < n → (∀ i, i < n → i ≠ k → f i = 0) → sZ f n = f k := by
  intro n
  induction n with
  | zero => intro h _; omega
  | succ n ih =>
    intro hk h
    rw [sZ]
    by_cases e : k = n
    · subst e; rw [sZ_zero (fun i hi => h i (by omega) (by omega)), Int.zero_add]
    · rw [ih (by omega) (fun i hi hne => h i (by omega) hne), h n (by omega) (fun q => e q.symm), Int.add_zero]
theorem sZ_two {f : Nat → Int} {k : Nat} : ∀ n, k + 1 < n → (∀ i, i < n → i ≠ k → i ≠ k + 1 → f i = 0) → sZ f n = f k + f (k + 1) := by
  intro n
  induction n with
  | zero => intro h _; omega
  | succ n ih =>
    intro hk h
    rw [sZ]
    by_cases e : k + 1 = n
    · subst e; rw [sZ_one (k := k) (k + 1) (by omega) (fun i hi hne => h i (by omega) hne (by omega))]
    · rw [ih (by omega) (fun i hi h1 h2 => h i (by omega) h1 h2), h n (by omega) (by omega) (fun q => e q.symm), Int.add_zero]
theorem sZ_swap (f : Nat → Nat → Int) (m : Nat) : ∀ n, sZ (fun i => sZ (f i) m) n = sZ (fun j => sZ (fun i => f i j) n) m
  | 0 => by simp only [sZ]; rw [sZ_zero (fun _ _ => rfl)]
  | n + 1 => by rw [sZ, sZ_swap f m n, ← sZ_add]; rfl
theorem sZ_shift (f : Nat → Int) : ∀ n, sZ f (n + 1) = f 0 + sZ (fun i => f (i + 1)) n
  | 0 => by simp [sZ]
  | n + 1 => by rw [sZ, sZ_shift f n, sZ]; omega
theorem pZ_shift (f : Nat → Int) : ∀ n, pZ f (n + 1) = f 0 * pZ (fun i => f (i + 1)) n
  | 0 => by simp [pZ]
  | n + 1 => by rw [pZ, pZ_shift f n, pZ, Int.mul_assoc]
theorem pZ_mul (f g : Nat → Int) : ∀ n, pZ (fun i => f i * g i) n = pZ f n * pZ g n
  | 0 => rfl
  | n + 1 => by rw [pZ, pZ, pZ, pZ_mul f g n]; ac_rfl
theorem pZ_add (f : Nat → Int) (m : Nat) : ∀ n, pZ f (m + n) = pZ f m * pZ (fun i => f (m + i)) n
  | 0 => by simp [pZ]
  | n + 1 => by rw [← Nat.add_assoc, pZ, pZ_add f m n, pZ, Int.mul_assoc]

/-- The sign of place i. -/
def sg : Nat → Int
  | 0 => 1
  | i + 1 => - sg i
/-- Place r, place i left out. -/
def skp (i r : Nat) : Nat := if r < i then r else r + 1
def psn (i k : Nat) : Nat := if k < i then k else k - 1
theorem skp_psn {i k r : Nat} (h : i ≠ k) : skp i r = k ↔ r = psn i k := by
  unfold skp psn
  split <;> split <;> omega
theorem skp_ne (i r : Nat) : skp i r ≠ i := by unfold skp; split <;> omega
theorem pZ_skp (d : Nat → Int) : ∀ n i, i ≤ n → d i * pZ (fun r => d (skp i r)) n = pZ d (n + 1) := by
  intro n
  induction n with
  | zero => intro i hi; obtain rfl : i = 0 := by omega
            simp [pZ]
  | succ n ih =>
    intro i hi
    by_cases e : i = n + 1
    · subst e
      rw [pZ_congr (n + 1) (g := d) (fun r hr => by rw [skp, if_pos hr]), pZ, pZ, pZ]; ac_rfl
    · rw [pZ, ← Int.mul_assoc, ih i (by omega), show skp i n = n + 1 by unfold skp; rw [if_neg (by omega)]]
      rfl

/-- The determinant, by its first column. -/
def det : Nat → (Nat → Nat → Int) → Int
  | 0, _ => 1
  | n + 1, A => sZ (fun i => sg i * (A i 0 * det n (fun r c => A (skp i r) (c + 1)))) (n + 1)
theorem det_congr : ∀ n {A B : Nat → Nat → Int}, (∀ r c, r < n → c < n → A r c = B r c) → det n A = det n B
  | 0, _, _, _ => rfl
  | n + 1, A, B, h => by
    rw [det, det]
    refine sZ_congr _ (fun i hi => ?_)
    rw [h i 0 hi (by omega), det_congr n (A := fun r c => A (skp i r) (c + 1)) (B := fun r c => B (skp i r) (c + 1)) (fun r c hr hc => h _ _ (by unfold skp; split <;> omega) (by omega))]
/-- Row k becomes u. -/
def rpR (A : Nat → Nat → Int) (k : Nat) (u : Nat → Int) : Nat → Nat → Int := fun r c => if r = k then u c else A r c
theorem minor_rp (A : Nat → Nat → Int) {i k : Nat} (u : Nat → Int) (h : i ≠ k) : (fun r c => rpR A k u (skp i r) (c + 1)) = rpR (fun r c => A (skp i r) (c + 1)) (psn i k) (fun c => u (c + 1)) := by
  funext r c
  unfold rpR
  by_cases e : skp i r = k
  · rw [if_pos e, if_pos ((skp_psn h).1 e)]
  · rw [if_neg e, if_neg (fun q => e ((skp_psn h).2 q))]
theorem minor_self (A : Nat → Nat → Int) (k : Nat) (u : Nat → Int) : (fun r c => rpR A k u (skp k r) (c + 1)) = fun r c => A (skp k r) (c + 1) := by
  funext r c
  unfold rpR
  rw [if_neg (skp_ne k r)]
/-- It is linear in each row. -/
theorem det_lin : ∀ (n : Nat) (A : Nat → Nat → Int) (k : Nat) (a b : Int) (u v : Nat → Int), k < n → det n (rpR A k (fun c => a * u c + b * v c)) = a * det n (rpR A k u) + b * det n (rpR A k v) := by
  intro n
  induction n with
  | zero => intro A k a b u v hk; omega
  | succ n ih =>
    intro A k a b u v hk
    rw [det, det, det, ← sZ_mul, ← sZ_mul, ← sZ_add]
    refine sZ_congr _ (fun i hi => ?_)
    by_cases e : i = k
    · subst e
      rw [minor_self, minor_self, minor_self]
      simp only [rpR, if_pos]
      generalize det n _ = D
      rw [Int.add_mul, Int.mul_add]
      ac_rfl
    · rw [minor_rp A _ e, minor_rp A _ e, minor_rp A _ e]
      have hp : psn i k < n := by unfold psn; split <;> omega
      rw [ih _ _ a b (fun c => u (c + 1)) (fun c => v (c + 1)) hp]
      simp only [rpR, if_neg e]
      rw [Int.mul_add, Int.mul_add]
      ac_rfl
theorem rpR_self (A : Nat → Nat → Int) (k : Nat) : rpR A k (A k) = A := by
  funext r c
  unfold rpR
  by_cases e : r = k
  · rw [if_pos e, e]
  · rw [if_neg e]
/-- Two rows that follow each other are the same: 0. -/
theorem det_alt : ∀ (n : Nat) (A : Nat → Nat → Int) (k : Nat), k + 1 < n → (∀ c, A k c = A (k + 1) c) → det n A = 0 := by
  intro n
  induction n with
  | zero => intro A k hk; omega
  | succ n ih =>
    intro A k hk h
    rw [det, sZ_two (k := k) (n + 1) hk (fun i hi h1 h2 => ?_)]
    · have e : det n (fun r c => A (skp k r) (c + 1)) = det n (fun r c => A (skp (k + 1) r) (c + 1)) := by
        refine det_congr n (fun r c hr _ => ?_)
        unfold skp
        by_cases e1 : r < k
        · rw [if_pos e1, if_pos (by omega)]
        · by_cases e2 : r = k
          · subst e2; rw [if_neg (by omega), if_pos (by omega)]; exact (h _).symm
          · rw [if_neg e1, if_neg (by omega)]
      rw [e, h 0, show sg (k + 1) = - sg k from rfl, Int.neg_mul]
      omega
    · have e : det n (fun r c => A (skp i r) (c + 1)) = 0 := by
        refine ih _ (psn i k) (by unfold psn; split <;> omega) (fun c => ?_)
        have e1 : skp i (psn i k) = k := (skp_psn h1).2 rfl
        have e2 : psn i k + 1 = psn i (k + 1) := by unfold psn; split <;> split <;> omega
        have e3 : skp i (psn i k + 1) = k + 1 := by rw [e2]; exact (skp_psn h2).2 rfl
        rw [e1, e3]; exact h _
      rw [e, Int.mul_zero, Int.mul_zero]
/-- A row is added to the next one, so many times. -/
theorem det_addrow {n : Nat} (A : Nat → Nat → Int) {k : Nat} (a : Int) (hk : k + 1 < n) : det n (rpR A (k + 1) (fun c => A (k + 1) c + a * A k c)) = det n A := by
  have h := det_lin n A (k + 1) 1 a (A (k + 1)) (A k) hk
  rw [rpR_self, det_alt n (rpR A (k + 1) (A k)) k hk (fun c => by simp [rpR])] at h
  rw [show (fun c => A (k + 1) c + a * A k c) = fun c => 1 * A (k + 1) c + a * A k c from funext fun c => by rw [Int.one_mul], h]
  omega
/-- From row j on each row without the one ahead. -/
def difM (A : Nat → Nat → Int) (j : Nat) : Nat → Nat → Int := fun r c => if r < j then A r c else A r c - A (r - 1) c
theorem det_dif (n : Nat) (A : Nat → Nat → Int) : ∀ d j, j + d = n → 1 ≤ j → det n (difM A j) = det n A := by
  intro d
  induction d with
  | zero => intro j hj _; exact det_congr n (fun r c hr _ => by unfold difM; rw [if_pos (by omega)])
  | succ d ih =>
    intro j hj h1
    rw [← ih (j + 1) (by omega) (by omega)]
    obtain ⟨k, rfl⟩ : ∃ k, j = k + 1 := ⟨j - 1, by omega⟩
    rw [← det_addrow (difM A (k + 1 + 1)) (k := k) (-1) (by omega)]
    refine det_congr n (fun r c _ _ => ?_)
    unfold rpR difM
    by_cases e : r = k + 1
    · subst e
      rw [if_neg (by omega), if_pos rfl]
      dsimp only
      rw [if_pos (by omega), if_pos (by omega), show k + 1 - 1 = k by omega]; omega
    · rw [if_neg e]
      by_cases e2 : r < k + 1
      · rw [if_pos e2, if_pos (by omega)]
      · rw [if_neg e2, if_neg (by omega)]
/-- The first column is 1 throughout. -/
theorem det_ones (n : Nat) (A : Nat → Nat → Int) (h : ∀ r, r < n + 1 → A r 0 = 1) : det (n + 1) A = det n (fun r c => A (r + 1) (c + 1) - A r (c + 1)) := by
  rw [← det_dif (n + 1) A n 1 (by omega) (by omega), det, sZ_one (k := 0) (n + 1) (by omega) (fun i hi hne => ?_)]
  · have e0 : difM A 1 0 0 = 1 := by unfold difM; rw [if_pos (by omega)]; exact h 0 (by omega)
    rw [e0, show sg 0 = 1 from rfl, Int.one_mul, Int.one_mul]
    refine det_congr n (fun r c _ _ => ?_)
    have e1 : skp 0 r = r + 1 := by unfold skp; rw [if_neg (by omega)]
    unfold difM
    rw [e1, if_neg (by omega)]; rfl
  · have e0 : difM A 1 i 0 = 0 := by
      unfold difM; rw [if_neg (by omega), h i hi, h (i - 1) (by omega)]; rfl
    rw [e0, Int.zero_mul, Int.mul_zero]
/-- Each row times a number. -/
theorem det_rows : ∀ (n : Nat) (d : Nat → Int) (A : Nat → Nat → Int), det n (fun r c => d r * A r c) = pZ d n * det n A := by
  intro n
  induction n with
  | zero => intro d A; rfl
  | succ n ih =>
    intro d A
    rw [det, det, ← sZ_mul]
    refine sZ_congr _ (fun i hi => ?_)
    rw [ih (fun r => d (skp i r)) (fun r c => A (skp i r) (c + 1)), ← pZ_skp d n i (by omega)]
    ac_rfl
/-- Each column times a number. -/
theorem det_cols : ∀ (n : Nat) (d : Nat → Int) (A : Nat → Nat → Int), det n (fun r c => d c * A r c) = pZ d n * det n A := by
  intro n
  induction n with
  | zero => intro d A; rfl
  | succ n ih =>
    intro d A
    rw [det, det, ← sZ_mul]
    refine sZ_congr _ (fun i hi => ?_)
    rw [ih (fun c => d (c + 1)) (fun r c => A (skp i r) (c + 1)), pZ_shift]
    ac_rfl
/-- A row that is a sum. -/
theorem det_sum {n : Nat} (A : Nat → Nat → Int) {k : Nat} (u : Nat → Nat → Int) (hk : k < n) : ∀ m, det n (rpR A k (fun c => sZ (fun t => u t c) m)) = sZ (fun t => det n (rpR A k (u t))) m := by
  intro m
  induction m with
  | zero =>
    have h := det_lin n A k 0 0 (fun _ => 0) (fun _ => 0) hk
    simp only [sZ]
    simpa using h
  | succ m ih =>
    rw [sZ, ← ih]
    have h := det_lin n A k 1 1 (fun c => sZ (fun t => u t c) m) (u m) hk
    rw [Int.one_mul, Int.one_mul] at h
    rw [← h]
    exact congrArg (fun f => det n (rpR A k f)) (funext fun c => by simp only [sZ]; omega)
/-- The rows, one by one, each column times a number, come to the determinant times their sum. -/
theorem det_trace : ∀ (n : Nat) (d : Nat → Int) (A : Nat → Nat → Int), sZ (fun k => det n (rpR A k (fun c => d c * A k c))) n = sZ d n * det n A := by
  intro n
  induction n with
  | zero => intro d A; rfl
  | succ n ih =>
    intro d A
    have e1 : ∀ k, k < n + 1 → det (n + 1) (rpR A k (fun c => d c * A k c)) = sZ (fun i => if i = k then d 0 * (sg i * (A i 0 * det n (fun r c => A (skp i r) (c + 1)))) else sg i * (A i 0 * det n (rpR (fun r c => A (skp i r) (c + 1)) (psn i k) (fun c => d (c + 1) * A k (c + 1))))) (n + 1) := fun k hk => by
      rw [det]
      refine sZ_congr _ (fun i hi => ?_)
      by_cases e : i = k
      · subst e
        rw [if_pos rfl, minor_self]
        simp only [rpR, if_pos]
        ac_rfl
      · rw [if_neg e, minor_rp A _ e]
        simp only [rpR, if_neg e]
    rw [sZ_congr (n + 1) e1, sZ_swap, det, ← sZ_mul]
    refine sZ_congr _ (fun i hi => ?_)
    have e2 : ∀ (X : Int) (f : Nat → Int) m, i ≤ m → sZ (fun k => if i = k then X else f (psn i k)) (m + 1) = X + sZ f m := by
      intro X f m
      induction m with
      | zero => intro h; obtain rfl : i = 0 := by omega
                simp [sZ]
      | succ m ihm =>
        intro h
        by_cases e : i = m + 1
        · subst e
          rw [sZ, if_pos rfl, sZ_congr (m + 1) (g := f) (fun k hk => by rw [if_neg (by omega)]; unfold psn; rw [if_pos hk])]
          omega
        · rw [sZ, ihm (by omega), if_neg e, sZ, show psn i (m + 1) = m by unfold psn; rw [if_neg (by omega)]; omega]
          omega
    obtain ⟨F, hF⟩ : ∃ F : Nat → Int, ∀ q, F q = sg i * (A i 0 * det n (rpR (fun r c => A (skp i r) (c + 1)) q (fun c => d (c + 1) * A (skp i q) (c + 1)))) := ⟨_, fun _ => rfl⟩
    have e3 : ∀ k, k < n + 1 → (if i = k then d 0 * (sg i * (A i 0 * det n (fun r c => A (skp i r) (c + 1)))) else sg i * (A i 0 * det n (rpR (fun r c => A (skp i r) (c + 1)) (psn i k) (fun c => d (c + 1) * A k (c + 1))))) = (if i = k then d 0 * (sg i * (A i 0 * det n (fun r c => A (skp i r) (c + 1)))) else F (psn i k)) := fun k _ => by
      by_cases e : i = k
      · rw [if_pos e, if_pos e]
      · rw [if_neg e, if_neg e, hF, (skp_psn e).2 rfl]
    rw [sZ_congr (n + 1) e3, e2 _ F n (by omega), sZ_congr n (fun q _ => hF q), sZ_mul, sZ_mul, ih (fun c => d (c + 1)) (fun r c => A (skp i r) (c + 1)), sZ_shift d n, Int.add_mul]
    ac_rfl

end Go.Proofs.YtmbpcapjldbkbaaDoor

namespace Go.Proofs.YtmbpcapjldbkbaaDoor

/-- x (x - 1) .., so many factors. -/
def nwt (x : Int) : Nat → Int
  | 0 => 1
  | j + 1 => nwt x j * (x - j)
theorem nwt_succ (z : Int) : ∀ c, nwt (z + 1) (c + 1) = (z + 1) * nwt z c
  | 0 => by simp [nwt]
  | c + 1 => by
    rw [nwt, nwt_succ z c, nwt, Int.mul_assoc]
    rw [show z + 1 - ((c + 1 : Nat) : Int) = z - c by omega]
theorem nwt_dif (z : Int) (c : Nat) : nwt (z + 1) (c + 1) - nwt z (c + 1) = ((c : Int) + 1) * nwt z c := by
  rw [nwt_succ, nwt, Int.mul_comm (nwt z c), ← Int.sub_mul]
  congr 1; omega
theorem nwt_sum (a : Int) (c : Nat) : ∀ w, ((c : Int) + 1) * sZ (fun t => nwt (a + t) c) w = nwt (a + w) (c + 1) - nwt a (c + 1)
  | 0 => by simp [sZ]
  | w + 1 => by
    rw [sZ, Int.mul_add, nwt_sum a c w, ← nwt_dif, show a + ((w + 1 : Nat) : Int) = a + w + 1 by omega]; omega

/-- What is between, divided. -/
def ddf (x : Nat → Int) : Nat → Nat → Nat → Int
  | 0, 0, _ => 1
  | 0, _ + 1, _ => 0
  | j + 1, 0, i => (x i - j) * ddf x j 0 i
  | j + 1, s + 1, i => (x (i + (s + 1)) - j) * ddf x j (s + 1) i + ddf x j s i
theorem ddf_zero (x : Nat → Int) (i : Nat) : ∀ j, ddf x j 0 i = nwt (x i) j
  | 0 => rfl
  | j + 1 => by rw [ddf, ddf_zero x i j, nwt, Int.mul_comm]
theorem ddf_step (x : Nat → Int) : ∀ j s i, ddf x j s (i + 1) - ddf x j s i = (x (i + s + 1) - x i) * ddf x j (s + 1) i
  | 0, 0, i => by simp [ddf]
  | 0, s + 1, i => by simp [ddf]
  | j + 1, 0, i => by
    have h := ddf_step x j 0 i
    rw [ddf, ddf, ddf]
    rw [Nat.add_zero] at h ⊢
    rw [Int.mul_add, show (x (i + 1) - x i) * ((x (i + (0 + 1)) - (j : Int)) * ddf x j (0 + 1) i) = (x (i + 1) - (j : Int)) * ((x (i + 1) - x i) * ddf x j (0 + 1) i) by rw [Nat.zero_add]; ac_rfl, ← h]
    rw [Int.mul_sub, Int.sub_mul (x (i + 1)) (x i), Int.sub_mul, Int.sub_mul, Int.sub_mul]
    omega
  | j + 1, s + 1, i => by
    have h1 := ddf_step x j (s + 1) i
    have h2 := ddf_step x j s i
    rw [ddf, ddf, ddf, Int.mul_add]
    rw [show i + 1 + (s + 1) = i + (s + 1) + 1 by omega, show i + (s + 1 + 1) = i + (s + 1) + 1 by omega]
    rw [show (x (i + (s + 1) + 1) - x i) * ((x (i + (s + 1) + 1) - (j : Int)) * ddf x j (s + 1 + 1) i) = (x (i + (s + 1) + 1) - (j : Int)) * ((x (i + (s + 1) + 1) - x i) * ddf x j (s + 1 + 1) i) by ac_rfl, ← h1]
    rw [show i + s + 1 = i + (s + 1) by omega] at h2
    rw [show (x (i + (s + 1) + 1) - x i) * ddf x j (s + 1) i = (x (i + (s + 1) + 1) - x (i + (s + 1))) * ddf x j (s + 1) i + (x (i + (s + 1)) - x i) * ddf x j (s + 1) i by rw [← Int.add_mul]; congr 1; omega, ← h2]
    rw [Int.mul_sub, Int.sub_mul (x (i + (s + 1) + 1)) (x (i + (s + 1))), Int.sub_mul _ _ (ddf x j (s + 1) (i + 1)), Int.sub_mul _ _ (ddf x j (s + 1) i), Int.sub_mul _ _ (ddf x j (s + 1) i)]
    omega
theorem ddf_low (x : Nat → Int) : ∀ j s i, j < s → ddf x j s i = 0
  | 0, 0, i, h => by omega
  | 0, s + 1, i, h => rfl
  | j + 1, 0, i, h => by omega
  | j + 1, s + 1, i, h => by rw [ddf, ddf_low x j (s + 1) i (by omega), ddf_low x j s i (by omega)]; simp
theorem ddf_diag (x : Nat → Int) : ∀ s i, ddf x s s i = 1
  | 0, i => rfl
  | s + 1, i => by rw [ddf, ddf_low x s (s + 1) i (by omega), ddf_diag x s i]; simp

theorem det_ddf (x : Nat → Int) : ∀ n s, det n (fun r c => ddf x (s + c) s r) = pZ (fun j => pZ (fun i => x (j + s) - x i) j) n
  | 0, s => rfl
  | n + 1, s => by
    rw [det_ones n _ (fun r _ => by rw [Nat.add_zero]; exact ddf_diag x s r)]
    rw [det_congr n (B := fun r c => (x (r + s + 1) - x r) * ddf x (s + 1 + c) (s + 1) r) (fun r c _ _ => by
      rw [ddf_step, show s + (c + 1) = s + 1 + c by omega])]
    rw [det_rows n (fun r => x (r + s + 1) - x r) (fun r c => ddf x (s + 1 + c) (s + 1) r), det_ddf x n (s + 1), ← pZ_mul, pZ_shift]
    rw [show pZ (fun i => x (0 + s) - x i) 0 = 1 from rfl, Int.one_mul]
    refine pZ_congr n (fun j _ => ?_)
    rw [pZ, Int.mul_comm, show j + 1 + s = j + s + 1 by omega, show j + (s + 1) = j + s + 1 by omega]
/-- The product of all differences. -/
def van (x : Nat → Int) (m : Nat) : Int := pZ (fun j => pZ (fun i => x j - x i) j) m
theorem det_nwt (x : Nat → Int) (m : Nat) : det m (fun r c => nwt (x r) c) = van x m := by
  have h := det_ddf x m 0
  rw [det_congr m (B := fun r c => nwt (x r) c) (fun r c _ _ => by rw [Nat.zero_add]; exact ddf_zero x r c)] at h
  exact h
theorem van_congr {x y : Nat → Int} {m : Nat} (h : ∀ i, i < m → x i = y i) : van x m = van y m :=
  pZ_congr m fun j hj => pZ_congr j fun i hi => by rw [h j hj, h i (by omega)]

def upF (y : Nat → Int) (k : Nat) (z : Int) : Nat → Int := fun i => if i = k then z else y i
/-- The sum of F over all y with a i <= y i < a i + w i. -/
def bxS : Nat → (Nat → Int) → (Nat → Nat) → ((Nat → Int) → Int) → Int
  | 0, _, _, F => F (fun _ => 0)
  | k + 1, a, w, F => sZ (fun t => bxS k a w (fun y => F (upF y k (a k + t)))) (w k)
theorem bxS_mul (c : Int) : ∀ k a w F, bxS k a w (fun y => c * F y) = c * bxS k a w F
  | 0, _, _, _ => rfl
  | k + 1, a, w, F => by
    rw [bxS, bxS, ← sZ_mul]
    exact sZ_congr _ fun t _ => bxS_mul c k a w _
theorem bxS_congr : ∀ k (a : Nat → Int) (w : Nat → Nat) {F G : (Nat → Int) → Int}, (∀ y, (∀ i, i < k → a i ≤ y i ∧ y i < a i + w i) → F y = G y) → bxS k a w F = bxS k a w G
  | 0, _, _, _, _, h => h _ (fun _ hi => by omega)
  | k + 1, a, w, F, G, h => by
    rw [bxS, bxS]
    refine sZ_congr _ fun t ht => bxS_congr k a w fun y hy => h _ fun i hi => ?_
    unfold upF
    by_cases e : i = k
    · subst e; rw [if_pos rfl]; omega
    · rw [if_neg e]; exact hy i (by omega)
theorem det_box {n : Nat} (v : Int → Nat → Int) (a : Nat → Int) (w : Nat → Nat) : ∀ k (B : Nat → Nat → Int), k ≤ n → det n (fun r c => if r < k then sZ (fun t => v (a r + t) c) (w r) else B r c) = bxS k a w (fun y => det n (fun r c => if r < k then v (y r) c else B r c)) := by
  intro k
  induction k with
  | zero => intro B _; rw [bxS]; exact det_congr n fun r c _ _ => by rw [if_neg (by omega), if_neg (by omega)]
  | succ k ih =>
    intro B hk
    have e1 : (fun r c => if r < k + 1 then sZ (fun t => v (a r + t) c) (w r) else B r c) = rpR (fun r c => if r < k then sZ (fun t => v (a r + t) c) (w r) else B r c) k (fun c => sZ (fun t : Nat => (fun (t : Nat) c => v (a k + t) c) t c) (w k)) := by
      funext r c
      unfold rpR
      by_cases e : r = k
      · subst e; rw [if_pos (by omega), if_pos rfl]
      · rw [if_neg e]
        dsimp only
        by_cases e2 : r < k
        · rw [if_pos (by omega), if_pos e2]
        · rw [if_neg (by omega), if_neg e2]
    rw [e1, det_sum _ _ (by omega), bxS]
    refine sZ_congr _ fun t _ => ?_
    have e2 : rpR (fun r c => if r < k then sZ (fun t => v (a r + t) c) (w r) else B r c) k ((fun (t : Nat) c => v (a k + t) c) t) = fun r c => if r < k then sZ (fun t => v (a r + t) c) (w r) else rpR B k (fun c => v (a k + t) c) r c := by
      funext r c
      unfold rpR
      by_cases e : r = k
      · subst e; rw [if_pos rfl, if_neg (by omega), if_pos rfl]
      · rw [if_neg e, if_neg e]
    rw [e2, ih _ (by omega)]
    refine bxS_congr k a w fun y _ => det_congr n fun r c _ _ => ?_
    unfold rpR upF
    by_cases e : r = k
    · subst e; rw [if_neg (by omega), if_pos rfl, if_pos (by omega), if_pos rfl]
    · by_cases e2 : r < k
      · rw [if_pos e2, if_pos (by omega), if_neg e]
      · rw [if_neg e2, if_neg e, if_neg (by omega)]
/-- k! -/
def fct (k : Nat) : Int := pZ (fun c => (c : Int) + 1) k
theorem fct_succ (k : Nat) : fct (k + 1) = fct k * ((k : Int) + 1) := rfl
/-- The differences of m + 1 come of those of m that lie between. -/
theorem van_step (x : Nat → Int) (w : Nat → Nat) (m : Nat) (h : ∀ i, i < m → x (i + 1) = x i + w i) : van x (m + 1) = fct m * bxS m x w (fun y => van y m) := by
  rw [← det_nwt, det_ones m _ (fun _ _ => rfl)]
  rw [det_congr m (B := fun r c => ((c : Int) + 1) * (if r < m then sZ (fun t => nwt (x r + t) c) (w r) else 0)) (fun r c hr _ => by
    rw [if_pos hr, nwt_sum, h r hr])]
  rw [det_cols m (fun c => (c : Int) + 1) (fun r c => if r < m then sZ (fun t => nwt (x r + t) c) (w r) else 0), det_box nwt x w m (fun _ _ => 0) (Nat.le_refl _)]
  refine congrArg (fct m * ·) (bxS_congr m x w fun y _ => ?_)
  rw [← det_nwt]
  exact det_congr m fun r c hr _ => by rw [if_pos hr]
/-- How many ways there are to go on between, and between. -/
def cntG : Nat → (Nat → Int) → Int
  | 0, _ => 1
  | m + 1, x => bxS m x (fun i => (x (i + 1) - x i).toNat) (cntG m)
def sfc (m : Nat) : Int := pZ fct m
theorem van_cnt : ∀ m x, (∀ i, i + 1 < m → x i ≤ x (i + 1)) → van x m = sfc m * cntG m x
  | 0, x, _ => rfl
  | m + 1, x, h => by
    rw [van_step x (fun i => (x (i + 1) - x i).toNat) m (fun i hi => by have := h i (by omega); omega), cntG]
    rw [bxS_congr m x _ (G := fun y => sfc m * cntG m y) (fun y hy => van_cnt m y fun i hi => by
      have h1 := hy i (by omega)
      have h2 := hy (i + 1) (by omega)
      have h3 := h i (by omega)
      omega)]
    rw [bxS_mul, ← Int.mul_assoc, Int.mul_comm (fct m)]; rfl

/-- One less, place by place. -/
theorem van_less (x : Nat → Int) (m : Nat) : sZ (fun k => x k * van (upF x k (x k - 1)) m) m = (sZ x m - sZ (fun c => (c : Int)) m) * van x m := by
  have h := det_trace m (fun c => (c : Int)) (fun r c => nwt (x r) c)
  have e : ∀ k, k < m → x k * van (upF x k (x k - 1)) m = x k * van x m + (-1) * det m (rpR (fun r c => nwt (x r) c) k (fun c => (c : Int) * nwt (x k) c)) := fun k hk => by
    rw [← det_nwt, ← det_nwt]
    have e1 := det_lin m (fun r c => nwt (x r) c) k (x k) (-1) (fun c => nwt (x k) c) (fun c => (c : Int) * nwt (x k) c) hk
    rw [show (fun c => nwt (x k) c) = (fun r c => nwt (x r) c) k from rfl, rpR_self] at e1
    rw [← e1]
    have e2 := det_lin m (fun r c => nwt (x r) c) k (x k) 0 (fun c => nwt (x k - 1) c) (fun c => 0) hk
    simp only [Int.zero_mul, Int.add_zero] at e2
    rw [det_congr m (A := fun r c => nwt (upF x k (x k - 1) r) c) (B := rpR (fun r c => nwt (x r) c) k (fun c => nwt (x k - 1) c)) (fun r c _ _ => by
      unfold upF rpR
      by_cases q : r = k
      · rw [if_pos q, if_pos q]
      · rw [if_neg q, if_neg q]), ← e2]
    refine det_congr m fun r c _ _ => ?_
    unfold rpR
    by_cases q : r = k
    · rw [if_pos q, if_pos q]
      have h1 := nwt_succ (x k - 1) c
      rw [show x k - 1 + 1 = x k by omega] at h1
      simp only
      rw [← h1, nwt, Int.mul_sub, Int.mul_comm (nwt (x k) c) (x k), Int.mul_comm (nwt (x k) c)]; omega
    · rw [if_neg q, if_neg q]
  rw [sZ_congr m e, sZ_add, sZ_mul, h, ← det_nwt, Int.sub_mul]
  rw [show (fun k => x k * det m fun r c => nwt (x r) c) = fun k => (det m fun r c => nwt (x r) c) * x k from funext fun k => Int.mul_comm _ _, sZ_mul, Int.mul_comm (sZ x m)]
  omega

end Go.Proofs.YtmbpcapjldbkbaaDoor

namespace Go.Proofs.YtmbpcapjldbkbaaDoor

theorem pZ_rev (f : Nat → Int) : ∀ n, pZ f n = pZ (fun i => f (n - 1 - i)) n
  | 0 => rfl
  | n + 1 => by
    rw [pZ_shift (fun i => f (n + 1 - 1 - i)) n, pZ, Int.mul_comm, pZ_rev f n]
    refine congr (congrArg _ (by rw [show n + 1 - 1 - 0 = n by omega])) (pZ_congr n fun i hi => ?_)
    rw [show n + 1 - 1 - (i + 1) = n - 1 - i by omega]
theorem pZ_ne {f : Nat → Int} : ∀ n, (∀ i, i < n → f i ≠ 0) → pZ f n ≠ 0
  | 0, _ => by simp [pZ]
  | n + 1, h => by rw [pZ]; exact Int.mul_ne_zero (pZ_ne n fun i hi => h i (by omega)) (h n (by omega))
theorem fct_ne (k : Nat) : fct k ≠ 0 := pZ_ne k fun i _ => by omega
theorem sfc_ne (m : Nat) : sfc m ≠ 0 := pZ_ne m fun i _ => fct_ne i
theorem fct_rev (P : Nat) : pZ (fun j => (P : Int) - j) P = fct P := by
  rw [pZ_rev]
  exact pZ_congr P fun i hi => by omega
theorem fct_add (a k : Nat) : fct a * pZ (fun j => (a : Int) + 1 + j) k = fct (a + k) := by
  unfold fct
  rw [pZ_add]
  exact congrArg _ (pZ_congr k fun i _ => by omega)
/-- A product that slides by one. -/
theorem pZ_tel (A : Int) : ∀ q : Nat, pZ (fun j => A - j) q * (A - q) = A * pZ (fun j => A - 1 - j) q
  | 0 => by simp [pZ]
  | q + 1 => by
    rw [pZ, pZ_tel A q, pZ, Int.mul_assoc]
    rw [show A - ((q + 1 : Nat) : Int) = A - 1 - q by omega]

/-- How many of the first t numbers are above j. -/
def cq (q : Nat → Nat) (j : Nat) : Nat → Nat
  | 0 => 0
  | t + 1 => cq q j t + (if j < q t then 1 else 0)
theorem cq_full {q : Nat → Nat} {j : Nat} : ∀ t, (∀ s, s < t → j < q s) → cq q j t = t
  | 0, _ => rfl
  | t + 1, h => by rw [cq, cq_full t fun s hs => h s (by omega), if_pos (h t (by omega))]
theorem cq_congr {q q' : Nat → Nat} {j : Nat} : ∀ t, (∀ s, s < t → q s = q' s) → cq q j t = cq q' j t
  | 0, _ => rfl
  | t + 1, h => by rw [cq, cq, cq_congr t fun s hs => h s (by omega), h t (by omega)]
/-- The hooks of a row, and the differences to the rows below. -/
theorem hook_row (P : Nat) (q : Nat → Nat) (hP : ∀ s, q s ≤ P) (hq : ∀ s, q (s + 1) ≤ q s) : ∀ t, pZ (fun j => (P : Int) - j + cq q j t) P * pZ (fun s => (P : Int) - q s + (s + 1)) t = fct (P + t)
  | 0 => by
    rw [pZ, Int.mul_one, Nat.add_zero, ← fct_rev]
    exact pZ_congr P fun j _ => by simp [cq]
  | t + 1 => by
    have ih := hook_row P q hP hq t
    have hmono : ∀ s, s ≤ t → q t ≤ q s := fun s hs => by
      obtain ⟨d, rfl⟩ : ∃ d, t = s + d := ⟨t - s, by omega⟩
      clear ih hs
      induction d with
      | zero => exact Nat.le_refl _
      | succ d ihd => exact Nat.le_trans (hq (s + d)) ihd
    obtain ⟨d, hd⟩ : ∃ d, P = q t + d := ⟨P - q t, by have := hP t; omega⟩
    have e1 : pZ (fun j => (P : Int) - j + cq q j (t + 1)) P = pZ (fun j => ((P : Int) + t + 1) - j) (q t) * pZ (fun i => (P : Int) - ((q t + i : Nat) : Int) + cq q (q t + i) t) d := by
      conv => lhs; arg 2; rw [hd]
      rw [pZ_add]
      refine congr (congrArg _ (pZ_congr _ fun j hj => ?_)) (pZ_congr _ fun i _ => ?_)
      · rw [cq_full (t + 1) fun s hs => by have := hmono s (by omega); omega]; omega
      · rw [cq, if_neg (by omega), Nat.add_zero]
    have e2 : pZ (fun j => (P : Int) - j + cq q j t) P = pZ (fun j => ((P : Int) + t + 1) - 1 - j) (q t) * pZ (fun i => (P : Int) - ((q t + i : Nat) : Int) + cq q (q t + i) t) d := by
      conv => lhs; arg 2; rw [hd]
      rw [pZ_add]
      refine congr (congrArg _ (pZ_congr _ fun j hj => ?_)) rfl
      rw [cq_full t fun s hs => by have := hmono s (by omega); omega]; omega
    rw [e2] at ih
    rw [e1, pZ, ← Nat.add_assoc, fct_succ, ← ih]
    have h := pZ_tel ((P : Int) + t + 1) (q t)
    rw [show (P : Int) - q t + (t + 1) = (P : Int) + t + 1 - q t by omega, show (((P + t : Nat) : Int) + 1) = (P : Int) + t + 1 by omega]
    generalize pZ (fun j => ((P : Int) + t + 1) - j) (q t) = X at *
    generalize pZ (fun j => ((P : Int) + t + 1) - 1 - j) (q t) = Y at *
    generalize pZ (fun i => (P : Int) - ((q t + i : Nat) : Int) + cq q (q t + i) t) d = Z
    generalize pZ (fun s => (P : Int) - q s + (s + 1)) t = U
    calc X * Z * (U * ((P : Int) + t + 1 - q t)) = (X * ((P : Int) + t + 1 - q t)) * (Z * U) := by ac_rfl
      _ = Y * Z * U * ((P : Int) + t + 1) := by rw [h]; ac_rfl

/-- The hook of a box, the shape having M rows (0 among them, perhaps). -/
def hk (P : Nat → Nat) (M i j : Nat) : Int := (P i : Int) - j + cq (fun s => P (i + 1 + s)) j (M - 1 - i)
/-- Its numbers, from the last row on, each with its place. -/
def xs (P : Nat → Nat) (M k : Nat) : Nat := P (M - 1 - k) + k
theorem hook_van {P : Nat → Nat} (M : Nat) (h : ∀ i, P (i + 1) ≤ P i) : pZ (fun i => pZ (hk P M i) (P i)) M * van (fun k => (xs P M k : Int)) M = pZ (fun k => fct (xs P M k)) M := by
  have hm : ∀ i d, P (i + d) ≤ P i := fun i d => by
    induction d with
    | zero => exact Nat.le_refl _
    | succ d ih => exact Nat.le_trans (h (i + d)) ih
  rw [pZ_rev (fun i => pZ (hk P M i) (P i)) M, van, ← pZ_mul]
  refine pZ_congr M fun k hk' => ?_
  have e := hook_row (P (M - 1 - k)) (fun s => P (M - 1 - k + 1 + s)) (fun s => by have := hm (M - 1 - k) (1 + s); rw [← Nat.add_assoc] at this; exact this) (fun s => h _) k
  rw [show fct (xs P M k) = fct (P (M - 1 - k) + k) from rfl, ← e]
  refine congr (congrArg _ (pZ_congr _ fun j _ => ?_)) ?_
  · unfold hk
    rw [show M - 1 - (M - 1 - k) = k by omega]
  · rw [pZ_rev (fun i => ((xs P M k : Nat) : Int) - (xs P M i : Nat)) k]
    refine pZ_congr k fun s hs => ?_
    unfold xs
    rw [show M - 1 - (k - 1 - s) = M - 1 - k + 1 + s by omega]
    omega
theorem xs_up {P : Nat → Nat} {M : Nat} (h : ∀ i, P (i + 1) ≤ P i) (k : Nat) (hk : k + 1 < M) : xs P M k < xs P M (k + 1) := by
  unfold xs
  have := h (M - 1 - (k + 1))
  rw [show M - 1 - (k + 1) + 1 = M - 1 - k by omega] at this
  omega
/-- What the boxes' places come to. -/
def ctn (P : Nat → Nat) (M : Nat) : Int := pZ (fun i => pZ (fun j => (M : Int) - i + j) (P i)) M
theorem ctn_fct (P : Nat → Nat) (M : Nat) : ctn P M * sfc M = pZ (fun k => fct (xs P M k)) M := by
  unfold ctn sfc
  rw [pZ_rev fct M, ← pZ_mul, pZ_rev (fun k => fct (xs P M k)) M]
  refine pZ_congr M fun i hi => ?_
  have e := fct_add (M - 1 - i) (P i)
  rw [show fct (xs P M (M - 1 - i)) = fct (M - 1 - i + P i) by unfold xs; rw [show M - 1 - (M - 1 - i) = i by omega, Nat.add_comm], ← e, Int.mul_comm]
  exact congrArg _ (pZ_congr _ fun j _ => by omega)
/-- STANLEY'S: the hooks' product times the number of tableaux is that of what the places come to. -/
theorem hook_content {P : Nat → Nat} (M : Nat) (h : ∀ i, P (i + 1) ≤ P i) : pZ (fun i => pZ (hk P M i) (P i)) M * cntG M (fun k => (xs P M k : Int)) = ctn P M := by
  have h1 := hook_van M h
  rw [van_cnt M _ (fun i hi => by have := xs_up h i hi; omega), ← ctn_fct] at h1
  refine Int.eq_of_mul_eq_mul_right (sfc_ne M) ?_
  rw [← h1]
  ac_rfl

/-- How many ways there are down to nothing, one less at a time. -/
def fsd : Nat → Nat → (Nat → Int) → Int
  | 0, _, _ => 1
  | n + 1, m, x => sZ (fun k => if 1 ≤ x k ∧ (k = 0 ∨ x (k - 1) < x k - 1) then fsd n m (upF x k (x k - 1)) else 0) m
theorem van_same {x : Nat → Int} {m i j : Nat} (hi : i < j) (hj : j < m) (h : x i = x j) : van x m = 0 := by
  unfold van
  obtain ⟨d, rfl⟩ : ∃ d, m = (j + 1) + d := ⟨m - (j + 1), by omega⟩
  rw [pZ_add, pZ]
  obtain ⟨e, he⟩ : ∃ e, j = (i + 1) + e := ⟨j - (i + 1), by omega⟩
  have : pZ (fun i => x j - x i) j = 0 := by
    conv => lhs; arg 2; rw [he]
    rw [pZ_add, pZ, h, Int.sub_self, Int.mul_zero, Int.zero_mul]
  rw [this, Int.mul_zero, Int.zero_mul]
def fcz (x : Int) : Int := fct x.toNat
theorem fcz_step {x : Int} (h : 1 ≤ x) : x * fcz (x - 1) = fcz x := by
  unfold fcz
  obtain ⟨k, rfl⟩ : ∃ k : Nat, x = k + 1 := ⟨(x - 1).toNat, by omega⟩
  rw [show ((k : Int) + 1 - 1).toNat = k by omega, show ((k : Int) + 1).toNat = k + 1 by omega, fct_succ, Int.mul_comm]
theorem pZ_up (f : Int → Int) (x : Nat → Int) (k : Nat) (z : Int) : ∀ m, k < m → f (x k) * pZ (fun i => f (upF x k z i)) m = f z * pZ (fun i => f (x i)) m
  | 0, h => by omega
  | m + 1, h => by
    rw [pZ, pZ]
    by_cases e : k = m
    · subst e
      rw [pZ_congr k (f := fun i => f (upF x k z i)) (g := fun i => f (x i)) (fun i hi => by unfold upF; rw [if_neg (by omega)])]
      unfold upF
      rw [if_pos rfl]; ac_rfl
    · have ih := pZ_up f x k z m (by omega)
      rw [show upF x k z m = x m by unfold upF; rw [if_neg (fun q => e q.symm)], ← Int.mul_assoc, ih, Int.mul_assoc]
theorem sZ_up (x : Nat → Int) (k : Nat) (z : Int) : ∀ m, k < m → sZ (upF x k z) m = sZ x m + z - x k
  | 0, h => by omega
  | m + 1, h => by
    rw [sZ, sZ]
    by_cases e : k = m
    · subst e
      rw [sZ_congr k (f := upF x k z) (g := x) (fun i hi => by unfold upF; rw [if_neg (by omega)])]
      unfold upF
      rw [if_pos rfl]; omega
    · rw [sZ_up x k z m (by omega), show upF x k z m = x m by unfold upF; rw [if_neg (fun q => e q.symm)]]; omega
theorem sZ_mono {f g : Nat → Int} : ∀ m, (∀ i, i < m → f i ≤ g i) → sZ f m ≤ sZ g m
  | 0, _ => Int.le_refl _
  | m + 1, h => by rw [sZ, sZ]; have := sZ_mono m fun i hi => h i (by omega); have := h m (by omega); omega
theorem sZ_tight {f g : Nat → Int} : ∀ m, (∀ i, i < m → f i ≤ g i) → sZ g m ≤ sZ f m → ∀ i, i < m → f i = g i
  | 0, _, _, i, hi => by omega
  | m + 1, h, hs, i, hi => by
    rw [sZ, sZ] at hs
    have h1 := sZ_mono m fun i hi => h i (by omega)
    have h2 := h m (by omega)
    by_cases e : i = m
    · subst e; omega
    · exact sZ_tight m (fun i hi => h i (by omega)) (by omega) i (by omega)
/-- FRAME, ROBINSON, THRALL, by differences. -/
theorem van_fsd (m : Nat) : ∀ (n : Nat) (x : Nat → Int), (∀ i, i < m → 0 ≤ x i) → (∀ i, i + 1 < m → x i < x (i + 1)) → sZ x m = n + sZ (fun c => (c : Int)) m → fct n * van x m = fsd n m x * pZ (fun k => fcz (x k)) m := by
  intro n
  induction n with
  | zero =>
    intro x h0 h1 hs
    have hge : ∀ i, i < m → (i : Int) ≤ x i := fun i => by
      induction i with
      | zero => intro hi; exact h0 0 hi
      | succ i ih => intro hi; have := ih (by omega); have := h1 i hi; omega
    have he := sZ_tight (f := fun c => (c : Int)) m hge (by rw [hs]; simp)
    rw [fsd, Int.one_mul, show fct 0 = 1 from rfl, Int.one_mul]
    refine pZ_congr m fun j hj => ?_
    rw [← he j hj]
    unfold fcz
    rw [show (j : Int).toNat = j by omega, ← fct_rev]
    exact pZ_congr j fun i hi => by rw [← he i (by omega)]
  | succ n ih =>
    intro x h0 h1 hs
    have h := van_less x m
    rw [hs, show ((n + 1 : Nat) : Int) + sZ (fun c => (c : Int)) m - sZ (fun c => (c : Int)) m = (n : Int) + 1 by omega] at h
    rw [fct_succ, Int.mul_assoc, ← h, ← sZ_mul, fsd, Int.mul_comm (sZ _ m), ← sZ_mul]
    refine sZ_congr m fun k hk => ?_
    by_cases hv : 1 ≤ x k ∧ (k = 0 ∨ x (k - 1) < x k - 1)
    · rw [if_pos hv]
      have e := ih (upF x k (x k - 1)) (fun i hi => by unfold upF; split; omega; exact h0 i hi) (fun i hi => by
        have a1 := h1 i hi
        unfold upF
        by_cases q1 : i = k
        · rw [if_pos q1, if_neg (by omega)]; rw [← q1]; omega
        · rw [if_neg q1]
          by_cases q2 : i + 1 = k
          · rw [if_pos q2]
            rcases hv.2 with q | q
            · omega
            · rw [← q2] at q ⊢; exact q
          · rw [if_neg q2]; exact a1) (by rw [sZ_up x k _ m hk, hs]; omega)
      have e2 := pZ_up fcz x k (x k - 1) m hk
      have e3 := fcz_step hv.1
      have e4 : x k * pZ (fun i => fcz (upF x k (x k - 1) i)) m = pZ (fun i => fcz (x i)) m := by
        have hne : fcz (x k - 1) ≠ 0 := fct_ne _
        refine Int.eq_of_mul_eq_mul_left hne ?_
        rw [← e2, ← e3]; ac_rfl
      calc fct n * (x k * van (upF x k (x k - 1)) m) = x k * (fct n * van (upF x k (x k - 1)) m) := by ac_rfl
        _ = x k * pZ (fun i => fcz (upF x k (x k - 1) i)) m * fsd n m (upF x k (x k - 1)) := by rw [e]; ac_rfl
        _ = pZ (fun k => fcz (x k)) m * fsd n m (upF x k (x k - 1)) := by rw [e4]
    · rw [if_neg hv, Int.mul_zero]
      have hz : x k * van (upF x k (x k - 1)) m = 0 := by
        by_cases q : 1 ≤ x k
        · have q2 : ¬ (k = 0 ∨ x (k - 1) < x k - 1) := fun z => hv ⟨q, z⟩
          have q3 : k ≠ 0 := fun z => q2 (Or.inl z)
          have a1 := h1 (k - 1) (by omega)
          rw [show k - 1 + 1 = k by omega] at a1
          have q4 : x (k - 1) = x k - 1 := by
            have : ¬ x (k - 1) < x k - 1 := fun z => q2 (Or.inr z)
            omega
          rw [van_same (i := k - 1) (j := k) (by omega) hk (by unfold upF; rw [if_neg (by omega), if_pos rfl]; exact q4), Int.mul_zero]
        · have := h0 k hk
          rw [show x k = 0 by omega, Int.zero_mul]
      rw [hz, Int.mul_zero]
/-- .. by hooks. -/
theorem hook_fsd {P : Nat → Nat} (M n : Nat) (h : ∀ i, P (i + 1) ≤ P i) (hs : sZ (fun i => (P i : Int)) M = n) : pZ (fun i => pZ (hk P M i) (P i)) M * fsd n M (fun k => (xs P M k : Int)) = fct n := by
  have h1 := hook_van M h
  have h2 := van_fsd M n (fun k => (xs P M k : Int)) (fun i _ => by omega) (fun i hi => by have := xs_up h i hi; omega) (by
    have e : ∀ m, m ≤ M → sZ (fun k => (xs P M k : Int)) m = sZ (fun k => (P (M - 1 - k) : Int)) m + sZ (fun c => (c : Int)) m := fun m _ => by
      rw [← sZ_add]; exact sZ_congr m fun k _ => by unfold xs; omega
    have e2 : ∀ m, sZ (fun i => (P i : Int)) m = sZ (fun k => (P (m - 1 - k) : Int)) m := fun m => by
      induction m with
      | zero => rfl
      | succ m ih =>
        rw [sZ_shift (fun k => (P (m + 1 - 1 - k) : Int)) m, sZ, ih, Int.add_comm]
        refine congr (congrArg _ (by rw [show m + 1 - 1 - 0 = m by omega])) (sZ_congr m fun i hi => ?_)
        rw [show m + 1 - 1 - (i + 1) = m - 1 - i by omega]
    rw [e M (Nat.le_refl _), ← e2, hs])
  have hv : van (fun k => (xs P M k : Int)) M ≠ 0 := pZ_ne M fun j hj => pZ_ne j fun i hi => by
    have : ∀ d, i + d + 1 < M → xs P M i < xs P M (i + d + 1) := fun d => by
      induction d with
      | zero => intro hd; exact xs_up h i hd
      | succ d ih => intro hd; have := ih (by omega); have := xs_up h (i + d + 1) hd; rw [show i + (d + 1) + 1 = i + d + 1 + 1 by omega]; omega
    have := this (j - i - 1) (by omega)
    rw [show i + (j - i - 1) + 1 = j by omega] at this
    show ((xs P M j : Nat) : Int) - (xs P M i : Nat) ≠ 0
    omega
  have e3 : pZ (fun k => fcz (xs P M k : Int)) M = pZ (fun k => fct (xs P M k)) M := pZ_congr M fun k _ => by unfold fcz; rw [show ((xs P M k : Nat) : Int).toNat = xs P M k by omega]
  rw [e3, ← h1] at h2
  refine Int.eq_of_mul_eq_mul_right hv ?_
  rw [h2]; ac_rfl

end Go.Proofs.YtmbpcapjldbkbaaDoor

namespace Go.Proofs.YtmbpcapjldbkbaaDoor

theorem fsd_congr : ∀ (n m : Nat) {x y : Nat → Int}, (∀ k, k < m → x k = y k) → fsd n m x = fsd n m y
  | 0, _, _, _, _ => rfl
  | n + 1, m, x, y, h => by
    simp only [fsd]
    refine sZ_congr m fun k hk => ?_
    have h1 := h k hk
    have h2 : k = 0 ∨ x (k - 1) = y (k - 1) := by
      rcases Nat.eq_zero_or_pos k with h0 | h0
      · exact .inl h0
      · exact .inr (h (k - 1) (by omega))
    have e : (1 ≤ x k ∧ (k = 0 ∨ x (k - 1) < x k - 1)) ↔ (1 ≤ y k ∧ (k = 0 ∨ y (k - 1) < y k - 1)) := by
      rcases h2 with h2 | h2
      · rw [h1]; simp [h2]
      · rw [h1, h2]
    have ef : fsd n m (upF x k (x k - 1)) = fsd n m (upF y k (y k - 1)) := fsd_congr n m fun q hq => by
      unfold upF
      split
      · rw [h1]
      · exact h q hq
    by_cases hc : 1 ≤ x k ∧ (k = 0 ∨ x (k - 1) < x k - 1)
    · rw [if_pos hc, if_pos (e.1 hc), ef]
    · rw [if_neg hc, if_neg (fun c => hc (e.2 c))]

theorem sZ_rev (f : Nat → Int) : ∀ n, sZ f n = sZ (fun i => f (n - 1 - i)) n
  | 0 => rfl
  | n + 1 => by
    have h : ∀ (g : Nat → Int) (m : Nat), sZ g (m + 1) = g 0 + sZ (fun i => g (i + 1)) m := by
      intro g m
      induction m with
      | zero => simp [sZ]
      | succ m ih => rw [sZ, ih, sZ]; omega
    rw [h (fun i => f (n + 1 - 1 - i)), sZ, sZ_rev f n]
    rw [Int.add_comm]
    congr 1
    exact sZ_congr n fun i hi => by congr 1; omega

/-- One box less in row i. -/
def lessB (P : Nat → Nat) (i : Nat) : Nat → Nat := fun r => if r = i then P i - 1 else P r

theorem fsd_rows {P : Nat → Nat} {M : Nat} (n : Nat) (h0 : P M = 0) :
    fsd (n + 1) M (fun k => (xs P M k : Int)) = sZ (fun i => if P (i + 1) < P i then fsd n M (fun k => (xs (lessB P i) M k : Int)) else 0) M := by
  simp only [fsd]
  rw [sZ_rev]
  refine sZ_congr M fun i hi => ?_
  have hx : xs P M (M - 1 - i) = P i + (M - 1 - i) := by unfold xs; congr 1; congr 1; omega
  have hc : (1 ≤ ((xs P M (M - 1 - i) : Nat) : Int) ∧ (M - 1 - i = 0 ∨ ((xs P M (M - 1 - i - 1) : Nat) : Int) < ((xs P M (M - 1 - i) : Nat) : Int) - 1)) ↔ P (i + 1) < P i := by
    rw [hx]
    rcases Nat.eq_zero_or_pos (M - 1 - i) with hz | hz
    · have : i + 1 = M := by omega
      rw [this, h0, hz]
      constructor
      · intro ⟨a, _⟩; omega
      · intro a; exact ⟨by omega, .inl rfl⟩
    · have hx1 : xs P M (M - 1 - i - 1) = P (i + 1) + (M - 1 - i - 1) := by unfold xs; congr 1; congr 1; omega
      rw [hx1]
      omega
  by_cases hd : P (i + 1) < P i
  · rw [if_pos (hc.2 hd), if_pos hd]
    refine fsd_congr n M fun k hk => ?_
    unfold upF
    by_cases hki : k = M - 1 - i
    · have : M - 1 - k = i := by omega
      rw [if_pos hki, hx]
      unfold xs lessB
      rw [if_pos this]
      omega
    · rw [if_neg hki]
      unfold xs lessB
      rw [if_neg (by omega)]
  · rw [if_neg (fun c => hd (hc.1 c)), if_neg hd]

/-- One box more in row i. -/
def moreB (P : Nat → Nat) (i : Nat) : Nat → Nat := fun r => if r = i then P i + 1 else P r
def eqB (m : Nat) (x y : Nat → Nat) : Prop := ∀ i, i < m → x i = y i
instance (m : Nat) (x y : Nat → Nat) : Decidable (eqB m x y) := inferInstanceAs (Decidable (∀ i, i < m → x i = y i))
/-- Ways up from x to y, and ways down. -/
def wUp (m : Nat) : Nat → (Nat → Nat) → (Nat → Nat) → Int
  | 0, x, y => if eqB m x y then 1 else 0
  | n + 1, x, y => sZ (fun i => if x i < y i ∧ (i = 0 ∨ x i < x (i - 1)) then wUp m n (moreB x i) y else 0) m
def wDn (m : Nat) : Nat → (Nat → Nat) → (Nat → Nat) → Int
  | 0, x, y => if eqB m x y then 1 else 0
  | n + 1, x, y => sZ (fun k => if y (k + 1) < y k ∧ x k < y k then wDn m n x (lessB y k) else 0) m

theorem sZ_if (c : Prop) [Decidable c] (f : Nat → Int) (n : Nat) : (if c then sZ f n else 0) = sZ (fun i => if c then f i else 0) n := by
  split
  · rfl
  · exact (sZ_zero fun _ _ => rfl).symm
theorem moreB_anti {x : Nat → Nat} {i : Nat} (h : ∀ i, x (i + 1) ≤ x i) (hi : i = 0 ∨ x i < x (i - 1)) : ∀ r, moreB x i (r + 1) ≤ moreB x i r := fun r => by
  unfold moreB
  have := h r
  by_cases h1 : r + 1 = i
  · have h2 : r ≠ i := by omega
    have h3 : i - 1 = r := by omega
    rw [if_pos h1, if_neg h2]
    rw [h3] at hi
    omega
  · rw [if_neg h1]
    split
    · subst r; omega
    · exact this
theorem lessB_anti {y : Nat → Nat} {k : Nat} (h : ∀ i, y (i + 1) ≤ y i) (hk : y (k + 1) < y k) : ∀ r, lessB y k (r + 1) ≤ lessB y k r := fun r => by
  unfold lessB
  have := h r
  by_cases h1 : r = k
  · subst r
    rw [if_pos rfl, if_neg (by omega)]
    omega
  · rw [if_neg h1]
    split
    · subst k; omega
    · exact this

theorem up_dn (m : Nat) : ∀ (n : Nat) (x y : Nat → Nat), (∀ i, x (i + 1) ≤ x i) → (∀ i, y (i + 1) ≤ y i) → y m = 0 → wUp m n x y = wDn m n x y
  | 0, _, _, _, _, _ => rfl
  | 1, x, y, hx, hy, hm => by
    simp only [wUp, wDn]
    refine sZ_congr m fun i hi => ?_
    have e1 : (x i < y i ∧ (i = 0 ∨ x i < x (i - 1))) ∧ eqB m (moreB x i) y ↔ (y (i + 1) < y i ∧ x i < y i) ∧ eqB m x (lessB y i) := by
      constructor
      · intro ⟨⟨a, b⟩, c⟩
        have ci := c i hi
        unfold moreB at ci; rw [if_pos rfl] at ci
        have c1 : y (i + 1) < y i := by
          by_cases h1 : i + 1 < m
          · have := c (i + 1) h1
            unfold moreB at this; rw [if_neg (by omega)] at this
            have := hx i
            omega
          · have : i + 1 = m := by omega
            rw [this, hm]; omega
        refine ⟨⟨c1, a⟩, fun r hr => ?_⟩
        have cr := c r hr
        unfold moreB at cr; unfold lessB
        by_cases h1 : r = i
        · subst r; rw [if_pos rfl]; omega
        · rw [if_neg h1] at cr ⊢; exact cr
      · intro ⟨⟨a, b⟩, c⟩
        have ci := c i hi
        unfold lessB at ci; rw [if_pos rfl] at ci
        refine ⟨⟨b, ?_⟩, fun r hr => ?_⟩
        · rcases Nat.eq_zero_or_pos i with h0 | h0
          · exact .inl h0
          · have := c (i - 1) (by omega)
            unfold lessB at this; rw [if_neg (by omega)] at this
            have h2 := hy (i - 1)
            rw [show i - 1 + 1 = i by omega] at h2
            exact .inr (by omega)
        · have cr := c r hr
          unfold lessB at cr; unfold moreB
          by_cases h1 : r = i
          · subst r; rw [if_pos rfl]; omega
          · rw [if_neg h1] at cr ⊢; exact cr
    by_cases h : (x i < y i ∧ (i = 0 ∨ x i < x (i - 1))) ∧ eqB m (moreB x i) y
    · have h' := e1.1 h
      rw [if_pos h.1, if_pos h.2, if_pos h'.1, if_pos h'.2]
    · have h' : ¬ _ := fun c => h (e1.2 c)
      have l : ∀ (c d : Prop) [Decidable c] [Decidable d], ¬ (c ∧ d) → (if c then (if d then (1 : Int) else 0) else 0) = 0 := by
        intro c d _ _ hn
        split
        · split
          · exact absurd ⟨‹_›, ‹_›⟩ hn
          · rfl
        · rfl
      rw [l _ _ h, l _ _ h']
  | n + 2, x, y, hx, hy, hm => by
    have eL : wUp m (n + 2) x y = sZ (fun i => sZ (fun k => if x i < y i ∧ (i = 0 ∨ x i < x (i - 1)) then (if y (k + 1) < y k ∧ moreB x i k < y k then wDn m n (moreB x i) (lessB y k) else 0) else 0) m) m := by
      rw [wUp]
      refine sZ_congr m fun i hi => ?_
      rw [← sZ_if]
      by_cases h : x i < y i ∧ (i = 0 ∨ x i < x (i - 1))
      · rw [if_pos h, if_pos h, up_dn m (n + 1) (moreB x i) y (moreB_anti hx h.2) hy hm, wDn]
      · rw [if_neg h, if_neg h]
    have eR : wDn m (n + 2) x y = sZ (fun k => sZ (fun i => if y (k + 1) < y k ∧ x k < y k then (if x i < lessB y k i ∧ (i = 0 ∨ x i < x (i - 1)) then wUp m n (moreB x i) (lessB y k) else 0) else 0) m) m := by
      rw [wDn]
      refine sZ_congr m fun k hk => ?_
      rw [← sZ_if]
      by_cases h : y (k + 1) < y k ∧ x k < y k
      · rw [if_pos h, if_pos h, ← up_dn m (n + 1) x (lessB y k) hx (lessB_anti hy h.1) (by unfold lessB; rw [if_neg (by omega)]; exact hm), wUp]
      · rw [if_neg h, if_neg h]
    rw [eL, eR, sZ_swap]
    refine sZ_congr m fun k hk => sZ_congr m fun i hi => ?_
    have e : (x i < y i ∧ (i = 0 ∨ x i < x (i - 1))) ∧ (y (k + 1) < y k ∧ moreB x i k < y k) ↔ (y (k + 1) < y k ∧ x k < y k) ∧ (x i < lessB y k i ∧ (i = 0 ∨ x i < x (i - 1))) := by
      unfold moreB lessB
      by_cases h1 : k = i
      · subst k
        rw [if_pos rfl, if_pos rfl]
        omega
      · rw [if_neg h1, if_neg (fun e => h1 e.symm)]
        omega
    have l : ∀ (c d : Prop) [Decidable c] [Decidable d] (v : Int), (if c then (if d then v else 0) else 0) = if c ∧ d then v else 0 := by
      intro c d _ _ v
      by_cases hc : c
      · by_cases hd : d
        · rw [if_pos hc, if_pos hd, if_pos ⟨hc, hd⟩]
        · rw [if_pos hc, if_neg hd, if_neg (fun q => hd q.2)]
      · rw [if_neg hc, if_neg (fun q => hc q.1)]
    rw [l, l]
    by_cases h : (x i < y i ∧ (i = 0 ∨ x i < x (i - 1))) ∧ (y (k + 1) < y k ∧ moreB x i k < y k)
    · rw [if_pos h, if_pos (e.1 h)]
      exact (up_dn m n _ _ (moreB_anti hx h.1.2) (lessB_anti hy h.2.1) (by unfold lessB; rw [if_neg (by omega)]; exact hm)).symm
    · rw [if_neg h, if_neg (fun q => h (e.2 q))]

theorem sum_dn {y : Nat → Nat} {k : Nat} (h : 0 < y k) : ∀ m, k < m → sZ (fun i => (lessB y k i : Int)) m = sZ (fun i => (y i : Int)) m - 1
  | 0, hk => absurd hk (Nat.not_lt_zero k)
  | m + 1, hk => by
    simp only [sZ]
    by_cases h1 : k = m
    · subst k
      rw [sZ_congr (f := fun i => (lessB y m i : Int)) (g := fun i => (y i : Int)) m fun i hi => by unfold lessB; rw [if_neg (by omega)]]
      unfold lessB; rw [if_pos rfl]; omega
    · rw [sum_dn h m (by omega)]
      unfold lessB; rw [if_neg (by omega)]; omega

theorem dn_fsd (m : Nat) : ∀ (n : Nat) (y : Nat → Nat), y m = 0 → sZ (fun i => (y i : Int)) m = n → wDn m n (fun _ => 0) y = fsd n m (fun k => (xs y m k : Int))
  | 0, y, _, hs => by
    have ht := sZ_tight (f := fun _ => 0) (g := fun i => (y i : Int)) m (fun i _ => by omega) (by rw [hs, sZ_zero fun _ _ => rfl]; exact Int.le_refl _)
    have he : eqB m (fun _ => 0) y := fun i hi => by have := ht i hi; show 0 = y i; omega
    rw [wDn, if_pos he]
    rfl
  | n + 1, y, hm, hs => by
    rw [wDn, fsd_rows n hm]
    refine sZ_congr m fun k hk => ?_
    by_cases h : y (k + 1) < y k
    · rw [if_pos ⟨h, by omega⟩, if_pos h]
      exact dn_fsd m n (lessB y k) (by unfold lessB; rw [if_neg (by omega)]; exact hm) (by rw [sum_dn (by omega) m hk, hs]; omega)
    · rw [if_neg (fun q => h q.1), if_neg h]

/-- As many ways lead up, letter by letter, as there are standard tableaux. -/
theorem up_fsd {m n : Nat} {y : Nat → Nat} (hy : ∀ i, y (i + 1) ≤ y i) (hm : y m = 0) (hs : sZ (fun i => (y i : Int)) m = n) : wUp m n (fun _ => 0) y = fsd n m (fun k => (xs y m k : Int)) := by
  rw [up_dn m n _ y (fun _ => Nat.le_refl _) hy hm, dn_fsd m n y hm hs]

end Go.Proofs.YtmbpcapjldbkbaaDoor
