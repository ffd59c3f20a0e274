/-
  Sums, products and determinants of whole numbers, as functions of their places.
-/
namespace Go.Proofs.YtpdlhnniibjfaaiDoor

/-- A sum of n numbers. -/
def sZ (f : Nat → Int) : Nat → Int
  | 0 => 0
  | n + 1 => sZ f n + f n
/-- A product of n numbers. -/
def pZ (f : Nat → Int) : Nat → Int
  | 0 => 1
  | n + 1 => pZ f n * f n
theorem sZ_congr {f g : Nat → Int} : ∀ n, (∀ i, i < n → f i = g i) → sZ f n = sZ g n
  | 0, _ => rfl
  | n + 1, h => by rw [sZ, sZ, sZ_congr n (fun i hi => h i (by omega)), h n (by omega)]
theorem pZ_congr {f g : Nat → Int} : ∀ n, (∀ i, i < n → f i = g i) → pZ f n = pZ g n
  | 0, _ => rfl
  | n + 1, h => by rw [pZ, pZ, pZ_congr n (fun i hi => h i (by omega)), h n (by omega)]
theorem sZ_add (f g : Nat → Int) : ∀ n, sZ (fun i => f i + g i) n = sZ f n + sZ g n
  | 0 => rfl
  | n + 1 => by rw [sZ, sZ, sZ, sZ_add f g n]; omega
theorem sZ_mul (c : Int) (f : Nat → Int) : ∀ n, sZ (fun i => c * f i) n = c * sZ f n
  | 0 => by simp [sZ]
  | n + 1 => by rw [sZ, sZ, sZ_mul c f n, Int.mul_add]
theorem sZ_zero {f : Nat → Int} {n : Nat} (h : ∀ i, i < n → f i = 0) : sZ f n = 0 := by
  induction n with
  | zero => rfl
  | succ n ih => rw [sZ, ih (fun i hi => h i (by omega)), h n (by omega)]; rfl
theorem sZ_one {f : Nat → Int} {k : Nat} : ∀ n, k < n → (∀ i, i < n → i ≠ k → f i = 0) → sZ f n = f k := by
  intro n
  induction n with
  | zero => intro h _; omega
  | succ n ih =>
    intro hk h
    rw [sZ]
    by_cases e : k = n
    · subst e; rw [sZ_zero (fun i hi => h i (by omega) (by omega)), Int.zero_add]
    · rw [ih (by omega) (fun i hi hne => h i (by omega) hne), h n (by omega) (fun q => e q.symm), Int.add_zero]
theorem sZ_two {f : Nat → Int} {k : Nat} : ∀ n, k + 1 < n → (∀ i, i < n → i ≠ k → i ≠ k + 1 → f i = 0) → sZ f n = f k + f (k + 1) := by
  intro n
  induction n with
  | zero => intro h _; omega
  | succ n ih =>
    intro hk h
    rw [sZ]
    by_cases e : k + 1 = n
    · subst e; rw [sZ_one (k := k) (k + 1) (by omega) (fun i hi hne => h i (by omega) hne (by omega))]
    · rw [ih (by omega) (fun i hi h1 h2 => h i (by omega) h1 h2), h n (by omega) (by omega) (fun q => e q.symm), Int.add_zero]
theorem sZ_swap (f : Nat → Nat → Int) (m : Nat) : ∀ n, sZ (fun i => sZ (f i) m) n = sZ (fun j => sZ (fun i => f i j) n) m
  | 0 => by simp only [sZ]; rw [sZ_zero (fun _ _ => rfl)]
  | n + 1 => by rw [sZ, sZ_swap f m n, ← sZ_add]; rfl
theorem sZ_shift (f : Nat → Int) : ∀ n, sZ f (n + 1) = f 0 + sZ (fun i => f (i + 1)) n
  | 0 => by simp [sZ]
  | n + 1 => by rw [sZ, sZ_shift f n, sZ]; omega
theorem pZ_shift (f : Nat → Int) : ∀ n, pZ f (n + 1) = f 0 * pZ (fun i => f (i + 1)) n
  | 0 => by simp [pZ]
  | n + 1 => by rw [pZ, pZ_shift f n, pZ, Int.mul_assoc]
theorem pZ_mul (f g : Nat → Int) : ∀ n, pZ (fun i => f i * g i) n = pZ f n * pZ g n
  | 0 => rfl
  | n + 1 => by rw [pZ, pZ, pZ, pZ_mul f g n]; ac_rfl
theorem pZ_add (f : Nat → Int) (m : Nat) : ∀ n, pZ f (m + n) = pZ f m * pZ (fun i => f (m + i)) n
  | 0 => by simp [pZ]
  | n + 1 => by rw [← Nat.add_assoc, pZ, pZ_add f m n, pZ, Int.mul_assoc]

/-- The sign of place i. -/
def sg : Nat → Int
  | 0 => 1
  | i + 1 => - sg i
/-- Place r, place i left out. -/
def skp (i r : Nat) : Nat := if r < i then r else r + 1
def psn (i k : Nat) : Nat := if k < i then k else k - 1
theorem skp_psn {i k r : Nat} (h : i ≠ k) : skp i r = k ↔ r = psn i k := by
  unfold skp psn
  split <;> split <;> omega
theorem skp_ne (i r : Nat) : skp i r ≠ i := by unfold skp; split <;> omega
theorem pZ_skp (d : Nat → Int) : ∀ n i, i ≤ n → d i * pZ (fun r => d (skp i r)) n = pZ d (n + 1) := by
  intro n
  induction n with
  | zero => intro i hi; obtain rfl : i = 0 := by omega
            simp [pZ]
  | succ n ih =>
    intro i hi
    by_cases e : i = n + 1
    · subst e
      rw [pZ_congr (n + 1) (g := d) (fun r hr => by rw [skp, if_pos hr]), pZ, pZ, pZ]; ac_rfl
    · rw [pZ, ← Int.mul_assoc, ih i (by omega), show skp i n = n + 1 by unfold skp; rw [if_neg (by omega)]]
      rfl

/-- The determinant, by its first column. -/
def det : Nat → (Nat → Nat → Int) → Int
  | 0, _ => 1
  | n + 1, A => sZ (fun i => sg i * (A i 0 * det n (fun r c => A (skp i r) (c + 1)))) (n + 1)
theorem det_congr : ∀ n {A B : Nat → Nat → Int}, (∀ r c, r < n → c < n → A r c = B r c) → det n A = det n B
  | 0, _, _, _ => rfl
  | n + 1, A, B, h => by
    rw [det, det]
    refine sZ_congr _ (fun i hi => ?_)
    rw [h i 0 hi (by omega), det_congr n (A := fun r c => A (skp i r) (c + 1)) (B := fun r c => B (skp i r) (c + 1)) (fun r c hr hc => h _ _ (by unfold skp; split <;> omega) (by omega))]
/-- Row k becomes u. -/
def rpR (A : Nat → Nat → Int) (k : Nat) (u : Nat → Int) : Nat → Nat → Int := fun r c => if r = k then u c else A r c
theorem minor_rp (A : Nat → Nat → Int) {i k : Nat} (u : Nat → Int) (h : i ≠ k) : (fun r c => rpR A k u (skp i r) (c + 1)) = rpR (fun r c => A (skp i r) (c + 1)) (psn i k) (fun c => u (c + 1)) := by
  funext r c
  unfold rpR
  by_cases e : skp i r = k
  · rw [if_pos e, if_pos ((skp_psn h).1 e)]
  · rw [if_neg e, if_neg (fun q => e ((skp_psn h).2 q))]
theorem minor_self (A : Nat → Nat → Int) (k : Nat) (u : Nat → Int) : (fun r c => rpR A k u (skp k r) (c + 1)) = fun r c => A (skp k r) (c + 1) := by
  funext r c
  unfold rpR
  rw [if_neg (skp_ne k r)]
/-- It is linear in each row. -/
theorem det_lin : ∀ (n : Nat) (A : Nat → Nat → Int) (k : Nat) (a b : Int) (u v : Nat → Int), k < n → det n (rpR A k (fun c => a * u c + b * v c)) = a * det n (rpR A k u) + b * det n (rpR A k v) := by
  intro n
  induction n with
  | zero => intro A k a b u v hk; omega
  | succ n ih =>
    intro A k a b u v hk
    rw [det, det, det, ← sZ_mul, ← sZ_mul, ← sZ_add]
    refine sZ_congr _ (fun i hi => ?_)
    by_cases e : i = k
    · subst e
      rw [minor_self, minor_self, minor_self]
      simp only [rpR, if_pos]
      generalize det n _ = D
      rw [Int.add_mul, Int.mul_add]
      ac_rfl
    · rw [minor_rp A _ e, minor_rp A _ e, minor_rp A _ e]
      have hp : psn i k < n := by unfold psn; split <;> omega
      rw [ih _ _ a b (fun c => u (c + 1)) (fun c => v (c + 1)) hp]
      simp only [rpR, if_neg e]
      rw [Int.mul_add, Int.mul_add]
      ac_rfl
theorem rpR_self (A : Nat → Nat → Int) (k : Nat) : rpR A k (A k) = A := by
  funext r c
  unfold rpR
  by_cases e : r = k
  · rw [if_pos e, e]
  · rw [if_neg e]
/-- Two rows that follow each other are the same: 0. -/
theorem det_alt : ∀ (n : Nat) (A : Nat → Nat → Int) (k : Nat), k + 1 < n → (∀ c, A k c = A (k + 1) c) → det n A = 0 := by
  intro n
  induction n with
  | zero => intro A k hk; omega
  | succ n ih =>
    intro A k hk h
    rw [det, sZ_two (k := k) (n + 1) hk (fun i hi h1 h2 => ?_)]
    · have e : det n (fun r c => A (skp k r) (c + 1)) = det n (fun r c => A (skp (k + 1) r) (c + 1)) := by
        refine det_congr n (fun r c hr _ => ?_)
        unfold skp
        by_cases e1 : r < k
        · rw [if_pos e1, if_pos (by omega)]
        · by_cases e2 : r = k
          · subst e2; rw [if_neg (by omega), if_pos (by omega)]; exact (h _).symm
          · rw [if_neg e1, if_neg (by omega)]
      rw [e, h 0, show sg (k + 1) = - sg k from rfl, Int.neg_mul]
      omega
    · have e : det n (fun r c => A (skp i r) (c + 1)) = 0 := by
        refine ih _ (psn i k) (by unfold psn; split <;> omega) (fun c => ?_)
        have e1 : skp i (psn i k) = k := (skp_psn h1).2 rfl
        have e2 : psn i k + 1 = psn i (k + 1) := by unfold psn; split <;> split <;> omega
        have e3 : skp i (psn i k + 1) = k + 1 := by rw [e2]; exact (skp_psn h2).2 rfl
        rw [e1, e3]; exact h _
      rw [e, Int.mul_zero, Int.mul_zero]
/-- A row is added to the next one, so many times. -/
theorem det_addrow {n : Nat} (A : Nat → Nat → Int) {k : Nat} (a : Int) (hk : k + 1 < n) : det n (rpR A (k + 1) (fun c => A (k + 1) c + a * A k c)) = det n A := by
  have h := det_lin n A (k + 1) 1 a (A (k + 1)) (A k) hk
  rw [rpR_self, det_alt n (rpR A (k + 1) (A k)) k hk (fun c => by simp [rpR])] at h
  rw [show (fun c => A (k + 1) c + a * A k c) = fun c => 1 * A (k + 1) c + a * A k c from funext fun c => by rw [Int.one_mul], h]
  omega
/-- From row j on each row without the one ahead. -/
def difM (A : Nat → Nat → Int) (j : Nat) : Nat → Nat → Int := fun r c => if r < j then A r c else A r c - A (r - 1) c
theorem det_dif (n : Nat) (A : Nat → Nat → Int) : ∀ d j, j + d = n → 1 ≤ j → det n (difM A j) = det n A := by
  intro d
  induction d with
  | zero => intro j hj _; exact det_congr n (fun r c hr _ => by unfold difM; rw [if_pos (by omega)])
  | succ d ih =>
    intro j hj h1
    rw [← ih (j + 1) (by omega) (by omega)]
    obtain ⟨k, rfl⟩ : ∃ k, j = k + 1 := ⟨j - 1, by omega⟩
    rw [← det_addrow (difM A (k + 1 + 1)) (k := k) (-1) (by omega)]
    refine det_congr n (fun r c _ _ => ?_)
    unfold rpR difM
    by_cases e : r = k + 1
    · subst e
      rw [if_neg (by omega), if_pos rfl]
      dsimp only
      rw [if_pos (by omega), if_pos (by omega), show k + 1 - 1 = k by omega]; omega
    · rw [if_neg e]
      by_cases e2 : r < k + 1
      · rw [if_pos e2, if_pos (by omega)]
      · rw [if_neg e2, if_neg (by omega)]
/-- The first column is 1 throughout. -/
theorem det_ones (n : Nat) (A : Nat → Nat → Int) (h : ∀ r, r < n + 1 → A r 0 = 1) : det (n + 1) A = det n (fun r c => A (r + 1) (c + 1) - A r (c + 1)) := by
  rw [← det_dif (n + 1) A n 1 (by omega) (by omega), det, sZ_one (k := 0) (n + 1) (by omega) (fun i hi hne => ?_)]
  · have e0 : difM A 1 0 0 = 1 := by unfold difM; rw [if_pos (by omega)]; exact h 0 (by omega)
    rw [e0, show sg 0 = 1 from rfl, Int.one_mul, Int.one_mul]
    refine det_congr n (fun r c _ _ => ?_)
    have e1 : skp 0 r = r + 1 := by unfold skp; rw [if_neg (by omega)]
    unfold difM
    rw [e1, if_neg (by omega)]; rfl
  · have e0 : difM A 1 i 0 = 0 := by
      unfold difM; rw [if_neg (by omega), h i hi, h (i - 1) (by omega)]; rfl
    rw [e0, Int.zero_mul, Int.mul_zero]
/-- Each row times a number. -/
theorem det_rows : ∀ (n : Nat) (d : Nat → Int) (A : Nat → Nat → Int), det n (fun r c => d r * A r c) = pZ d n * det n A := by
  intro n
  induction n with
  | zero => intro d A; rfl
  | succ n ih =>
    intro d A
    rw [det, det, ← sZ_mul]
    refine sZ_congr _ (fun i hi => ?_)
    rw [ih (fun r => d (skp i r)) (fun r c => A (skp i r) (c + 1)), ← pZ_skp d n i (by omega)]
    ac_rfl
/-- Each column times a number. -/
theorem det_cols : ∀ (n : Nat) (d : Nat → Int) (A : Nat → Nat → Int), det n (fun r c => d c * A r c) = pZ d n * det n A := by
  intro n
  induction n with
  | zero => intro d A; rfl
  | succ n ih =>
    intro d A
    rw [det, det, ← sZ_mul]
    refine sZ_congr _ (fun i hi => ?_)
    rw [ih (fun c => d (c + 1)) (fun r c => A (skp i r) (c + 1)), pZ_shift]
    ac_rfl
/-- A row that is a sum. -/
theorem det_sum {n : Nat} (A : Nat → Nat → Int) {k : Nat} (u : Nat → Nat → Int) (hk : k < n) : ∀ m, det n (rpR A k (fun c => sZ (fun t => u t c) m)) = sZ (fun t => det n (rpR A k (u t))) m := by
  intro m
  induction m with
  | zero =>
    have h := det_lin n A k 0 0 (fun _ => 0) (fun _ => 0) hk
    simp only [sZ]
    simpa using h
  | succ m ih =>
    rw [sZ, ← ih]
    have h := det_lin n A k 1 1 (fun c => sZ (fun t => u t c) m) (u m) hk
    rw [Int.one_mul, Int.one_mul] at h
    rw [← h]
    exact congrArg (fun f => det n (rpR A k f)) (funext fun c => by simp only [sZ]; omega)
/-- The rows, one by one, each column times a number, come to the determinant times their sum. -/
theorem det_trace : ∀ (n : Nat) (d : Nat → Int) (A : Nat → Nat → Int), sZ (fun k => det n (rpR A k (fun c => d c * A k c))) n = sZ d n * det n A := by
  intro n
  induction n with
  | zero => intro d A; rfl
  | succ n ih =>
    intro d A
    have e1 : ∀ k, k < n + 1 → det (n + 1) (rpR A k (fun c => d c * A k c)) = sZ (fun i => if i = k then d 0 * (sg i * (A i 0 * det n (fun r c => A (skp i r) (c + 1)))) else sg i * (A i 0 * det n (rpR (fun r c => A (skp i r) (c + 1)) (psn i k) (fun c => d (c + 1) * A k (c + 1))))) (n + 1) := fun k hk => by
      rw [det]
      refine sZ_congr _ (fun i hi => ?_)
      by_cases e : i = k
      · subst e
        rw [if_pos rfl, minor_self]
        simp only [rpR, if_pos]
        ac_rfl
      · rw [if_neg e, minor_rp A _ e]
        simp only [rpR, if_neg e]
    rw [sZ_congr (n + 1) e1, sZ_swap, det, ← sZ_mul]
    refine sZ_congr _ (fun i hi => ?_)
    have e2 : ∀ (X : Int) (f : Nat → Int) m, i ≤ m → sZ (fun k => if i = k then X else f (psn i k)) (m + 1) = X + sZ f m := by
      intro X f m
      induction m with
      | zero => intro h; obtain rfl : i = 0 := by omega
                simp [sZ]
      | succ m ihm =>
        intro h
        by_cases e : i = m + 1
        · subst e
          rw [sZ, if_pos rfl, sZ_congr (m + 1) (g := f) (fun k hk => by rw [if_neg (by omega)]; unfold psn; rw [if_pos hk])]
          omega
        · rw [sZ, ihm (by omega), if_neg e, sZ, show psn i (m + 1) = m by unfold psn; rw [if_neg (by omega)]; omega]
          omega
    obtain ⟨F, hF⟩ : ∃ F : Nat → Int, ∀ q, F q = sg i * (A i 0 * det n (rpR (fun r c => A (skp i r) (c + 1)) q (fun c => d (c + 1) * A (skp i q) (c + 1)))) := ⟨_, fun _ => rfl⟩
    have e3 : ∀ k, k < n + 1 → (if i = k then d 0 * (sg i * (A i 0 * det n (fun r c => A (skp i r) (c + 1)))) else sg i * (A i 0 * det n (rpR (fun r c => A (skp i r) (c + 1)) (psn i k) (fun c => d (c + 1) * A k (c + 1))))) = (if i = k then d 0 * (sg i * (A i 0 * det n (fun r c => A (skp i r) (c + 1)))) else F (psn i k)) := fun k _ => by
      by_cases e : i = k
      · rw [if_pos e, if_pos e]
      · rw [if_neg e, if_neg e, hF, (skp_psn e).2 rfl]
    rw [sZ_congr (n + 1) e3, e2 _ F n (by omega), sZ_congr n (fun q _ => hF q), sZ_mul, sZ_mul, ih (fun c => d (c + 1)) (fun r c => A (skp i r) (c + 1)), sZ_shift d n, Int.add_mul]
    ac_rfl

end Go.Proofs.YtpdlhnniibjfaaiDoor
