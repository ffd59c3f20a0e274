/-
  Products of differences: by determinants, and by what lies between.
-/
import Derived.Test.YtpdlhnniibjfaaiDoorHDet
namespace Go.Proofs.YtpdlhnniibjfaaiDoor

/-- x (x - 1) .., so many factors. -/
def nwt (x : Int) : Nat → Int
  | 0 => 1
  | j + 1 => nwt x j * (x - j)
theorem nwt_succ (z : Int) : ∀ c, nwt (z + 1) (c + 1) = (z + 1) * nwt z c
  | 0 => by simp [nwt]
  | c + 1 => by
    rw [nwt, nwt_succ z c, nwt, Int.mul_assoc]
    rw [show z + 1 - ((c + 1 : Nat) : Int) = z - c by omega]
theorem nwt_dif (z : Int) (c : Nat) : nwt (z + 1) (c + 1) - nwt z (c + 1) = ((c : Int) + 1) * nwt z c := by
  rw [nwt_succ, nwt, Int.mul_comm (nwt z c), ← Int.sub_mul]
  congr 1; omega
theorem nwt_sum (a : Int) (c : Nat) : ∀ w, ((c : Int) + 1) * sZ (fun t => nwt (a + t) c) w = nwt (a + w) (c + 1) - nwt a (c + 1)
  | 0 => by simp [sZ]
  | w + 1 => by
    rw [sZ, Int.mul_add, nwt_sum a c w, ← nwt_dif, show a + ((w + 1 : Nat) : Int) = a + w + 1 by omega]; omega

/-- What is between, divided. -/
def ddf (x : Nat → Int) : Nat → Nat → Nat → Int
  | 0, 0, _ => 1
  | 0, _ + 1, _ => 0
  | j + 1, 0, i => (x i - j) * ddf x j 0 i
  | j + 1, s + 1, i => (x (i + (s + 1)) - j) * ddf x j (s + 1) i + ddf x j s i
theorem ddf_zero (x : Nat → Int) (i : Nat) : ∀ j, ddf x j 0 i = nwt (x i) j
  | 0 => rfl
  | j + 1 => by rw [ddf, ddf_zero x i j, nwt, Int.mul_comm]
theorem ddf_step (x : Nat → Int) : ∀ j s i, ddf x j s (i + 1) - ddf x j s i = (x (i + s + 1) - x i) * ddf x j (s + 1) i
  | 0, 0, i => by simp [ddf]
  | 0, s + 1, i => by simp [ddf]
  | j + 1, 0, i => by
    have h := ddf_step x j 0 i
    rw [ddf, ddf, ddf]
    rw [Nat.add_zero] at h ⊢
    rw [Int.mul_add, show (x (i + 1) - x i) * ((x (i + (0 + 1)) - (j : Int)) * ddf x j (0 + 1) i) = (x (i + 1) - (j : Int)) * ((x (i + 1) - x i) * ddf x j (0 + 1) i) by rw [Nat.zero_add]; ac_rfl, ← h]
    rw [Int.mul_sub, Int.sub_mul (x (i + 1)) (x i), Int.sub_mul, Int.sub_mul, Int.sub_mul]
    omega
  | j + 1, s + 1, i => by
    have h1 := ddf_step x j (s + 1) i
    have h2 := ddf_step x j s i
    rw [ddf, ddf, ddf, Int.mul_add]
    rw [show i + 1 + (s + 1) = i + (s + 1) + 1 by omega, show i + (s + 1 + 1) = i + (s + 1) + 1 by omega]
    rw [show (x (i + (s + 1) + 1) - x i) * ((x (i + (s + 1) + 1) - (j : Int)) * ddf x j (s + 1 + 1) i) = (x (i + (s + 1) + 1) - (j : Int)) * ((x (i + (s + 1) + 1) - x i) * ddf x j (s + 1 + 1) i) by ac_rfl, ← h1]
    rw [show i + s + 1 = i + (s + 1) by omega] at h2
    rw [show (x (i + (s + 1) + 1) - x i) * ddf x j (s + 1) i = (x (i + (s + 1) + 1) - x (i + (s + 1))) * ddf x j (s + 1) i + (x (i + (s + 1)) - x i) * ddf x j (s + 1) i by rw [← Int.add_mul]; congr 1; omega, ← h2]
    rw [Int.mul_sub, Int.sub_mul (x (i + (s + 1) + 1)) (x (i + (s + 1))), Int.sub_mul _ _ (ddf x j (s + 1) (i + 1)), Int.sub_mul _ _ (ddf x j (s + 1) i), Int.sub_mul _ _ (ddf x j (s + 1) i)]
    omega
theorem ddf_low (x : Nat → Int) : ∀ j s i, j < s → ddf x j s i = 0
  | 0, 0, i, h => by omega
  | 0, s + 1, i, h => rfl
  | j + 1, 0, i, h => by omega
  | j + 1, s + 1, i, h => by rw [ddf, ddf_low x j (s + 1) i (by omega), ddf_low x j s i (by omega)]; simp
theorem ddf_diag (x : Nat → Int) : ∀ s i, ddf x s s i = 1
  | 0, i => rfl
  | s + 1, i => by rw [ddf, ddf_low x s (s + 1) i (by omega), ddf_diag x s i]; simp

theorem det_ddf (x : Nat → Int) : ∀ n s, det n (fun r c => ddf x (s + c) s r) = pZ (fun j => pZ (fun i => x (j + s) - x i) j) n
  | 0, s => rfl
  | n + 1, s => by
    rw [det_ones n _ (fun r _ => by rw [Nat.add_zero]; exact ddf_diag x s r)]
    rw [det_congr n (B := fun r c => (x (r + s + 1) - x r) * ddf x (s + 1 + c) (s + 1) r) (fun r c _ _ => by
      rw [ddf_step, show s + (c + 1) = s + 1 + c by omega])]
    rw [det_rows n (fun r => x (r + s + 1) - x r) (fun r c => ddf x (s + 1 + c) (s + 1) r), det_ddf x n (s + 1), ← pZ_mul, pZ_shift]
    rw [show pZ (fun i => x (0 + s) - x i) 0 = 1 from rfl, Int.one_mul]
    refine pZ_congr n (fun j _ => ?_)
    rw [pZ, Int.mul_comm, show j + 1 + s = j + s + 1 by omega, show j + (s + 1) = j + s + 1 by omega]
/-- The product of all differences. -/
def van (x : Nat → Int) (m : Nat) : Int := pZ (fun j => pZ (fun i => x j - x i) j) m
theorem det_nwt (x : Nat → Int) (m : Nat) : det m (fun r c => nwt (x r) c) = van x m := by
  have h := det_ddf x m 0
  rw [det_congr m (B := fun r c => nwt (x r) c) (fun r c _ _ => by rw [Nat.zero_add]; exact ddf_zero x r c)] at h
  exact h
theorem van_congr {x y : Nat → Int} {m : Nat} (h : ∀ i, i < m → x i = y i) : van x m = van y m :=
  pZ_congr m fun j hj => pZ_congr j fun i hi => by rw [h j hj, h i (by omega)]

def upF (y : Nat → Int) (k : Nat) (z : Int) : Nat → Int := fun i => if i = k then z else y i
/-- The sum of F over all y with a i <= y i < a i + w i. -/
def bxS : Nat → (Nat → Int) → (Nat → Nat) → ((Nat → Int) → Int) → Int
  | 0, _, _, F => F (fun _ => 0)
  | k + 1, a, w, F => sZ (fun t => bxS k a w (fun y => F (upF y k (a k + t)))) (w k)
theorem bxS_mul (c : Int) : ∀ k a w F, bxS k a w (fun y => c * F y) = c * bxS k a w F
  | 0, _, _, _ => rfl
  | k + 1, a, w, F => by
    rw [bxS, bxS, ← sZ_mul]
    exact sZ_congr _ fun t _ => bxS_mul c k a w _
theorem bxS_congr : ∀ k (a : Nat → Int) (w : Nat → Nat) {F G : (Nat → Int) → Int}, (∀ y, (∀ i, i < k → a i ≤ y i ∧ y i < a i + w i) → F y = G y) → bxS k a w F = bxS k a w G
  | 0, _, _, _, _, h => h _ (fun _ hi => by omega)
  | k + 1, a, w, F, G, h => by
    rw [bxS, bxS]
    refine sZ_congr _ fun t ht => bxS_congr k a w fun y hy => h _ fun i hi => ?_
    unfold upF
    by_cases e : i = k
    · subst e; rw [if_pos rfl]; omega
    · rw [if_neg e]; exact hy i (by omega)
theorem det_box {n : Nat} (v : Int → Nat → Int) (a : Nat → Int) (w : Nat → Nat) : ∀ k (B : Nat → Nat → Int), k ≤ n → det n (fun r c => if r < k then sZ (fun t => v (a r + t) c) (w r) else B r c) = bxS k a w (fun y => det n (fun r c => if r < k then v (y r) c else B r c)) := by
  intro k
  induction k with
  | zero => intro B _; rw [bxS]; exact det_congr n fun r c _ _ => by rw [if_neg (by omega), if_neg (by omega)]
  | succ k ih =>
    intro B hk
    have e1 : (fun r c => if r < k + 1 then sZ (fun t => v (a r + t) c) (w r) else B r c) = rpR (fun r c => if r < k then sZ (fun t => v (a r + t) c) (w r) else B r c) k (fun c => sZ (fun t : Nat => (fun (t : Nat) c => v (a k + t) c) t c) (w k)) := by
      funext r c
      unfold rpR
      by_cases e : r = k
      · subst e; rw [if_pos (by omega), if_pos rfl]
      · rw [if_neg e]
        dsimp only
        by_cases e2 : r < k
        · rw [if_pos (by omega), if_pos e2]
        · rw [if_neg (by omega), if_neg e2]
    rw [e1, det_sum _ _ (by omega), bxS]
    refine sZ_congr _ fun t _ => ?_
    have e2 : rpR (fun r c => if r < k then sZ (fun t => v (a r + t) c) (w r) else B r c) k ((fun (t : Nat) c => v (a k + t) c) t) = fun r c => if r < k then sZ (fun t => v (a r + t) c) (w r) else rpR B k (fun c => v (a k + t) c) r c := by
      funext r c
      unfold rpR
      by_cases e : r = k
      · subst e; rw [if_pos rfl, if_neg (by omega), if_pos rfl]
      · rw [if_neg e, if_neg e]
    rw [e2, ih _ (by omega)]
    refine bxS_congr k a w fun y _ => det_congr n fun r c _ _ => ?_
    unfold rpR upF
    by_cases e : r = k
    · subst e; rw [if_neg (by omega), if_pos rfl, if_pos (by omega), if_pos rfl]
    · by_cases e2 : r < k
      · rw [if_pos e2, if_pos (by omega), if_neg e]
      · rw [if_neg e2, if_neg e, if_neg (by omega)]
/-- k! -/
def fct (k : Nat) : Int := pZ (fun c => (c : Int) + 1) k
theorem fct_succ (k : Nat) : fct (k + 1) = fct k * ((k : Int) + 1) := rfl
/-- The differences of m + 1 come of those of m that lie between. -/
theorem van_step (x : Nat → Int) (w : Nat → Nat) (m : Nat) (h : ∀ i, i < m → x (i + 1) = x i + w i) : van x (m + 1) = fct m * bxS m x w (fun y => van y m) := by
  rw [← det_nwt, det_ones m _ (fun _ _ => rfl)]
  rw [det_congr m (B := fun r c => ((c : Int) + 1) * (if r < m then sZ (fun t => nwt (x r + t) c) (w r) else 0)) (fun r c hr _ => by
    rw [if_pos hr, nwt_sum, h r hr])]
  rw [det_cols m (fun c => (c : Int) + 1) (fun r c => if r < m then sZ (fun t => nwt (x r + t) c) (w r) else 0), det_box nwt x w m (fun _ _ => 0) (Nat.le_refl _)]
  refine congrArg (fct m * ·) (bxS_congr m x w fun y _ => ?_)
  rw [← det_nwt]
  exact det_congr m fun r c hr _ => by rw [if_pos hr]
/-- How many ways there are to go on between, and between. -/
def cntG : Nat → (Nat → Int) → Int
  | 0, _ => 1
  | m + 1, x => bxS m x (fun i => (x (i + 1) - x i).toNat) (cntG m)
def sfc (m : Nat) : Int := pZ fct m
theorem van_cnt : ∀ m x, (∀ i, i + 1 < m → x i ≤ x (i + 1)) → van x m = sfc m * cntG m x
  | 0, x, _ => rfl
  | m + 1, x, h => by
    rw [van_step x (fun i => (x (i + 1) - x i).toNat) m (fun i hi => by have := h i (by omega); omega), cntG]
    rw [bxS_congr m x _ (G := fun y => sfc m * cntG m y) (fun y hy => van_cnt m y fun i hi => by
      have h1 := hy i (by omega)
      have h2 := hy (i + 1) (by omega)
      have h3 := h i (by omega)
      omega)]
    rw [bxS_mul, ← Int.mul_assoc, Int.mul_comm (fct m)]; rfl

/-- One less, place by place. -/
theorem van_less (x : Nat → Int) (m : Nat) : sZ (fun k => x k * van (upF x k (x k - 1)) m) m = (sZ x m - sZ (fun c => (c : Int)) m) * van x m := by
  have h := det_trace m (fun c => (c : Int)) (fun r c => nwt (x r) c)
  have e : ∀ k, k < m → x k * van (upF x k (x k - 1)) m = x k * van x m + (-1) * det m (rpR (fun r c => nwt (x r) c) k (fun c => (c : Int) * nwt (x k) c)) := fun k hk => by
    rw [← det_nwt, ← det_nwt]
    have e1 := det_lin m (fun r c => nwt (x r) c) k (x k) (-1) (fun c => nwt (x k) c) (fun c => (c : Int) * nwt (x k) c) hk
    rw [show (fun c => nwt (x k) c) = (fun r c => nwt (x r) c) k from rfl, rpR_self] at e1
    rw [← e1]
    have e2 := det_lin m (fun r c => nwt (x r) c) k (x k) 0 (fun c => nwt (x k - 1) c) (fun c => 0) hk
    simp only [Int.zero_mul, Int.add_zero] at e2
    rw [det_congr m (A := fun r c => nwt (upF x k (x k - 1) r) c) (B := rpR (fun r c => nwt (x r) c) k (fun c => nwt (x k - 1) c)) (fun r c _ _ => by
      unfold upF rpR
      by_cases q : r = k
      · rw [if_pos q, if_pos q]
      · rw [if_neg q, if_neg q]), ← e2]
    refine det_congr m fun r c _ _ => ?_
    unfold rpR
    by_cases q : r = k
    · rw [if_pos q, if_pos q]
      have h1 := nwt_succ (x k - 1) c
      rw [show x k - 1 + 1 = x k by omega] at h1
      simp only
      rw [← h1, nwt, Int.mul_sub, Int.mul_comm (nwt (x k) c) (x k), Int.mul_comm (nwt (x k) c)]; omega
    · rw [if_neg q, if_neg q]
  rw [sZ_congr m e, sZ_add, sZ_mul, h, ← det_nwt, Int.sub_mul]
  rw [show (fun k => x k * det m fun r c => nwt (x r) c) = fun k => (det m fun r c => nwt (x r) c) * x k from funext fun k => Int.mul_comm _ _, sZ_mul, Int.mul_comm (sZ x m)]
  omega

end Go.Proofs.YtpdlhnniibjfaaiDoor
