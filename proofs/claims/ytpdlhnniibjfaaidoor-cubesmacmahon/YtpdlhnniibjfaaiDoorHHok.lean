/-
  Hooks: what they come to, times all differences.
-/
import Derived.Test.YtpdlhnniibjfaaiDoorHVan
namespace Go.Proofs.YtpdlhnniibjfaaiDoor

theorem pZ_rev (f : Nat → Int) : ∀ n, pZ f n = pZ (fun i => f (n - 1 - i)) n
  | 0 => rfl
  | n + 1 => by
    rw [pZ_shift (fun i => f (n + 1 - 1 - i)) n, pZ, Int.mul_comm, pZ_rev f n]
    refine congr (congrArg _ (by rw [show n + 1 - 1 - 0 = n by omega])) (pZ_congr n fun i hi => ?_)
    rw [show n + 1 - 1 - (i + 1) = n - 1 - i by omega]
theorem pZ_ne {f : Nat → Int} : ∀ n, (∀ i, i < n → f i ≠ 0) → pZ f n ≠ 0
  | 0, _ => by simp [pZ]
  | n + 1, h => by rw [pZ]; exact Int.mul_ne_zero (pZ_ne n fun i hi => h i (by omega)) (h n (by omega))
theorem fct_ne (k : Nat) : fct k ≠ 0 := pZ_ne k fun i _ => by omega
theorem sfc_ne (m : Nat) : sfc m ≠ 0 := pZ_ne m fun i _ => fct_ne i
theorem fct_rev (P : Nat) : pZ (fun j => (P : Int) - j) P = fct P := by
  rw [pZ_rev]
  exact pZ_congr P fun i hi => by omega
theorem fct_add (a k : Nat) : fct a * pZ (fun j => (a : Int) + 1 + j) k = fct (a + k) := by
  unfold fct
  rw [pZ_add]
  exact congrArg _ (pZ_congr k fun i _ => by omega)
/-- A product that slides by one. -/
theorem pZ_tel (A : Int) : ∀ q : Nat, pZ (fun j => A - j) q * (A - q) = A * pZ (fun j => A - 1 - j) q
  | 0 => by simp [pZ]
  | q + 1 => by
    rw [pZ, pZ_tel A q, pZ, Int.mul_assoc]
    rw [show A - ((q + 1 : Nat) : Int) = A - 1 - q by omega]

/-- How many of the first t numbers are above j. -/
def cq (q : Nat → Nat) (j : Nat) : Nat → Nat
  | 0 => 0
  | t + 1 => cq q j t + (if j < q t then 1 else 0)
theorem cq_full {q : Nat → Nat} {j : Nat} : ∀ t, (∀ s, s < t → j < q s) → cq q j t = t
  | 0, _ => rfl
  | t + 1, h => by rw [cq, cq_full t fun s hs => h s (by omega), if_pos (h t (by omega))]
theorem cq_congr {q q' : Nat → Nat} {j : Nat} : ∀ t, (∀ s, s < t → q s = q' s) → cq q j t = cq q' j t
  | 0, _ => rfl
  | t + 1, h => by rw [cq, cq, cq_congr t fun s hs => h s (by omega), h t (by omega)]
/-- The hooks of a row, and the differences to the rows below. -/
theorem hook_row (P : Nat) (q : Nat → Nat) (hP : ∀ s, q s ≤ P) (hq : ∀ s, q (s + 1) ≤ q s) : ∀ t, pZ (fun j => (P : Int) - j + cq q j t) P * pZ (fun s => (P : Int) - q s + (s + 1)) t = fct (P + t)
  | 0 => by
    rw [pZ, Int.mul_one, Nat.add_zero, ← fct_rev]
    exact pZ_congr P fun j _ => by simp [cq]
  | t + 1 => by
    have ih := hook_row P q hP hq t
    have hmono : ∀ s, s ≤ t → q t ≤ q s := fun s hs => by
      obtain ⟨d, rfl⟩ : ∃ d, t = s + d := ⟨t - s, by omega⟩
      clear ih hs
      induction d with
      | zero => exact Nat.le_refl _
      | succ d ihd => exact Nat.le_trans (hq (s + d)) ihd
    obtain ⟨d, hd⟩ : ∃ d, P = q t + d := ⟨P - q t, by have := hP t; omega⟩
    have e1 : pZ (fun j => (P : Int) - j + cq q j (t + 1)) P = pZ (fun j => ((P : Int) + t + 1) - j) (q t) * pZ (fun i => (P : Int) - ((q t + i : Nat) : Int) + cq q (q t + i) t) d := by
      conv => lhs; arg 2; rw [hd]
      rw [pZ_add]
      refine congr (congrArg _ (pZ_congr _ fun j hj => ?_)) (pZ_congr _ fun i _ => ?_)
      · rw [cq_full (t + 1) fun s hs => by have := hmono s (by omega); omega]; omega
      · rw [cq, if_neg (by omega), Nat.add_zero]
    have e2 : pZ (fun j => (P : Int) - j + cq q j t) P = pZ (fun j => ((P : Int) + t + 1) - 1 - j) (q t) * pZ (fun i => (P : Int) - ((q t + i : Nat) : Int) + cq q (q t + i) t) d := by
      conv => lhs; arg 2; rw [hd]
      rw [pZ_add]
      refine congr (congrArg _ (pZ_congr _ fun j hj => ?_)) rfl
      rw [cq_full t fun s hs => by have := hmono s (by omega); omega]; omega
    rw [e2] at ih
    rw [e1, pZ, ← Nat.add_assoc, fct_succ, ← ih]
    have h := pZ_tel ((P : Int) + t + 1) (q t)
    rw [show (P : Int) - q t + (t + 1) = (P : Int) + t + 1 - q t by omega, show (((P + t : Nat) : Int) + 1) = (P : Int) + t + 1 by omega]
    generalize pZ (fun j => ((P : Int) + t + 1) - j) (q t) = X at *
    generalize pZ (fun j => ((P : Int) + t + 1) - 1 - j) (q t) = Y at *
    generalize pZ (fun i => (P : Int) - ((q t + i : Nat) : Int) + cq q (q t + i) t) d = Z
    generalize pZ (fun s => (P : Int) - q s + (s + 1)) t = U
    calc X * Z * (U * ((P : Int) + t + 1 - q t)) = (X * ((P : Int) + t + 1 - q t)) * (Z * U) := by ac_rfl
      _ = Y * Z * U * ((P : Int) + t + 1) := by rw [h]; ac_rfl

/-- The hook of a box, the shape having M rows (0 among them, perhaps). -/
def hk (P : Nat → Nat) (M i j : Nat) : Int := (P i : Int) - j + cq (fun s => P (i + 1 + s)) j (M - 1 - i)
/-- Its numbers, from the last row on, each with its place. -/
def xs (P : Nat → Nat) (M k : Nat) : Nat := P (M - 1 - k) + k
theorem hook_van {P : Nat → Nat} (M : Nat) (h : ∀ i, P (i + 1) ≤ P i) : pZ (fun i => pZ (hk P M i) (P i)) M * van (fun k => (xs P M k : Int)) M = pZ (fun k => fct (xs P M k)) M := by
  have hm : ∀ i d, P (i + d) ≤ P i := fun i d => by
    induction d with
    | zero => exact Nat.le_refl _
    | succ d ih => exact Nat.le_trans (h (i + d)) ih
  rw [pZ_rev (fun i => pZ (hk P M i) (P i)) M, van, ← pZ_mul]
  refine pZ_congr M fun k hk' => ?_
  have e := hook_row (P (M - 1 - k)) (fun s => P (M - 1 - k + 1 + s)) (fun s => by have := hm (M - 1 - k) (1 + s); rw [← Nat.add_assoc] at this; exact this) (fun s => h _) k
  rw [show fct (xs P M k) = fct (P (M - 1 - k) + k) from rfl, ← e]
  refine congr (congrArg _ (pZ_congr _ fun j _ => ?_)) ?_
  · unfold hk
    rw [show M - 1 - (M - 1 - k) = k by omega]
  · rw [pZ_rev (fun i => ((xs P M k : Nat) : Int) - (xs P M i : Nat)) k]
    refine pZ_congr k fun s hs => ?_
    unfold xs
    rw [show M - 1 - (k - 1 - s) = M - 1 - k + 1 + s by omega]
    omega
theorem xs_up {P : Nat → Nat} {M : Nat} (h : ∀ i, P (i + 1) ≤ P i) (k : Nat) (hk : k + 1 < M) : xs P M k < xs P M (k + 1) := by
  unfold xs
  have := h (M - 1 - (k + 1))
  rw [show M - 1 - (k + 1) + 1 = M - 1 - k by omega] at this
  omega
/-- What the boxes' places come to. -/
def ctn (P : Nat → Nat) (M : Nat) : Int := pZ (fun i => pZ (fun j => (M : Int) - i + j) (P i)) M
theorem ctn_fct (P : Nat → Nat) (M : Nat) : ctn P M * sfc M = pZ (fun k => fct (xs P M k)) M := by
  unfold ctn sfc
  rw [pZ_rev fct M, ← pZ_mul, pZ_rev (fun k => fct (xs P M k)) M]
  refine pZ_congr M fun i hi => ?_
  have e := fct_add (M - 1 - i) (P i)
  rw [show fct (xs P M (M - 1 - i)) = fct (M - 1 - i + P i) by unfold xs; rw [show M - 1 - (M - 1 - i) = i by omega, Nat.add_comm], ← e, Int.mul_comm]
  exact congrArg _ (pZ_congr _ fun j _ => by omega)
/-- STANLEY'S: the hooks' product times the number of tableaux is that of what the places come to. -/
theorem hook_content {P : Nat → Nat} (M : Nat) (h : ∀ i, P (i + 1) ≤ P i) : pZ (fun i => pZ (hk P M i) (P i)) M * cntG M (fun k => (xs P M k : Int)) = ctn P M := by
  have h1 := hook_van M h
  rw [van_cnt M _ (fun i hi => by have := xs_up h i hi; omega), ← ctn_fct] at h1
  refine Int.eq_of_mul_eq_mul_right (sfc_ne M) ?_
  rw [← h1]
  ac_rfl

/-- How many ways there are down to nothing, one less at a time. -/
def fsd : Nat → Nat → (Nat → Int) → Int
  | 0, _, _ => 1
  | n + 1, m, x => sZ (fun k => if 1 ≤ x k ∧ (k = 0 ∨ x (k - 1) < x k - 1) then fsd n m (upF x k (x k - 1)) else 0) m
theorem van_same {x : Nat → Int} {m i j : Nat} (hi : i < j) (hj : j < m) (h : x i = x j) : van x m = 0 := by
  unfold van
  obtain ⟨d, rfl⟩ : ∃ d, m = (j + 1) + d := ⟨m - (j + 1), by omega⟩
  rw [pZ_add, pZ]
  obtain ⟨e, he⟩ : ∃ e, j = (i + 1) + e := ⟨j - (i + 1), by omega⟩
  have : pZ (fun i => x j - x i) j = 0 := by
    conv => lhs; arg 2; rw [he]
    rw [pZ_add, pZ, h, Int.sub_self, Int.mul_zero, Int.zero_mul]
  rw [this, Int.mul_zero, Int.zero_mul]
def fcz (x : Int) : Int := fct x.toNat
theorem fcz_step {x : Int} (h : 1 ≤ x) : x * fcz (x - 1) = fcz x := by
  unfold fcz
  obtain ⟨k, rfl⟩ : ∃ k : Nat, x = k + 1 := ⟨(x - 1).toNat, by omega⟩
  rw [show ((k : Int) + 1 - 1).toNat = k by omega, show ((k : Int) + 1).toNat = k + 1 by omega, fct_succ, Int.mul_comm]
theorem pZ_up (f : Int → Int) (x : Nat → Int) (k : Nat) (z : Int) : ∀ m, k < m → f (x k) * pZ (fun i => f (upF x k z i)) m = f z * pZ (fun i => f (x i)) m
  | 0, h => by omega
  | m + 1, h => by
    rw [pZ, pZ]
    by_cases e : k = m
    · subst e
      rw [pZ_congr k (f := fun i => f (upF x k z i)) (g := fun i => f (x i)) (fun i hi => by unfold upF; rw [if_neg (by omega)])]
      unfold upF
      rw [if_pos rfl]; ac_rfl
    · have ih := pZ_up f x k z m (by omega)
      rw [show upF x k z m = x m by unfold upF; rw [if_neg (fun q => e q.symm)], ← Int.mul_assoc, ih, Int.mul_assoc]
theorem sZ_up (x : Nat → Int) (k : Nat) (z : Int) : ∀ m, k < m → sZ (upF x k z) m = sZ x m + z - x k
  | 0, h => by omega
  | m + 1, h => by
    rw [sZ, sZ]
    by_cases e : k = m
    · subst e
      rw [sZ_congr k (f := upF x k z) (g := x) (fun i hi => by unfold upF; rw [if_neg (by omega)])]
      unfold upF
      rw [if_pos rfl]; omega
    · rw [sZ_up x k z m (by omega), show upF x k z m = x m by unfold upF; rw [if_neg (fun q => e q.symm)]]; omega
theorem sZ_mono {f g : Nat → Int} : ∀ m, (∀ i, i < m → f i ≤ g i) → sZ f m ≤ sZ g m
  | 0, _ => Int.le_refl _
  | m + 1, h => by rw [sZ, sZ]; have := sZ_mono m fun i hi => h i (by omega); have := h m (by omega); omega
theorem sZ_tight {f g : Nat → Int} : ∀ m, (∀ i, i < m → f i ≤ g i) → sZ g m ≤ sZ f m → ∀ i, i < m → f i = g i
  | 0, _, _, i, hi => by omega
  | m + 1, h, hs, i, hi => by
    rw [sZ, sZ] at hs
    have h1 := sZ_mono m fun i hi => h i (by omega)
    have h2 := h m (by omega)
    by_cases e : i = m
    · subst e; omega
    · exact sZ_tight m (fun i hi => h i (by omega)) (by omega) i (by omega)
/-- FRAME, ROBINSON, THRALL, by differences. -/
theorem van_fsd (m : Nat) : ∀ (n : Nat) (x : Nat → Int), (∀ i, i < m → 0 ≤ x i) → (∀ i, i + 1 < m → x i < x (i + 1)) → sZ x m = n + sZ (fun c => (c : Int)) m → fct n * van x m = fsd n m x * pZ (fun k => fcz (x k)) m := by
  intro n
  induction n with
  | zero =>
    intro x h0 h1 hs
    have hge : ∀ i, i < m → (i : Int) ≤ x i := fun i => by
      induction i with
      | zero => intro hi; exact h0 0 hi
      | succ i ih => intro hi; have := ih (by omega); have := h1 i hi; omega
    have he := sZ_tight (f := fun c => (c : Int)) m hge (by rw [hs]; simp)
    rw [fsd, Int.one_mul, show fct 0 = 1 from rfl, Int.one_mul]
    refine pZ_congr m fun j hj => ?_
    rw [← he j hj]
    unfold fcz
    rw [show (j : Int).toNat = j by omega, ← fct_rev]
    exact pZ_congr j fun i hi => by rw [← he i (by omega)]
  | succ n ih =>
    intro x h0 h1 hs
    have h := van_less x m
    rw [hs, show ((n + 1 : Nat) : Int) + sZ (fun c => (c : Int)) m - sZ (fun c => (c : Int)) m = (n : Int) + 1 by omega] at h
    rw [fct_succ, Int.mul_assoc, ← h, ← sZ_mul, fsd, Int.mul_comm (sZ _ m), ← sZ_mul]
    refine sZ_congr m fun k hk => ?_
    by_cases hv : 1 ≤ x k ∧ (k = 0 ∨ x (k - 1) < x k - 1)
    · rw [if_pos hv]
      have e := ih (upF x k (x k - 1)) (fun i hi => by unfold upF; split; omega; exact h0 i hi) (fun i hi => by
        have a1 := h1 i hi
        unfold upF
        by_cases q1 : i = k
        · rw [if_pos q1, if_neg (by omega)]; rw [← q1]; omega
        · rw [if_neg q1]
          by_cases q2 : i + 1 = k
          · rw [if_pos q2]
            rcases hv.2 with q | q
            · omega
            · rw [← q2] at q ⊢; exact q
          · rw [if_neg q2]; exact a1) (by rw [sZ_up x k _ m hk, hs]; omega)
      have e2 := pZ_up fcz x k (x k - 1) m hk
      have e3 := fcz_step hv.1
      have e4 : x k * pZ (fun i => fcz (upF x k (x k - 1) i)) m = pZ (fun i => fcz (x i)) m := by
        have hne : fcz (x k - 1) ≠ 0 := fct_ne _
        refine Int.eq_of_mul_eq_mul_left hne ?_
        rw [← e2, ← e3]; ac_rfl
      calc fct n * (x k * van (upF x k (x k - 1)) m) = x k * (fct n * van (upF x k (x k - 1)) m) := by ac_rfl
        _ = x k * pZ (fun i => fcz (upF x k (x k - 1) i)) m * fsd n m (upF x k (x k - 1)) := by rw [e]; ac_rfl
        _ = pZ (fun k => fcz (x k)) m * fsd n m (upF x k (x k - 1)) := by rw [e4]
    · rw [if_neg hv, Int.mul_zero]
      have hz : x k * van (upF x k (x k - 1)) m = 0 := by
        by_cases q : 1 ≤ x k
        · have q2 : ¬ (k = 0 ∨ x (k - 1) < x k - 1) := fun z => hv ⟨q, z⟩
          have q3 : k ≠ 0 := fun z => q2 (Or.inl z)
          have a1 := h1 (k - 1) (by omega)
          rw [show k - 1 + 1 = k by omega] at a1
          have q4 : x (k - 1) = x k - 1 := by
            have : ¬ x (k - 1) < x k - 1 := fun z => q2 (Or.inr z)
            omega
          rw [van_same (i := k - 1) (j := k) (by omega) hk (by unfold upF; rw [if_neg (by omega), if_pos rfl]; exact q4), Int.mul_zero]
        · have := h0 k hk
          rw [show x k = 0 by omega, Int.zero_mul]
      rw [hz, Int.mul_zero]
/-- .. by hooks. -/
theorem hook_fsd {P : Nat → Nat} (M n : Nat) (h : ∀ i, P (i + 1) ≤ P i) (hs : sZ (fun i => (P i : Int)) M = n) : pZ (fun i => pZ (hk P M i) (P i)) M * fsd n M (fun k => (xs P M k : Int)) = fct n := by
  have h1 := hook_van M h
  have h2 := van_fsd M n (fun k => (xs P M k : Int)) (fun i _ => by omega) (fun i hi => by have := xs_up h i hi; omega) (by
    have e : ∀ m, m ≤ M → sZ (fun k => (xs P M k : Int)) m = sZ (fun k => (P (M - 1 - k) : Int)) m + sZ (fun c => (c : Int)) m := fun m _ => by
      rw [← sZ_add]; exact sZ_congr m fun k _ => by unfold xs; omega
    have e2 : ∀ m, sZ (fun i => (P i : Int)) m = sZ (fun k => (P (m - 1 - k) : Int)) m := fun m => by
      induction m with
      | zero => rfl
      | succ m ih =>
        rw [sZ_shift (fun k => (P (m + 1 - 1 - k) : Int)) m, sZ, ih, Int.add_comm]
        refine congr (congrArg _ (by rw [show m + 1 - 1 - 0 = m by omega])) (sZ_congr m fun i hi => ?_)
        rw [show m + 1 - 1 - (i + 1) = m - 1 - i by omega]
    rw [e M (Nat.le_refl _), ← e2, hs])
  have hv : van (fun k => (xs P M k : Int)) M ≠ 0 := pZ_ne M fun j hj => pZ_ne j fun i hi => by
    have : ∀ d, i + d + 1 < M → xs P M i < xs P M (i + d + 1) := fun d => by
      induction d with
      | zero => intro hd; exact xs_up h i hd
      | succ d ih => intro hd; have := ih (by omega); have := xs_up h (i + d + 1) hd; rw [show i + (d + 1) + 1 = i + d + 1 + 1 by omega]; omega
    have := this (j - i - 1) (by omega)
    rw [show i + (j - i - 1) + 1 = j by omega] at this
    show ((xs P M j : Nat) : Int) - (xs P M i : Nat) ≠ 0
    omega
  have e3 : pZ (fun k => fcz (xs P M k : Int)) M = pZ (fun k => fct (xs P M k)) M := pZ_congr M fun k _ => by unfold fcz; rw [show ((xs P M k : Nat) : Int).toNat = xs P M k by omega]
  rw [e3, ← h1] at h2
  refine Int.eq_of_mul_eq_mul_right hv ?_
  rw [h2]; ac_rfl

end Go.Proofs.YtpdlhnniibjfaaiDoor
