/-
  Plain mathematics: strips, and the sums of MURNAGHAN and NAKAYAMA; turned over; at ones.
-/
import Derived.Test.YtmbpcapjldbkbaaDoorHBel
namespace Go.Proofs.YtmbpcapjldbkbaaDoor

theorem sg_add (a : Nat) : ∀ b, sg (a + b) = sg a * sg b
  | 0 => by simp [sg]
  | b + 1 => by rw [← Nat.add_assoc, sg, sg_add a b, sg, Int.mul_neg]
theorem sg_sq (a : Nat) : sg a * sg a = 1 := by
  induction a with
  | zero => rfl
  | succ a ih => rw [sg, Int.neg_mul_neg]; exact ih
theorem sg_two (a : Nat) : sg (a + 2) = sg a := by simp [sg]
theorem sg_mod (a : Nat) : sg a = if a % 2 = 0 then 1 else -1 := by
  induction a with
  | zero => rfl
  | succ a ih =>
    rw [sg, ih]
    by_cases h : a % 2 = 0
    · rw [if_pos h, if_neg (by omega)]
    · rw [if_neg h, if_pos (by omega)]; rfl

/-- The rows without the strip of the hook at row i and column j. -/
def rmF (P : Nat → Nat) (i j r : Nat) : Nat := if r < i then P r else if j < P (r + 1) then P (r + 1) - 1 else min (P r) j
/-- Q is P turned over. -/
def Cj (P Q : Nat → Nat) : Prop := ∀ r c, c < P r ↔ r < Q c
theorem Cj.symm {P Q : Nat → Nat} (h : Cj P Q) : Cj Q P := fun r c => (h c r).symm
theorem Cj.anti {P Q : Nat → Nat} (h : Cj P Q) (r : Nat) : P (r + 1) ≤ P r := by
  rcases Nat.lt_or_ge (P r) (P (r + 1)) with q | q
  · have h1 := (h (r + 1) (P r)).1 q
    have h2 := (h r (P r)).2 (by omega)
    omega
  · exact q
theorem rm_iff {P Q : Nat → Nat} (h : Cj P Q) {i j : Nat} (r c : Nat) : c < rmF P i j r ↔ if i ≤ r ∧ j ≤ c then c + 1 < P (r + 1) else c < P r := by
  have ha := h.anti r
  unfold rmF
  by_cases h1 : r < i
  · rw [if_pos h1, if_neg (by omega)]
  · rw [if_neg h1]
    by_cases h3 : j < P (r + 1)
    · rw [if_pos h3]
      by_cases h2 : j ≤ c
      · rw [if_pos ⟨by omega, h2⟩]; omega
      · rw [if_neg (by omega)]; omega
    · rw [if_neg h3]
      by_cases h2 : j ≤ c
      · rw [if_pos ⟨by omega, h2⟩]; omega
      · rw [if_neg (by omega)]; omega
theorem rm_cj {P Q : Nat → Nat} (h : Cj P Q) (i j : Nat) : Cj (rmF P i j) (rmF Q j i) := fun r c => by
  rw [rm_iff h, rm_iff h.symm]
  by_cases hc : i ≤ r ∧ j ≤ c
  · rw [if_pos hc, if_pos ⟨hc.2, hc.1⟩]; exact h (r + 1) (c + 1)
  · rw [if_neg hc, if_neg (fun q => hc ⟨q.2, q.1⟩)]; exact h r c
/-- The sum, over all boxes. -/
def chi2 (m M : Nat) : List Nat → (Nat → Nat) → (Nat → Nat) → Int
  | [], _, _ => 1
  | k :: cs, P, Q => sZ (fun i => sZ (fun j => if j < P i ∧ P i + Q j = i + j + 1 + k then sg (Q j - 1 - i) * chi2 m M cs (rmF P i j) (rmF Q j i) else 0) M) m
/-- How much longer than 1 the cycles are. -/
def lsS : List Nat → Nat
  | [] => 0
  | k :: cs => k - 1 + lsS cs
theorem chi2_conj (m M : Nat) : ∀ (cs : List Nat) (P Q : Nat → Nat), Cj P Q → chi2 M m cs Q P = sg (lsS cs) * chi2 m M cs P Q
  | [], _, _, _ => by simp [chi2, lsS, sg]
  | k :: cs, P, Q, h => by
    rw [chi2, chi2, sZ_swap, ← sZ_mul]
    refine sZ_congr m fun i _ => ?_
    rw [← sZ_mul]
    refine sZ_congr M fun j _ => ?_
    have hij := h i j
    by_cases hc : j < P i ∧ P i + Q j = i + j + 1 + k
    · have h1 := hij.1 hc.1
      rw [if_pos hc, if_pos ⟨h1, by omega⟩, chi2_conj m M cs _ _ (rm_cj h i j), lsS, sg_add]
      have e : k - 1 = (P i - 1 - j) + (Q j - 1 - i) := by omega
      have e2 : sg (k - 1) * sg (Q j - 1 - i) = sg (P i - 1 - j) := by rw [e, sg_add, Int.mul_assoc, sg_sq, Int.mul_one]
      rw [← e2]
      simp only [Int.mul_assoc]
      congr 1
      rw [← Int.mul_assoc, ← Int.mul_assoc, Int.mul_comm (sg (Q j - 1 - i))]
    · rw [if_neg hc, if_neg (fun q => hc ⟨hij.2 q.1, by omega⟩), Int.mul_zero]

/-- The rows that are left, ahead of the cut. -/
def lfL (zs : List Int) (i j : Nat) : List Int := (List.range zs.length).map fun r => ((rmF (pF zs) i j r : Nat) : Int)
/-- How many rows are left. -/
def lfN (zs : List Int) (i j : Nat) : Nat := (lfL zs i j).findIdx (fun z => z == 0)
/-- What is left of the partition. -/
def stP (zs : List Int) (i j : Nat) : List Int := (lfL zs i j).take (lfN zs i j)
theorem lfL_len (zs : List Int) (i j : Nat) : (lfL zs i j).length = zs.length := by simp [lfL]
theorem lfL_at {zs : List Int} {i j r : Nat} (hr : r < zs.length) : (lfL zs i j).getD r 0 = ((rmF (pF zs) i j r : Nat) : Int) := by simp [lfL, List.getD, hr]
theorem pt_cj {zs : List Int} (h : IsPt zs) : Cj (pF zs) (htF zs) := fun r c => (htF_iff h r c).symm
theorem lfN_le (zs : List Int) (i j : Nat) : lfN zs i j ≤ zs.length := by
  have := List.findIdx_le_length (xs := lfL zs i j) (p := fun z => z == 0)
  rw [lfL_len] at this; exact this
theorem rm_anti {zs : List Int} (h : IsPt zs) (i j r : Nat) : rmF (pF zs) i j (r + 1) ≤ rmF (pF zs) i j r := (rm_cj (pt_cj h) i j).anti r
theorem rm_mono {zs : List Int} (h : IsPt zs) (i j r d : Nat) : rmF (pF zs) i j (r + d) ≤ rmF (pF zs) i j r := by
  induction d with
  | zero => exact Nat.le_refl _
  | succ d ih => exact Nat.le_trans (rm_anti h i j (r + d)) ih
theorem rm_out {zs : List Int} {i j r : Nat} (hi : i < zs.length) (hr : zs.length ≤ r) : rmF (pF zs) i j r = 0 := by
  unfold rmF
  rw [if_neg (by omega), pF_out (i := r + 1) (by omega), pF_out hr]
  simp
theorem rm_le {zs : List Int} (h : IsPt zs) (i j r : Nat) : rmF (pF zs) i j r ≤ pF zs r := by
  have := pF_anti h r
  unfold rmF; split
  · exact Nat.le_refl _
  · split <;> omega
theorem lfN_zero {zs : List Int} (h : IsPt zs) {i j r : Nat} (hi : i < zs.length) (hr : lfN zs i j ≤ r) : rmF (pF zs) i j r = 0 := by
  rcases Nat.lt_or_ge (lfN zs i j) zs.length with q | q
  · have hl : lfN zs i j < (lfL zs i j).length := by rw [lfL_len]; exact q
    have h1 := List.findIdx_getElem (xs := lfL zs i j) (p := fun z => z == 0) (w := hl)
    have h2 : (lfL zs i j)[lfN zs i j] = 0 := beq_iff_eq.1 h1
    have h3 := lfL_at (zs := zs) (i := i) (j := j) q
    rw [List.getD, List.getElem?_eq_getElem hl, Option.getD_some, h2] at h3
    obtain ⟨d, rfl⟩ : ∃ d, r = lfN zs i j + d := ⟨r - lfN zs i j, by omega⟩
    have := rm_mono h i j (lfN zs i j) d
    omega
  · exact rm_out hi (by omega)
theorem lfN_pos {zs : List Int} {i j r : Nat} (hr : r < lfN zs i j) : 0 < rmF (pF zs) i j r := by
  have hn := lfN_le zs i j
  have hl : r < (lfL zs i j).length := by rw [lfL_len]; omega
  have h1 := List.not_of_lt_findIdx (xs := lfL zs i j) (p := fun z => z == 0) hr
  have h3 := lfL_at (zs := zs) (i := i) (j := j) (r := r) (by omega)
  rw [List.getD, List.getElem?_eq_getElem hl, Option.getD_some] at h3
  rw [h3] at h1
  rcases Nat.eq_zero_or_pos (rmF (pF zs) i j r) with e | e
  · rw [e] at h1; simp at h1
  · exact e
theorem stP_len (zs : List Int) (i j : Nat) : (stP zs i j).length = lfN zs i j := by
  unfold stP; rw [List.length_take, lfL_len]; have := lfN_le zs i j; omega
theorem pF_stP {zs : List Int} (h : IsPt zs) {i j : Nat} (hi : i < zs.length) (r : Nat) : pF (stP zs i j) r = rmF (pF zs) i j r := by
  by_cases hr : r < lfN zs i j
  · have hn := lfN_le zs i j
    unfold pF stP
    rw [List.getD, List.getElem?_take, if_pos hr, ← List.getD, lfL_at (by omega)]
    rfl
  · rw [pF_out (by rw [stP_len]; omega), lfN_zero h hi (by omega)]
theorem stP_pt {zs : List Int} (h : IsPt zs) {i j : Nat} (hi : i < zs.length) : IsPt (stP zs i j) := by
  have hat : ∀ r, r < (stP zs i j).length → (stP zs i j).getD r 0 = ((rmF (pF zs) i j r : Nat) : Int) := fun r hr => by
    rw [stP_len] at hr
    have hn := lfN_le zs i j
    unfold stP
    rw [List.getD, List.getElem?_take, if_pos hr, ← List.getD, lfL_at (by omega)]
  have hg : PtGoes 1 0 (stP zs i j) := fun r hr => by
    refine ⟨?_, fun h0 => ?_⟩
    · rw [hat r hr]
      have := lfN_pos (zs := zs) (i := i) (j := j) (r := r) (by rw [← stP_len]; exact hr)
      omega
    · rw [hat r hr, hat (r - 1) (by omega)]
      have := rm_anti h i j (r - 1)
      rw [show r - 1 + 1 = r by omega] at this
      omega
  refine pt_mk hg ?_
  have hz : ∀ z ∈ stP zs i j, 0 ≤ z := fun z hz => by
    obtain ⟨r, hr, rfl⟩ := List.mem_iff_getElem.1 hz
    have := (hg r hr).1
    simp only [List.getD, List.getElem?_eq_getElem hr, Option.getD_some] at this
    omega
  rw [sum_sZ _ hz]
  have h2 : ∀ m, m ≤ zs.length → sZ (fun r => ((pF (stP zs i j) r : Nat) : Int)) m ≤ sZ (fun r => ((pF zs r : Nat) : Int)) m := fun m => by
    induction m with
    | zero => intro _; exact Int.le_refl _
    | succ m ih =>
      intro hm
      rw [sZ, sZ]
      have h3 := ih (by omega)
      have h4 := rm_le h i j m
      rw [← pF_stP h hi] at h4
      omega
  have h5 := h2 (stP zs i j).length (by rw [stP_len]; exact lfN_le zs i j)
  have h6 : ∀ d, sZ (fun r => ((pF zs r : Nat) : Int)) (stP zs i j).length ≤ sZ (fun r => ((pF zs r : Nat) : Int)) ((stP zs i j).length + d) := fun d => by
    induction d with
    | zero => exact Int.le_refl _
    | succ d ih => rw [← Nat.add_assoc, sZ]; omega
  have h7 := h6 (zs.length - (stP zs i j).length)
  rw [show (stP zs i j).length + (zs.length - (stP zs i j).length) = zs.length by have := lfN_le zs i j; rw [stP_len]; omega, szN_sum (Nat.le_refl _)] at h7
  have h8 := szN_sum (zs := zs) (Nat.le_refl _)
  rw [← sum_sZ zs (fun z hz => by have := h.range z hz; omega)] at h8
  have h9 := ptRoom_sum zs 40 h.fits
  have h10 := h.fits
  omega
theorem htF_stP {zs : List Int} (h : IsPt zs) {i j : Nat} (hi : i < zs.length) (c : Nat) : htF (stP zs i j) c = rmF (htF zs) j i c := by
  have key : ∀ r, r < htF (stP zs i j) c ↔ r < rmF (htF zs) j i c := fun r => by
    rw [htF_iff (stP_pt h hi), pF_stP h hi]; exact rm_cj (pt_cj h) i j r c
  rcases Nat.lt_trichotomy (htF (stP zs i j) c) (rmF (htF zs) j i c) with q | q | q
  · have := (key _).2 q; omega
  · exact q
  · have := (key _).1 q; omega

/-- The strips of length k that begin in row i. -/
def stAt (zs : List Int) (k i : Nat) : List (List Int × Nat) := (List.range (pF zs i)).flatMap fun j => if hkN zs i j = k then [(stP zs i j, htF zs j - 1 - i)] else []
/-- Those of the last t rows, from below. -/
def stUp (zs : List Int) (k t : Nat) : List (List Int × Nat) := (List.range t).flatMap fun s => stAt zs k (zs.length - 1 - s)
def stpL (zs : List Int) (k : Nat) : List (List Int × Nat) := stUp zs k zs.length
theorem stUp_succ (zs : List Int) (k t : Nat) : stUp zs k (t + 1) = stUp zs k t ++ stAt zs k (zs.length - 1 - t) := by
  unfold stUp; rw [List.range_succ, List.flatMap_append]; simp
/-- The character. -/
def chi : List Nat → List Int → Int
  | [], _ => 1
  | k :: cs, zs => ((stpL zs k).map fun s => sg s.2 * chi cs s.1).sum
theorem sumI_flat {α : Type} (g : α → Int) (f : Nat → List α) : ∀ m, (((List.range m).flatMap f).map g).sum = sZ (fun i => ((f i).map g).sum) m
  | 0 => rfl
  | m + 1 => by rw [List.range_succ, List.flatMap_append, List.map_append, List.sum_append, sZ, ← sumI_flat g f m]; simp
theorem sZ_padX {f : Nat → Int} {m : Nat} : ∀ d, (∀ i, m ≤ i → f i = 0) → sZ f (m + d) = sZ f m
  | 0, _ => rfl
  | d + 1, h => by rw [← Nat.add_assoc, sZ, sZ_padX d h, h _ (by omega), Int.add_zero]
theorem chi_step (k : Nat) (cs : List Nat) (zs : List Int) : chi (k :: cs) zs = sZ (fun i => sZ (fun j => if hkN zs i j = k then sg (htF zs j - 1 - i) * chi cs (stP zs i j) else 0) (pF zs i)) zs.length := by
  rw [chi]
  unfold stpL stUp
  rw [sumI_flat, sZ_rev (fun i => sZ _ (pF zs i))]
  refine sZ_congr _ fun s _ => ?_
  unfold stAt
  rw [sumI_flat]
  refine sZ_congr _ fun j _ => ?_
  split <;> simp
theorem chi_is {m M : Nat} : ∀ (cs : List Nat) (zs : List Int), IsPt zs → zs.length ≤ m → pF zs 0 ≤ M → chi cs zs = chi2 m M cs (pF zs) (htF zs)
  | [], _, _, _, _ => rfl
  | k :: cs, zs, h, hm, hM => by
    rw [chi_step, chi2]
    obtain ⟨d, rfl⟩ : ∃ d, m = zs.length + d := ⟨m - zs.length, by omega⟩
    rw [sZ_padX d (fun i hi => sZ_zero fun j _ => if_neg (by rw [pF_out hi]; omega))]
    refine sZ_congr _ fun i hi => ?_
    have hle : pF zs i ≤ M := by have := pF_mono h 0 i; rw [Nat.zero_add] at this; omega
    obtain ⟨d2, rfl⟩ : ∃ d2, M = pF zs i + d2 := ⟨M - pF zs i, by omega⟩
    rw [sZ_padX d2 (fun j hj => if_neg (by omega))]
    refine sZ_congr _ fun j hj => ?_
    have h1 := (htF_iff h i j).2 hj
    have e : hkN zs i j = k ↔ j < pF zs i ∧ pF zs i + htF zs j = i + j + 1 + k := by unfold hkN; omega
    by_cases hc : hkN zs i j = k
    · have hlen : (stP zs i j).length ≤ zs.length := by rw [stP_len]; exact lfN_le zs i j
      rw [if_pos hc, if_pos (e.1 hc), chi_is (m := zs.length + d) (M := pF zs i + d2) cs (stP zs i j) (stP_pt h hi) (by omega) (by rw [pF_stP h hi]; have := rm_le h i j 0; omega), show pF (stP zs i j) = rmF (pF zs) i j from funext (pF_stP h hi), show htF (stP zs i j) = rmF (htF zs) j i from funext (htF_stP h hi)]
    · rw [if_neg hc, if_neg (fun q => hc (e.2 q))]
/-- Turned over. -/
theorem chi_conj {zs : List Int} (h : IsPt zs) (cs : List Nat) : chi cs (ptConj zs) = sg (lsS cs) * chi cs zs := by
  have h1 : htF zs 0 ≤ zs.length := htF_le h 0
  rw [chi_is (m := pF zs 0) (M := zs.length) cs (ptConj zs) (conj_pt h) (by rw [conj_len]; exact Nat.le_refl _) (by rw [conj_pF h]; exact h1), chi_is (m := zs.length) (M := pF zs 0) cs zs h (Nat.le_refl _) (Nat.le_refl _), show pF (ptConj zs) = htF zs from funext (conj_pF h), show htF (ptConj zs) = pF zs from funext (conj_htF h)]
  exact chi2_conj zs.length (pF zs 0) cs _ _ (pt_cj h)

theorem flat_one {α : Type} {f : Nat → List α} {j : Nat} : ∀ n, j < n → (∀ i, i < n → i ≠ j → f i = []) → (List.range n).flatMap f = f j
  | 0, h, _ => absurd h (Nat.not_lt_zero _)
  | n + 1, h, h0 => by
    rw [List.range_succ, List.flatMap_append, List.flatMap_singleton]
    by_cases e : j = n
    · subst e
      have : (List.range j).flatMap f = [] := List.flatMap_eq_nil_iff.2 fun i hi => h0 i (by have := List.mem_range.1 hi; omega) (by have := List.mem_range.1 hi; omega)
      rw [this, List.nil_append]
    · rw [flat_one n (by omega) (fun i hi => h0 i (by omega)), h0 n (by omega) (fun q => e q.symm), List.append_nil]
theorem ht_mono {zs : List Int} (h : IsPt zs) (j d : Nat) : htF zs (j + d) ≤ htF zs j := by
  induction d with
  | zero => exact Nat.le_refl _
  | succ d ih => exact Nat.le_trans ((pt_cj h).symm.anti (j + d)) ih
theorem hk_fall {zs : List Int} (h : IsPt zs) {i j j' : Nat} (h1 : j < j') (h2 : j' < pF zs i) : hkN zs i j' < hkN zs i j := by
  have h3 := ht_mono h j (j' - j)
  rw [show j + (j' - j) = j' by omega] at h3
  unfold hkN; omega
theorem stAt_one {zs : List Int} (h : IsPt zs) {i j k : Nat} (hj : j < pF zs i) (hk : hkN zs i j = k) : stAt zs k i = [(stP zs i j, htF zs j - 1 - i)] := by
  unfold stAt
  rw [flat_one (j := j) _ hj (fun j' h1 h2 => if_neg (fun e => ?_)), if_pos hk]
  rcases Nat.lt_or_gt_of_ne h2 with q | q
  · have := hk_fall h q hj; omega
  · have := hk_fall h q h1; omega
theorem stAt_none {zs : List Int} {i k : Nat} (hk : ∀ j, j < pF zs i → hkN zs i j ≠ k) : stAt zs k i = [] :=
  List.flatMap_eq_nil_iff.2 fun j hj => if_neg (hk j (List.mem_range.1 hj))
theorem stAt_len {zs : List Int} (h : IsPt zs) (k i : Nat) : (stAt zs k i).length ≤ 1 := by
  by_cases q : ∃ j, j < pF zs i ∧ hkN zs i j = k
  · obtain ⟨j, h1, h2⟩ := q
    rw [stAt_one h h1 h2]; simp
  · rw [stAt_none (fun j h1 h2 => q ⟨j, h1, h2⟩)]; simp
theorem stUp_len {zs : List Int} (h : IsPt zs) (k : Nat) : ∀ t, (stUp zs k t).length ≤ t
  | 0 => by simp [stUp]
  | t + 1 => by rw [stUp_succ, List.length_append]; have := stUp_len h k t; have := stAt_len h k (zs.length - 1 - t); omega
/-- What is in the list. -/
theorem stpL_mem {zs : List Int} (h : IsPt zs) {k : Nat} : ∀ s ∈ stpL zs k, IsPt s.1 ∧ s.1.length ≤ zs.length ∧ s.2 ≤ 40 := fun s hs => by
  unfold stpL stUp at hs
  obtain ⟨t, ht, hs⟩ := List.mem_flatMap.1 hs
  have ht := List.mem_range.1 ht
  unfold stAt at hs
  obtain ⟨j, hj, hs⟩ := List.mem_flatMap.1 hs
  split at hs
  · rw [List.mem_singleton] at hs
    subst hs
    refine ⟨stP_pt h (by omega), ?_, ?_⟩
    · show (stP zs _ j).length ≤ _; rw [stP_len]; exact lfN_le _ _ _
    · show htF zs j - 1 - _ ≤ 40; have := htF_le h j; have := h.len; omega
  · cases hs
theorem pt_ext {a b : List Int} (ha : IsPt a) (hb : IsPt b) (h : ∀ r, pF a r = pF b r) : a = b := by
  have hl : a.length = b.length := by
    rcases Nat.lt_trichotomy a.length b.length with q | q | q
    · have := pF_pos hb q; rw [← h, pF_out (Nat.le_refl _)] at this; omega
    · exact q
    · have := pF_pos ha q; rw [h, pF_out (Nat.le_refl _)] at this; omega
  refine List.ext_getElem hl fun i h1 h2 => ?_
  have e1 := pF_cast ha i
  have e2 := pF_cast hb i
  rw [List.getD, List.getElem?_eq_getElem h1, Option.getD_some] at e1
  rw [List.getD, List.getElem?_eq_getElem h2, Option.getD_some] at e2
  rw [e1, e2, h]
theorem stP_low {zs : List Int} (h : IsPt zs) {i : Nat} (hi : i < zs.length) (hc : pF zs (i + 1) < pF zs i) : stP zs i (pF zs i - 1) = lowQ zs i := by
  refine pt_ext (stP_pt h hi) (low_pt h hi hc) fun r => ?_
  rw [pF_stP h hi, pF_low h hi hc]
  unfold rmF lessB
  by_cases h1 : r < i
  · rw [if_pos h1, if_neg (by omega)]
  · rw [if_neg h1]
    by_cases h2 : r = i
    · subst h2; rw [if_pos rfl, if_neg (by omega)]; omega
    · rw [if_neg h2]
      have h3 := pF_mono h (i + 1) (r - (i + 1))
      rw [show i + 1 + (r - (i + 1)) = r by omega] at h3
      have h4 := pF_anti h r
      rw [if_neg (by omega)]; omega
theorem chi_one (cs : List Nat) {zs : List Int} (h : IsPt zs) : chi (1 :: cs) zs = sZ (fun i => if pF zs (i + 1) < pF zs i then chi cs (lowQ zs i) else 0) zs.length := by
  rw [chi_step]
  refine sZ_congr _ fun i hi => ?_
  have hpos := pF_pos h hi
  have e : ∀ j, j < pF zs i → (hkN zs i j = 1 ↔ j = pF zs i - 1 ∧ pF zs (i + 1) < pF zs i) := fun j hj => by
    have h1 := (htF_iff h i j).2 hj
    have h2 := htF_iff h (i + 1) j
    unfold hkN
    constructor
    · intro q
      have : ¬ (i + 1 < htF zs j) := by omega
      have : ¬ (j < pF zs (i + 1)) := fun z => this (h2.2 z)
      omega
    · intro ⟨q1, q2⟩
      have : ¬ (i + 1 < htF zs j) := fun z => by have := h2.1 z; omega
      omega
  by_cases hc : pF zs (i + 1) < pF zs i
  · have h5 := (e (pF zs i - 1) (by omega)).2 ⟨rfl, hc⟩
    rw [if_pos hc, sZ_one (k := pF zs i - 1) _ (by omega) (fun j hj hne => if_neg (fun q => hne ((e j hj).1 q).1)), if_pos h5, stP_low h hi hc]
    have h6 : htF zs (pF zs i - 1) - 1 - i = 0 := by unfold hkN at h5; omega
    rw [h6]; simp [sg]
  · rw [if_neg hc]
    exact sZ_zero fun j hj => if_neg (fun q => hc ((e j hj).1 q).2)
theorem chi_ones : ∀ (n : Nat) (zs : List Int), IsPt zs → szN zs = n → chi (List.replicate n 1) zs = (stdN zs : Int)
  | 0, zs, h, hn => by
    have h1 := stdN_prod h
    rw [hn] at h1
    have h2 : stdN zs * pL (hkR zs).flatten = 1 := h1
    have h3 := Nat.eq_one_of_mul_eq_one_right h2
    rw [h3]; rfl
  | n + 1, zs, h, hn => by
    have h00 : szN [] = 0 := by decide
    have hne : zs ≠ [] := fun e => by rw [e, h00] at hn; omega
    rw [List.replicate_succ, chi_one _ h, ← below_sum h hne]
    unfold belowL
    rw [sumZ_flat]
    refine sZ_congr _ fun i hi => ?_
    have e1 := pF_cast h i
    have e2 := pF_cast h (i + 1)
    have h3 := pF_anti h i
    by_cases hc : pF zs (i + 1) < pF zs i
    · have h4 := low_size h hi hc
      rw [if_pos hc, if_neg (by rw [e1, e2]; omega), chi_ones n (lowQ zs i) (low_pt h hi hc) (by omega)]
      simp
    · rw [if_neg hc, if_pos (by rw [e1, e2]; omega)]; rfl
/-- A bound. -/
theorem sum_bd (B : Nat) : ∀ l : List Int, (∀ z ∈ l, z.natAbs ≤ B) → l.sum.natAbs ≤ l.length * B
  | [], _ => by simp
  | z :: l, h => by
    have h1 := h z (by simp)
    have h2 := sum_bd B l fun y hy => h y (by simp [hy])
    rw [List.sum_cons, List.length_cons, Nat.succ_mul]
    omega
theorem sg_abs (a : Nat) (z : Int) : (sg a * z).natAbs = z.natAbs := by
  rw [sg_mod]; split <;> simp
theorem chi_bd : ∀ (cs : List Nat) (zs : List Int), IsPt zs → zs.length ≤ 12 → (chi cs zs).natAbs ≤ 12 ^ cs.length
  | [], _, _, _ => by simp [chi]
  | k :: cs, zs, h, hl => by
    rw [chi]
    have h1 := sum_bd (12 ^ cs.length) ((stpL zs k).map fun s => sg s.2 * chi cs s.1) (fun z hz => by
      obtain ⟨s, hs, rfl⟩ := List.mem_map.1 hz
      have hm := stpL_mem h s hs
      rw [sg_abs]
      exact chi_bd cs s.1 hm.1 (by omega))
    have h2 := stUp_len h k zs.length
    rw [List.length_map] at h1
    rw [List.length_cons, Nat.pow_succ]
    refine Nat.le_trans h1 ?_
    rw [Nat.mul_comm (12 ^ cs.length)]
    exact Nat.mul_le_mul_right _ (by show (stUp zs k zs.length).length ≤ 12; omega)

end Go.Proofs.YtmbpcapjldbkbaaDoor
