/-
  FRANKLIN'S: what moved moves back; what does not move is a pentagonal number. Plain facts on lists of numbers.
-/
import Derived.Test.YtnjbkiegeielhaaPlain
namespace Go.Proofs.Ytnjbkiegeielhaa

/-- A partition without two parts that are the same. -/
def Dist (zs : List Int) : Prop := IsPart zs ∧ Goes 0 1 zs

theorem chkD_ok {zs : List Int} : chkD zs = 0 ↔ Dist zs := by
  unfold chkD Dist
  by_cases h : IsPart zs
  · rw [if_pos (chk_ok.2 h)]
    by_cases hg : Goes 0 1 zs
    · rw [if_pos (goesB_pos hg)]; simp [h, hg]
    · rw [if_neg (by rw [goesB_neg hg]; simp)]; simp [hg]
  · rw [if_neg (fun e => h (chk_ok.1 e))]
    constructor
    · intro e; exact absurd (chk_ok.1 e) h
    · intro e; exact absurd e.1 h

theorem Dist.step {zs : List Int} (h : Dist zs) {j : Nat} (hj : j + 1 < zs.length) : zs.getD (j + 1) 0 + 1 ≤ zs.getD j 0 := by
  have := (h.2 (j + 1) hj).2 (by omega)
  simpa using this

/-- From place i on to place j it goes down by at least j - i. -/
theorem Dist.down {zs : List Int} (h : Dist zs) : ∀ (d i : Nat), i + d < zs.length → zs.getD (i + d) 0 + d ≤ zs.getD i 0 := by
  intro d
  induction d with
  | zero => intro i _; simp
  | succ d ih =>
    intro i hi
    have h1 := ih i (by omega)
    have h2 := h.step (j := i + d) (by omega)
    have : i + (d + 1) = i + d + 1 := by omega
    rw [this]; omega

theorem Dist.le {zs : List Int} (h : Dist zs) {i j : Nat} (hij : i ≤ j) (hj : j < zs.length) : zs.getD j 0 + (j - i : Nat) ≤ zs.getD i 0 := by
  have := h.down (j - i) i (by omega)
  rwa [show i + (j - i) = j by omega] at this

theorem dist_of {zs : List Int} (h1 : ∀ j, j < zs.length → 1 ≤ zs.getD j 0) (h2 : ∀ j, j + 1 < zs.length → zs.getD (j + 1) 0 + 1 ≤ zs.getD j 0) (hs : sum zs ≤ 40) : Dist zs := by
  refine ⟨⟨fun j hj => ⟨h1 j hj, fun h0 => ?_⟩, hs⟩, fun j hj => ⟨by have := h1 j hj; omega, fun h0 => ?_⟩⟩
  · obtain ⟨m, rfl⟩ : ∃ m, j = m + 1 := ⟨j - 1, by omega⟩
    have := h2 m hj; simp only [Nat.add_sub_cancel]; omega
  · obtain ⟨m, rfl⟩ : ∃ m, j = m + 1 := ⟨j - 1, by omega⟩
    have := h2 m hj; simp only [Nat.add_sub_cancel]; omega

theorem sum_map_add (d : Int) (zs : List Int) : sum (zs.map (· + d)) = sum zs + d * zs.length := by
  induction zs with
  | nil => simp [sum]
  | cons x l ih =>
    simp only [List.map_cons, sum, ih, List.length_cons]
    have : d * ((l.length + 1 : Nat) : Int) = d * l.length + d := by rw [Int.natCast_add, Int.mul_add]; simp
    rw [this]; omega

theorem sum_bump (k : Nat) (d : Int) (zs : List Int) (hk : k ≤ zs.length) : sum (bump k d zs) = sum zs + d * k := by
  unfold bump
  rw [sum_append, sum_map_add]
  have h1 : sum zs = sum (zs.take k) + sum (zs.drop k) := by rw [← sum_append, List.take_append_drop]
  have h2 : (zs.take k).length = k := by simp; omega
  rw [h1, h2]; omega

theorem runN_ge (zs : List Int) (k : Nat) (hk : k ≤ zs.length) (h : ∀ i, i < k → zs.getD i 0 = zs.getD 0 0 - i) : k ≤ runN zs := by
  unfold runN; rw [runL_drop _ zs k hk h]; omega
theorem runN_at (zs : List Int) {i : Nat} (hi : i < runN zs) : zs.getD i 0 = zs.getD 0 0 - i := runL_at _ _ i hi
theorem runN_end (zs : List Int) (h : runN zs < zs.length) : zs.getD (runN zs) 0 ≠ zs.getD 0 0 - runN zs := runL_end _ _ h

theorem bump_back (k : Nat) (d : Int) (zs : List Int) : bump k (-d) (bump k d zs) = zs := by
  refine ext_getD (by simp [bump_length]) (fun j hj => ?_)
  rw [bump_length, bump_length] at hj
  rw [bump_getD _ _ _ _ (by rw [bump_length]; exact hj), bump_getD _ _ _ _ hj]
  split <;> omega

theorem take_last (zs : List Int) (h : 0 < zs.length) : zs.take (zs.length - 1) ++ [lastOf zs] = zs := by
  have := take_snoc zs (zs.length - 1) (by omega)
  unfold lastOf
  rw [← this, show zs.length - 1 + 1 = zs.length by omega, List.take_length]

theorem getD_take {zs : List Int} {n j : Nat} (h : j < n) : (zs.take n).getD j 0 = zs.getD j 0 := by
  simp [List.getD, h]

theorem getD_append_left' {a b : List Int} {j : Nat} (h : j < a.length) : (a ++ b).getD j 0 = a.getD j 0 := by
  simp only [List.getD]; rw [List.getElem?_append_left h]
theorem getD_snoc {a : List Int} {x : Int} : (a ++ [x]).getD a.length 0 = x := by
  simp [List.getD]

/-- The way down: it is a way up back. -/
theorem down_up {zs : List Int} (h : Dist zs) (hne : 0 < zs.length) (hd : frankDown zs) :
    Dist (downOf zs) ∧ 0 < (downOf zs).length ∧ frankUp (downOf zs) ∧ upOf (downOf zs) = zs ∧ sum (downOf zs) = sum zs ∧ zs.length = (downOf zs).length + 1 := by
  obtain ⟨hd1, hd2⟩ := hd
  have hR := runN_le zs
  have hL1 : 1 ≤ lastOf zs := (h.1.range _ (getD_mem (show zs.length - 1 < zs.length by omega))).1
  obtain ⟨L, hL⟩ : ∃ L : Nat, lastOf zs = L := ⟨(lastOf zs).toNat, by omega⟩
  have hLn : L + 1 ≤ zs.length := by omega
  have htl : (zs.take (zs.length - 1)).length = zs.length - 1 := by simp
  have hlen : (downOf zs).length = zs.length - 1 := by unfold downOf; rw [bump_length, htl]
  have hq : ∀ j, j < zs.length - 1 → (downOf zs).getD j 0 = zs.getD j 0 + if j < L then 1 else 0 := by
    intro j hj
    unfold downOf
    rw [bump_getD _ _ _ _ (by rw [htl]; exact hj), getD_take hj, hL]; simp
  have hlast : zs.getD (zs.length - 1) 0 = L := hL
  have hsum : sum (downOf zs) = sum zs := by
    unfold downOf
    rw [sum_bump _ _ _ (by rw [htl, hL]; simp; omega), hL]
    conv => rhs; rw [← take_last zs hne, sum_append, hL]
    simp [sum]
  have hrun : runN (downOf zs) = L := by
    refine runN_of _ L (by omega) (fun i hi => ?_) (fun hlt => ?_)
    · rw [hq i (by omega), hq 0 (by omega), if_pos hi, if_pos (by omega), runN_at zs (i := i) (by omega)]; omega
    · rw [hq L (by omega), hq 0 (by omega), if_neg (Nat.lt_irrefl _), if_pos (by omega)]
      have := h.le (i := 0) (j := L) (by omega) (by omega)
      simp only [Nat.sub_zero] at this; omega
  have hlo : lastOf (downOf zs) = zs.getD (zs.length - 2) 0 + if zs.length - 2 < L then 1 else 0 := by
    unfold lastOf
    rw [hlen, show zs.length - 1 - 1 = zs.length - 2 by omega, hq _ (by omega)]
  have hst : (L : Int) + 1 ≤ zs.getD (zs.length - 2) 0 := by
    have := h.step (j := zs.length - 2) (by omega)
    rw [show zs.length - 2 + 1 = zs.length - 1 by omega, hlast] at this; exact this
  refine ⟨dist_of (fun j hj => ?_) (fun j hj => ?_) (by rw [hsum]; exact h.1.2), by omega, ⟨?_, ?_⟩, ?_, hsum, by omega⟩
  · rw [hlen] at hj
    have := (h.1.range _ (getD_mem (show j < zs.length by omega))).1
    rw [hq j hj]; split <;> omega
  · rw [hlen] at hj
    have := h.step (j := j) (by omega)
    rw [hq _ (by omega), hq _ (by omega)]
    split <;> split <;> omega
  · rw [hrun, hlo]; split <;> omega
  · rintro ⟨e1, e2⟩
    rw [hrun, hlen] at e1
    rw [hlo, hlen, if_pos (by omega)] at e2
    omega
  · unfold upOf
    rw [hrun]
    unfold downOf
    rw [hL, Int.toNat_natCast, bump_back, ← hL, take_last zs hne]

/-- The way up: it is a way down back. -/
theorem up_down {zs : List Int} (h : Dist zs) (hne : 0 < zs.length) (hu : frankUp zs) :
    Dist (upOf zs) ∧ 0 < (upOf zs).length ∧ frankDown (upOf zs) ∧ downOf (upOf zs) = zs ∧ sum (upOf zs) = sum zs ∧ (upOf zs).length = zs.length + 1 := by
  obtain ⟨hu1, hu2⟩ := hu
  have hR := runN_le zs
  have hR1 := runN_pos hne
  obtain ⟨R, hRe⟩ : ∃ R, runN zs = R := ⟨_, rfl⟩
  rw [hRe] at hu1 hu2 hR hR1
  have hbl : (bump R (-1) zs).length = zs.length := bump_length _ _ _
  have hlen : (upOf zs).length = zs.length + 1 := by unfold upOf; rw [hRe]; simp [hbl]
  have hq : ∀ j, j < zs.length → (upOf zs).getD j 0 = zs.getD j 0 - if j < R then 1 else 0 := by
    intro j hj
    unfold upOf
    rw [hRe, getD_append_left' (by rw [hbl]; exact hj), bump_getD _ _ _ _ hj]; split <;> omega
  have hqn : (upOf zs).getD zs.length 0 = R := by
    unfold upOf
    rw [hRe]
    conv => lhs; arg 2; rw [← hbl]
    exact getD_snoc
  have hlo : lastOf (upOf zs) = R := by unfold lastOf; rw [hlen]; exact hqn
  have hsum : sum (upOf zs) = sum zs := by
    unfold upOf
    rw [hRe, sum_append, sum_bump _ _ _ hR]; simp only [sum]; omega
  have hLlast : lastOf zs = zs.getD (zs.length - 1) 0 := rfl
  have hge : ∀ j, j < zs.length → lastOf zs ≤ zs.getD j 0 := by
    intro j hj
    have := h.le (i := j) (j := zs.length - 1) (by omega) (by omega)
    rw [hLlast]; omega
  have hstR : R < zs.length → zs.getD R 0 + 1 ≤ zs.getD 0 0 - R := by
    intro hlt
    have e1 := runN_end zs (by rw [hRe]; exact hlt)
    rw [hRe] at e1
    have e2 := h.le (i := 0) (j := R) (by omega) hlt
    simp only [Nat.sub_zero] at e2; omega
  have hrun : R ≤ runN (upOf zs) := by
    refine runN_ge _ R (by omega) (fun i hi => ?_)
    rw [hq i (by omega), hq 0 (by omega), if_pos hi, if_pos (by omega), runN_at zs (i := i) (by omega)]; omega
  refine ⟨dist_of (fun j hj => ?_) (fun j hj => ?_) (by rw [hsum]; exact h.1.2), by omega, ⟨by rw [hlo]; omega, ?_⟩, ?_, hsum, hlen⟩
  · rw [hlen] at hj
    by_cases hjn : j = zs.length
    · subst hjn; rw [hqn]; omega
    · rw [hq j (by omega)]
      have := hge j (by omega)
      split <;> omega
  · rw [hlen] at hj
    by_cases hjn : j + 1 = zs.length
    · rw [hjn, hqn, hq j (by omega)]
      have hj2 : zs.getD j 0 = lastOf zs := by rw [hLlast, show zs.length - 1 = j by omega]
      rw [hj2]
      by_cases hjR : j < R
      · rw [if_pos hjR]; omega
      · rw [if_neg hjR]; omega
    · have hst := h.step (j := j) (by omega)
      rw [hq _ (by omega), hq _ (by omega)]
      by_cases hj1 : j + 1 < R
      · rw [if_pos hj1, if_pos (by omega)]; omega
      · by_cases hj2 : j < R
        · rw [if_neg hj1, if_pos hj2]
          have : j + 1 = R := by omega
          have e := hstR (by omega)
          rw [this]
          have e3 := runN_at zs (i := j) (by omega)
          omega
        · rw [if_neg hj1, if_neg hj2]; omega
  · rintro ⟨_, e2⟩
    rw [hlo, hlen] at e2; omega
  · unfold downOf
    rw [hlo, hlen]
    unfold upOf
    rw [hRe, Int.toNat_natCast, show zs.length + 1 - 1 = (bump R (-1) zs).length by rw [hbl]; omega, List.take_left]
    have := bump_back R (-1) zs
    simpa using this

theorem run_alg (m z : Int) : 2 * z + m * (2 * (z - 1) - m + 1) = (m + (1 : Nat)) * (2 * z - (m + (1 : Nat)) + 1) := by
  have e1 : 2 * (z - 1) - m + 1 = (2 * z - m) - 1 := by omega
  have e2 : 2 * z - (m + ((1 : Nat) : Int)) + 1 = 2 * z - m := by omega
  rw [e1, e2, Int.mul_sub m (2 * z - m) 1, Int.add_mul]
  omega

theorem sum_run (zs : List Int) : ∀ z : Int, (∀ i, i < zs.length → zs.getD i 0 = z - i) → 2 * sum zs = (zs.length : Int) * (2 * z - zs.length + 1) := by
  induction zs with
  | nil => intro z _; simp [sum]
  | cons x l ih =>
    intro z h
    have h0 := h 0 (by simp)
    simp at h0
    have h1 := ih (z - 1) (fun i hi => by have := h (i + 1) (by simp; omega); simp only [List.getD_cons_succ] at this; rw [this]; omega)
    simp only [sum, List.length_cons]
    rw [h0]
    have e : (2 : Int) * (z + sum l) = 2 * z + 2 * sum l := by omega
    rw [e, h1, Int.natCast_add]
    exact run_alg _ _

/-- What does not move is a pentagonal number. -/
theorem stay_pent {zs : List Int} (_h : Dist zs) (hne : 0 < zs.length) (hd : ¬ frankDown zs) (hu : ¬ frankUp zs) :
    2 * sum zs = (zs.length : Int) * (3 * zs.length - 1) ∨ 2 * sum zs = (zs.length : Int) * (3 * zs.length + 1) := by
  have hR := runN_le zs
  have hRn : runN zs = zs.length := by unfold frankDown at hd; unfold frankUp at hu; omega
  have hL : lastOf zs = zs.length ∨ lastOf zs = zs.length + 1 := by unfold frankDown at hd; unfold frankUp at hu; omega
  have hs := sum_run zs (zs.getD 0 0) (fun i hi => runN_at zs (by omega))
  have hla : lastOf zs = zs.getD 0 0 - (zs.length - 1 : Nat) := runN_at zs (by omega)
  have hz0 : zs.getD 0 0 = lastOf zs + zs.length - 1 := by omega
  rcases hL with hL | hL
  · left; rw [hs, hz0, hL]; congr 1; omega
  · right; rw [hs, hz0, hL]; congr 1; omega

#print axioms down_up
#print axioms up_down
#print axioms stay_pent
end Go.Proofs.Ytnjbkiegeielhaa
