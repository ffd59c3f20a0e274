/-
  Texts of brackets: in how many ways they end right, their ranks, and the places from which they stay open.
-/
namespace Go.Proofs.YthfbkangjpcpgaaDoor

/-- In how many ways l bytes can end right, where o are open. -/
def eW : Nat → Nat → Nat
  | 0, o => if o = 0 then 1 else 0
  | l + 1, 0 => eW l 1
  | l + 1, o + 1 => eW l (o + 2) + eW l o
theorem eW_far : ∀ l o, l < o → eW l o = 0
  | 0, o, h => by rw [eW, if_neg (by omega)]
  | l + 1, 0, h => by omega
  | l + 1, o + 1, h => by rw [eW, eW_far l (o + 2) (by omega), eW_far l o (by omega)]
theorem eW_le : ∀ l o, eW l o ≤ 2 ^ l
  | 0, o => by rw [eW]; split <;> simp
  | l + 1, 0 => by rw [eW]; have := eW_le l 1; rw [Nat.pow_succ]; omega
  | l + 1, o + 1 => by rw [eW]; have := eW_le l (o + 2); have := eW_le l o; rw [Nat.pow_succ]; omega
theorem eW_step (l o : Nat) : eW (l + 1) o = eW l (o + 1) + if 0 < o then eW l (o - 1) else 0 := by
  cases o with
  | zero => rw [eW]; simp
  | succ o => rw [eW]; simp
theorem eW_up (l o : Nat) : eW l (o + 1) ≤ eW (l + 1) o := by rw [eW_step]; omega

/-- A text is right, where o are open. -/
def rt : Nat → List UInt8 → Bool
  | o, [] => o == 0
  | o, b :: r => if b = 40 then rt (o + 1) r else if b = 41 then decide (0 < o) && rt (o - 1) r else false
/-- How many right texts come ahead. -/
def rk : Nat → List UInt8 → Nat
  | _, [] => 0
  | o, b :: r => if b = 40 then rk (o + 1) r else eW r.length (o + 1) + rk (o - 1) r
/-- The text of that rank. -/
def ur : Nat → Nat → Nat → List UInt8
  | 0, _, _ => []
  | l + 1, o, k => if k < eW l (o + 1) then 40 :: ur l (o + 1) k else 41 :: ur l (o - 1) (k - eW l (o + 1))
theorem ur_len : ∀ l o k, (ur l o k).length = l
  | 0, _, _ => rfl
  | l + 1, o, k => by
    rw [ur]; split
    · rw [List.length_cons, ur_len]
    · rw [List.length_cons, ur_len]
theorem rk_lt : ∀ (s : List UInt8) (o : Nat), rt o s = true → rk o s < eW s.length o
  | [], o, h => by
    have h0 : o = 0 := by simpa [rt] using h
    subst h0; decide
  | b :: r, o, h => by
    rw [rt] at h
    rw [rk, List.length_cons]
    by_cases h1 : b = 40
    · rw [if_pos h1] at h ⊢
      exact Nat.lt_of_lt_of_le (rk_lt r (o + 1) h) (eW_up _ _)
    · rw [if_neg h1] at h ⊢
      by_cases h2 : b = 41
      · rw [if_pos h2, Bool.and_eq_true, decide_eq_true_eq] at h
        have := rk_lt r (o - 1) h.2
        rw [eW_step, if_pos h.1]; omega
      · rw [if_neg h2] at h; cases h
theorem ur_rk : ∀ (s : List UInt8) (o : Nat), rt o s = true → ur s.length o (rk o s) = s
  | [], o, h => rfl
  | b :: r, o, h => by
    rw [rt] at h
    rw [rk, List.length_cons, ur]
    by_cases h1 : b = 40
    · rw [if_pos h1] at h ⊢
      rw [if_pos (rk_lt r (o + 1) h), ur_rk r (o + 1) h, h1]
    · rw [if_neg h1] at h ⊢
      by_cases h2 : b = 41
      · rw [if_pos h2, Bool.and_eq_true, decide_eq_true_eq] at h
        rw [if_neg (by omega), Nat.add_sub_cancel_left, ur_rk r (o - 1) h.2, h2]
      · rw [if_neg h2] at h; cases h
theorem ur_ok : ∀ (l o k : Nat), k < eW l o → rt o (ur l o k) = true ∧ rk o (ur l o k) = k
  | 0, o, k, h => by
    rw [eW] at h
    by_cases h0 : o = 0
    · rw [if_pos h0] at h
      subst h0
      exact ⟨rfl, by rw [ur, rk]; omega⟩
    · rw [if_neg h0] at h; omega
  | l + 1, o, k, h => by
    rw [ur]
    by_cases h1 : k < eW l (o + 1)
    · rw [if_pos h1]
      have := ur_ok l (o + 1) k h1
      rw [rt, rk, if_pos rfl, if_pos rfl]; exact this
    · rw [if_neg h1]
      rw [eW_step] at h
      by_cases h0 : 0 < o
      · rw [if_pos h0] at h
        have := ur_ok l (o - 1) (k - eW l (o + 1)) (by omega)
        refine ⟨by rw [rt, if_neg (by decide), if_pos rfl, this.1]; simp [h0], ?_⟩
        rw [rk, if_neg (by decide), this.2, ur_len]; omega
      · rw [if_neg h0] at h; omega

theorem rt_even : ∀ (s : List UInt8) (o : Nat), rt o s = true → (s.length + o) % 2 = 0
  | [], o, h => by
    have h0 : o = 0 := by simpa [rt] using h
    subst h0; rfl
  | b :: r, o, h => by
    rw [rt] at h
    rw [List.length_cons]
    by_cases h1 : b = 40
    · rw [if_pos h1] at h
      have := rt_even r (o + 1) h; omega
    · rw [if_neg h1] at h
      by_cases h2 : b = 41
      · rw [if_pos h2, Bool.and_eq_true, decide_eq_true_eq] at h
        have := rt_even r (o - 1) h.2; omega
      · rw [if_neg h2] at h; cases h

/-- One text comes ahead of another. -/
def lsB : List UInt8 → List UInt8 → Bool
  | _, [] => false
  | [], _ :: _ => true
  | a :: x, b :: y => a < b || (a == b && lsB x y)
theorem ur_less : ∀ (l o k k' : Nat), k < k' → k' < eW l o → lsB (ur l o k) (ur l o k') = true
  | 0, o, k, k', h, h' => by
    rw [eW] at h'
    split at h' <;> omega
  | l + 1, o, k, k', h, h' => by
    rw [ur, ur]
    by_cases h1 : k' < eW l (o + 1)
    · rw [if_pos h1, if_pos (by omega), lsB, ur_less l (o + 1) k k' h h1]; rfl
    · rw [if_neg h1]
      by_cases h2 : k < eW l (o + 1)
      · rw [if_pos h2, lsB]; rfl
      · rw [if_neg h2, lsB]
        rw [eW_step] at h'
        by_cases h0 : 0 < o
        · rw [if_pos h0] at h'
          rw [ur_less l (o - 1) _ _ (by omega) (by omega)]; rfl
        · rw [if_neg h0] at h'; omega

/-- By how much a byte makes more open. -/
def stB (b : UInt8) : Int := if b = 40 then 1 else if b = 41 then -1 else 0
def smB : List UInt8 → Int
  | [] => 0
  | b :: r => stB b + smB r
theorem smB_app : ∀ x y, smB (x ++ y) = smB x + smB y
  | [], y => by simp [smB]
  | b :: x, y => by rw [List.cons_append, smB, smB, smB_app x y]; omega
theorem stB_one (b : UInt8) : stB b ≤ 1 := by unfold stB; split <;> (try split) <;> omega
/-- After each byte more have opened than closed. -/
def sty : Int → List UInt8 → Bool
  | _, [] => true
  | o, b :: r => decide (0 < o + stB b) && sty (o + stB b) r
theorem sty_iff : ∀ (s : List UInt8) (o : Int), sty o s = true ↔ ∀ t, 1 ≤ t → t ≤ s.length → 0 < o + smB (s.take t)
  | [], o => ⟨fun _ t h1 h2 => by simp at h2; omega, fun _ => rfl⟩
  | b :: r, o => by
    rw [sty, Bool.and_eq_true, decide_eq_true_eq, sty_iff r]
    constructor
    · rintro ⟨h1, h2⟩ t ht1 ht2
      obtain ⟨t, rfl⟩ : ∃ q, t = q + 1 := ⟨t - 1, by omega⟩
      rw [List.take_succ_cons, smB]
      by_cases h0 : t = 0
      · subst h0; simp [smB]; exact h1
      · have := h2 t (by omega) (by simpa using ht2); omega
    · intro h
      refine ⟨?_, fun t ht1 ht2 => ?_⟩
      · have := h 1 (by omega) (by simp)
        simpa [smB] using this
      · have := h (t + 1) (by omega) (by simpa using ht2)
        rw [List.take_succ_cons, smB] at this; omega

/-- The least of n + 1 numbers from place i on. -/
def mnP (P : Nat → Int) : Nat → Nat → Int
  | 0, i => P i
  | n + 1, i => min (P i) (mnP P n (i + 1))
theorem mnP_le (P : Nat → Int) : ∀ n i t, t ≤ n → mnP P n i ≤ P (i + t)
  | 0, i, t, h => by obtain rfl : t = 0 := by omega
                     exact Int.le_refl _
  | n + 1, i, t, h => by
    rw [mnP]
    by_cases h0 : t = 0
    · subst h0; exact Int.min_le_left _ _
    · have := mnP_le P n (i + 1) (t - 1) (by omega)
      rw [show i + 1 + (t - 1) = i + t by omega] at this
      exact Int.le_trans (Int.min_le_right _ _) this
theorem mnP_ex (P : Nat → Int) : ∀ n i, ∃ t, t ≤ n ∧ mnP P n i = P (i + t)
  | 0, i => ⟨0, Nat.le_refl _, rfl⟩
  | n + 1, i => by
    rw [mnP]
    rcases Int.le_total (P i) (mnP P n (i + 1)) with h | h
    · exact ⟨0, by omega, by rw [Int.min_eq_left h]; rfl⟩
    · obtain ⟨t, h1, h2⟩ := mnP_ex P n (i + 1)
      exact ⟨t + 1, by omega, by rw [Int.min_eq_right h, h2, show i + 1 + t = i + (t + 1) by omega]⟩

/-- DVORETZKY, MOTZKIN: counted along. -/
theorem cycle_along {P : Nat → Int} {m : Nat} {d : Int} (hs : ∀ j, P (j + 1) ≤ P j + 1) (hp : ∀ t, t ≤ m → P (m + t) = P t + d) (hd : 0 ≤ d) (g : Nat → Bool) (hg : ∀ i, i < m → (g i = true ↔ ∀ t, 1 ≤ t → t ≤ m → P i < P (i + t))) :
    ∀ n, n ≤ m → mnP P m n = mnP P m 0 + (((List.range n).filter g).length : Int)
  | 0, _ => by simp
  | n + 1, h => by
    have ih := cycle_along hs hp hd g hg n (by omega)
    have hr : (((List.range (n + 1)).filter g).length : Int) = (((List.range n).filter g).length : Int) + (if g n = true then 1 else 0) := by
      rw [List.range_succ, List.filter_append, List.length_append]
      by_cases hgn : g n = true
      · rw [List.filter_cons_of_pos hgn, if_pos hgn]; simp
      · rw [List.filter_cons_of_neg hgn, if_neg hgn]; simp
    have hper : P (n + 1 + m) = P (n + 1) + d := by rw [Nat.add_comm]; exact hp (n + 1) h
    have a1 := mnP_le P m (n + 1) 0 (by omega)
    have b1 := mnP_le P m n 1 (by omega)
    obtain ⟨t1, ht1, e1⟩ := mnP_ex P m n
    obtain ⟨t2, ht2, e2⟩ := mnP_ex P m (n + 1)
    have b2 := hs n
    rw [Nat.add_zero] at a1
    by_cases hgn : g n = true
    · have hG := (hg n (by omega)).1 hgn
      have c1 : mnP P m n = P n := by
        have c2 := mnP_le P m n 0 (by omega)
        rw [Nat.add_zero] at c2
        by_cases h0 : t1 = 0
        · rw [e1, h0]; rfl
        · have := hG t1 (by omega) ht1; omega
      have c3 : P n < mnP P m (n + 1) := by
        by_cases h0 : t2 < m
        · have := hG (t2 + 1) (by omega) (by omega)
          rw [e2, show n + 1 + t2 = n + (t2 + 1) by omega]; exact this
        · obtain rfl : t2 = m := by omega
          have := hG 1 (by omega) (by omega)
          rw [e2, hper]; omega
      rw [hr, if_pos hgn]; omega
    · have hN : ∃ t, 1 ≤ t ∧ t ≤ m ∧ P (n + t) ≤ P n := by
        refine Classical.byContradiction fun q => hgn ((hg n (by omega)).2 fun t h1 h2 => ?_)
        rcases Int.lt_or_le (P n) (P (n + t)) with h3 | h3
        · exact h3
        · exact absurd ⟨t, h1, h2, h3⟩ q
      obtain ⟨t, k1, k2, k3⟩ := hN
      have c1 : mnP P m n ≤ mnP P m (n + 1) := by
        by_cases h0 : t2 < m
        · have := mnP_le P m n (t2 + 1) (by omega)
          rw [e2, show n + 1 + t2 = n + (t2 + 1) by omega]; exact this
        · obtain rfl : t2 = m := by omega
          rw [e2, hper]; omega
      have c2 : mnP P m (n + 1) ≤ mnP P m n := by
        by_cases h0 : t1 = 0
        · have := mnP_le P m (n + 1) (t - 1) (by omega)
          rw [show n + 1 + (t - 1) = n + t by omega] at this
          have h4 : P (n + t1) = P n := by rw [h0]; rfl
          omega
        · have := mnP_le P m (n + 1) (t1 - 1) (by omega)
          rw [show n + 1 + (t1 - 1) = n + t1 by omega] at this
          rw [e1]; exact this
      rw [hr, if_neg hgn]; omega

/-- The places from which on a text, read round, stays open. -/
def tnB (s : List UInt8) (i : Nat) : Bool := sty 0 (s.drop i ++ s.take i)
def tnL (s : List UInt8) : List Nat := (List.range s.length).filter (tnB s)
theorem tnL_len (s : List UInt8) : ((tnL s).length : Int) = max 0 (smB s) := by
  obtain ⟨P, hP⟩ : ∃ P : Nat → Int, P = fun j => smB ((s ++ s).take j) := ⟨_, rfl⟩
  obtain ⟨m, hm⟩ : ∃ m, m = s.length := ⟨_, rfl⟩
  have hs : ∀ j, P (j + 1) ≤ P j + 1 := fun j => by
    rw [hP]
    show smB _ ≤ smB _ + 1
    rw [List.take_add_one, smB_app]
    cases h : (s ++ s)[j]? with
    | none => simp [smB]; omega
    | some b => have := stB_one b; simp [smB]; omega
  have hp : ∀ t, t ≤ m → P (m + t) = P t + smB s := fun t ht => by
    rw [hP]
    show smB _ = smB _ + _
    rw [List.take_append, List.take_append, hm, List.take_of_length_le (by omega : s.length ≤ s.length + t), Nat.add_sub_cancel_left, show t - s.length = 0 by omega]
    simp only [List.take_zero, List.append_nil]
    rw [smB_app]; omega
  have hrot : ∀ i t, i < m → t ≤ m → smB ((s.drop i ++ s.take i).take t) = P (i + t) - P i := fun i t hi ht => by
    have e1 : (s.drop i ++ s.take i).take t = ((s ++ s).drop i).take t := by
      rw [List.drop_append, show i - s.length = 0 by omega, List.drop_zero, List.take_append, List.take_append, List.length_drop, List.take_take, Nat.min_eq_left (by omega)]
    have e2 : (s ++ s).take (i + t) = (s ++ s).take i ++ ((s ++ s).drop i).take t := by rw [List.take_add]
    rw [e1, hP]
    show _ = smB _ - smB _
    rw [e2, smB_app]; omega
  have hg : ∀ i, i < m → (tnB s i = true ↔ ∀ t, 1 ≤ t → t ≤ m → P i < P (i + t)) := fun i hi => by
    have hl : (s.drop i ++ s.take i).length = m := by rw [List.length_append, List.length_drop, List.length_take]; omega
    unfold tnB
    rw [sty_iff, hl]
    constructor
    · intro h t h1 h2
      have := h t h1 h2
      rw [hrot i t hi h2] at this; omega
    · intro h t h1 h2
      have := h t h1 h2
      rw [hrot i t hi h2]; omega
  rcases Int.le_total 0 (smB s) with hd | hd
  · have h := cycle_along hs hp hd (tnB s) hg m (Nat.le_refl _)
    have hmm : mnP P m m = mnP P m 0 + smB s := by
      obtain ⟨t1, a1, a2⟩ := mnP_ex P m m
      obtain ⟨t2, b1, b2⟩ := mnP_ex P m 0
      have c1 := mnP_le P m m t2 b1
      have c2 := mnP_le P m 0 t1 a1
      rw [hp t2 b1] at c1
      rw [hp t1 a1] at a2
      rw [Nat.zero_add] at b2 c2
      omega
    unfold tnL
    rw [← hm, Int.max_eq_right hd]; omega
  · have h0 : tnL s = [] := by
      unfold tnL
      rw [List.filter_eq_nil_iff]
      intro i hi hgi
      rw [List.mem_range, ← hm] at hi
      have := (hg i hi).1 hgi m (by omega) (Nat.le_refl _)
      rw [Nat.add_comm, hp i (by omega)] at this
      omega
    rw [h0, Int.max_eq_left hd]; rfl
/-- As many open as there are brackets of that kind. -/
theorem smB_count : ∀ s : List UInt8, smB s = (s.count 40 : Int) - (s.count 41 : Int)
  | [] => rfl
  | b :: r => by
    rw [smB, smB_count r, List.count_cons, List.count_cons]
    unfold stB
    by_cases h1 : b = 40
    · subst h1; rw [if_pos rfl]; simp; omega
    · by_cases h2 : b = 41
      · subst h2; rw [if_neg h1, if_pos rfl]; simp; omega
      · rw [if_neg h1, if_neg h2]; simp [h1, h2]

end Go.Proofs.YthfbkangjpcpgaaDoor
