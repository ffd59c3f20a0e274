/-
  Right fillings as the search finds them: plain.
  How many there can be: plain.
  Right fillings letter by letter: tables, words and what stays of them: plain.
-/
import Derived.Test.YtgcpconlmihilaaGreatDoorBOwn
namespace Go.Proofs.YtgcpconlmihilaaGreatDoor

/-- One box changed. -/
def upd2 (g : Nat → Nat → Nat) (i j x : Nat) : Nat → Nat → Nat := fun a b => if a = i ∧ b = j then x else g a b
def inc1 (u : Nat → Nat) (x : Nat) : Nat → Nat := fun y => if y = x then u y + 1 else u y
theorem upd2_same (g : Nat → Nat → Nat) (i j x : Nat) : upd2 g i j x i j = x := by simp [upd2]
theorem upd2_other (g : Nat → Nat → Nat) {i j x a b : Nat} (h : ¬ (a = i ∧ b = j)) : upd2 g i j x a b = g a b := by simp [upd2, h]

/-- The rows c, filled by g. -/
def tabN (c : Nat → Nat) (m : Nat) (g : Nat → Nat → Nat) : List (List Nat) := (List.range m).map fun i => (List.range (c i)).map (g i)
theorem tabN_at {c : Nat → Nat} {m : Nat} {g : Nat → Nat → Nat} {i j : Nat} (hi : i < m) (hj : j < c i) : ((tabN c m g).getD i []).getD j 0 = g i j := by
  simp [tabN, List.getD, hi, hj]
theorem tabN_congr {c : Nat → Nat} {m : Nat} {g g' : Nat → Nat → Nat} (h : ∀ i j, i < m → j < c i → g i j = g' i j) : tabN c m g = tabN c m g' := by
  unfold tabN
  refine List.map_congr_left fun i hi => List.map_congr_left fun j hj => h i j (List.mem_range.1 hi) (List.mem_range.1 hj)

def loN (g : Nat → Nat → Nat) (i j : Nat) : Nat := if i = 0 then 1 else g (i - 1) j + 1
def hiN (n : Nat) (c : Nat → Nat) (g : Nat → Nat → Nat) (i j : Nat) : Nat := if j + 1 = c i then n else g i (j + 1)
def mayN (b u : Nat → Nat) (x : Nat) : Bool := decide (u x ≠ b x) && (decide (x = 1) || decide (u x < u (x - 1)))

/-- What the search hands on. -/
def srch (n : Nat) (b c : Nat → Nat) (m : Nat) : List (Nat × Nat) → (Nat → Nat → Nat) → (Nat → Nat) → List (List (List Nat))
  | [], g, _ => [tabN c m g]
  | (i, j) :: bs, g, u => (List.range' (loN g i j) (hiN n c g i j + 1 - loN g i j)).flatMap fun x => if mayN b u x then srch n b c m bs (upd2 g i j x) (inc1 u x) else []

/-- The boxes come in such an order that what is above and what is right of one comes ahead of it. -/
def OrdB : List (Nat × Nat) → Prop
  | [] => True
  | (i, j) :: bs => (i, j) ∉ bs ∧ (0 < i → (i - 1, j) ∉ bs) ∧ (i, j + 1) ∉ bs ∧ OrdB bs

def Loc (n : Nat) (b c : Nat → Nat) : List (Nat × Nat) → (Nat → Nat → Nat) → (Nat → Nat) → Prop
  | [], _, _ => True
  | (i, j) :: bs, g, u => loN g i j ≤ g i j ∧ g i j ≤ hiN n c g i j ∧ mayN b u (g i j) = true ∧ Loc n b c bs g (inc1 u (g i j))

theorem lo_congr {g g' : Nat → Nat → Nat} {i j : Nat} (h : 0 < i → g (i - 1) j = g' (i - 1) j) : loN g i j = loN g' i j := by
  unfold loN
  split
  · rfl
  · rw [h (by omega)]
theorem hi_congr {n : Nat} {c : Nat → Nat} {g g' : Nat → Nat → Nat} {i j : Nat} (h : g i (j + 1) = g' i (j + 1)) : hiN n c g i j = hiN n c g' i j := by
  unfold hiN; rw [h]

/-- What lies in the boxes that are still to come makes no difference. -/
theorem srch_congr (n : Nat) (b c : Nat → Nat) (m : Nat) : ∀ (bs : List (Nat × Nat)) (g g' : Nat → Nat → Nat) (u : Nat → Nat), OrdB bs → (∀ i j, (i, j) ∉ bs → g i j = g' i j) → srch n b c m bs g u = srch n b c m bs g' u := by
  intro bs
  induction bs with
  | nil => intro g g' u _ h; simp only [srch]; rw [show g = g' from funext fun i => funext fun j => h i j (by simp)]
  | cons x bs ih =>
    obtain ⟨i, j⟩ := x
    intro g g' u ho h
    obtain ⟨h1, h2, h3, h4⟩ := ho
    have e1 : loN g i j = loN g' i j := lo_congr (fun hi => h _ _ (by simp only [List.mem_cons, not_or]; exact ⟨fun e => by have := (Prod.mk.inj e).1; omega, h2 hi⟩))
    have e2 : hiN n c g i j = hiN n c g' i j := hi_congr (h _ _ (by simp only [List.mem_cons, not_or]; exact ⟨fun e => by have := (Prod.mk.inj e).2; omega, h3⟩))
    simp only [srch]
    rw [e1, e2]
    congr 1
    funext x
    split
    · refine ih _ _ _ h4 fun a b hab => ?_
      by_cases e : a = i ∧ b = j
      · obtain ⟨rfl, rfl⟩ := e; rw [upd2_same, upd2_same]
      · rw [upd2_other _ e, upd2_other _ e]
        exact h _ _ (by simp only [List.mem_cons, not_or]; exact ⟨fun e2 => e (Prod.mk.inj e2), hab⟩)
    · rfl

theorem mem_srch (n : Nat) (b c : Nat → Nat) (m : Nat) : ∀ (bs : List (Nat × Nat)) (g : Nat → Nat → Nat) (u : Nat → Nat) (t : List (List Nat)), OrdB bs →
    (t ∈ srch n b c m bs g u ↔ ∃ g', t = tabN c m g' ∧ (∀ i j, (i, j) ∉ bs → g' i j = g i j) ∧ Loc n b c bs g' u) := by
  intro bs
  induction bs with
  | nil =>
    intro g u t _
    simp only [srch, List.mem_singleton, Loc, and_true]
    constructor
    · rintro rfl; exact ⟨g, rfl, fun _ _ _ => rfl⟩
    · rintro ⟨g', rfl, h⟩
      rw [show g' = g from funext fun i => funext fun j => h i j (by simp)]
  | cons x bs ih =>
    obtain ⟨i, j⟩ := x
    intro g u t ho
    obtain ⟨h1, h2, h3, h4⟩ := ho
    simp only [srch, List.mem_flatMap, Loc]
    have key : ∀ g' : Nat → Nat → Nat, (∀ a b, (a, b) ∉ (i, j) :: bs → g' a b = g a b) → loN g' i j = loN g i j ∧ hiN n c g' i j = hiN n c g i j := fun g' h =>
      ⟨lo_congr (fun hi => h _ _ (by simp only [List.mem_cons, not_or]; exact ⟨fun e => by have := (Prod.mk.inj e).1; omega, h2 hi⟩)),
       hi_congr (h _ _ (by simp only [List.mem_cons, not_or]; exact ⟨fun e => by have := (Prod.mk.inj e).2; omega, h3⟩))⟩
    constructor
    · rintro ⟨x, hx, ht⟩
      by_cases hm : mayN b u x = true
      · rw [if_pos hm] at ht
        obtain ⟨g', rfl, hg, hl⟩ := (ih _ _ _ h4).1 ht
        have e : g' i j = x := by rw [hg i j h1, upd2_same]
        have hg2 : ∀ a b, (a, b) ∉ (i, j) :: bs → g' a b = g a b := fun a b hab => by
          simp only [List.mem_cons, not_or] at hab
          rw [hg a b hab.2, upd2_other _ (fun e2 => hab.1 (by rw [e2.1, e2.2]))]
        obtain ⟨k1, k2⟩ := key g' hg2
        have hr := List.mem_range'_1.1 hx
        exact ⟨g', rfl, hg2, by rw [k1, e]; exact hr.1, by rw [k2, e]; omega, by rw [e]; exact hm, by rw [e]; exact hl⟩
      · rw [if_neg hm] at ht; cases ht
    · rintro ⟨g', rfl, hg, l1, l2, l3, l4⟩
      obtain ⟨k1, k2⟩ := key g' hg
      refine ⟨g' i j, List.mem_range'_1.2 ⟨by rw [← k1]; exact l1, by rw [← k1, ← k2]; omega⟩, ?_⟩
      rw [if_pos l3]
      refine (ih _ _ _ h4).2 ⟨g', rfl, fun a b hab => ?_, l4⟩
      by_cases e : a = i ∧ b = j
      · obtain ⟨rfl, rfl⟩ := e; rw [upd2_same]
      · rw [upd2_other _ e]
        exact hg a b (by simp only [List.mem_cons, not_or]; exact ⟨fun e2 => e (Prod.mk.inj e2), hab⟩)

theorem nodup_flat {α β : Type} (f : α → List β) : ∀ l : List α, l.Nodup → (∀ x ∈ l, (f x).Nodup) → (∀ x ∈ l, ∀ y ∈ l, x ≠ y → ∀ z ∈ f x, z ∉ f y) → (l.flatMap f).Nodup := by
  intro l
  induction l with
  | nil => intro _ _ _; simp
  | cons a l ih =>
    intro h1 h2 h3
    rw [List.flatMap_cons, List.nodup_append]
    obtain ⟨ha, hl⟩ := List.nodup_cons.1 h1
    refine ⟨h2 a (by simp), ih hl (fun x hx => h2 x (by simp [hx])) (fun x hx y hy => h3 x (by simp [hx]) y (by simp [hy])), fun z hz z' hz' e => ?_⟩
    subst e
    obtain ⟨y, hy, hzy⟩ := List.mem_flatMap.1 hz'
    exact h3 a (by simp) y (by simp [hy]) (fun e => ha (by rw [e]; exact hy)) z hz hzy

theorem srch_nodup (n : Nat) (b c : Nat → Nat) (m : Nat) : ∀ (bs : List (Nat × Nat)) (g : Nat → Nat → Nat) (u : Nat → Nat), OrdB bs → (∀ p ∈ bs, p.1 < m ∧ p.2 < c p.1) → (srch n b c m bs g u).Nodup := by
  intro bs
  induction bs with
  | nil => intro g u _ _; simp [srch]
  | cons x bs ih =>
    obtain ⟨i, j⟩ := x
    intro g u ho hin
    obtain ⟨h1, h2, h3, h4⟩ := ho
    have hij := hin (i, j) (by simp)
    simp only [srch]
    have hv : ∀ x t, t ∈ (if mayN b u x then srch n b c m bs (upd2 g i j x) (inc1 u x) else []) → (t.getD i []).getD j 0 = x := fun x t ht => by
      split at ht
      · obtain ⟨g', rfl, hg, _⟩ := (mem_srch n b c m bs _ _ _ h4).1 ht
        rw [tabN_at hij.1 hij.2, hg i j h1, upd2_same]
      · cases ht
    refine nodup_flat _ _ (List.nodup_range' ..) (fun x _ => ?_) (fun x _ y _ hxy z hz hz' => hxy ((hv x z hz).symm.trans (hv y z hz')))
    split
    · exact ih _ _ h4 (fun p hp => hin p (by simp [hp]))
    · simp

end Go.Proofs.YtgcpconlmihilaaGreatDoor

namespace Go.Proofs.YtgcpconlmihilaaGreatDoor

/-- How often u falls behind place m, k places on. -/
def cntD (u : Nat → Nat) : Nat → Nat → Nat
  | _, 0 => 0
  | m, k + 1 => (if u (m + 1) < u m then 1 else 0) + cntD u (m + 1) k
def sumU (u : Nat → Nat) : Nat → Nat → Nat
  | m, 0 => u m
  | m, k + 1 => u m + sumU u (m + 1) k
theorem cntD_le (u : Nat → Nat) : ∀ k m, (∀ x, m ≤ x → x < m + k → u (x + 1) ≤ u x) → cntD u m k ≤ u m ∧ cntD u m k * (cntD u m k + 1) ≤ 2 * sumU u m k := by
  intro k
  induction k with
  | zero => intro m _; simp [cntD]
  | succ k ih =>
    intro m h
    obtain ⟨h1, h2⟩ := ih (m + 1) (fun x hx hx2 => h x (by omega) (by omega))
    have h3 := h m (Nat.le_refl _) (by omega)
    simp only [cntD, sumU]
    generalize cntD u (m + 1) k = r at *
    by_cases e : u (m + 1) < u m
    · rw [if_pos e]
      refine ⟨by omega, ?_⟩
      have e1 : (1 + r) * (1 + r + 1) = r * (r + 1) + 2 * (r + 1) := by
        rw [Nat.add_mul, Nat.one_mul, Nat.mul_add r (1 + r) 1, Nat.add_comm 1 r]; omega
      omega
    · rw [if_neg e, Nat.zero_add]
      exact ⟨by omega, by omega⟩
theorem six_of {r S : Nat} (h : r * (r + 1) ≤ 2 * S) (hS : S ≤ 15) : r ≤ 5 := by
  rcases Nat.lt_or_ge 5 r with h1 | h1
  · have : 6 * 7 ≤ r * (r + 1) := Nat.mul_le_mul h1 (by omega)
    omega
  · exact h1

theorem flat_len {α β : Type} (p : α → Bool) (f : α → List β) (M : Nat) : ∀ l : List α, (∀ x ∈ l, p x = true → (f x).length ≤ M) → (l.flatMap fun x => if p x then f x else []).length ≤ l.countP p * M := by
  intro l
  induction l with
  | nil => intro _; simp
  | cons a l ih =>
    intro h
    have h1 := ih (fun x hx => h x (by simp [hx]))
    rw [List.flatMap_cons, List.length_append, List.countP_cons]
    by_cases e : p a = true
    · have := h a (by simp) e
      simp only [e, if_true]
      rw [Nat.add_mul, Nat.one_mul]; omega
    · simp only [e]
      simpa using h1

theorem may_cnt (b u : Nat → Nat) : ∀ k m, 1 ≤ m → (List.range' (m + 1) k).countP (mayN b u) ≤ cntD u m k := by
  intro k
  induction k with
  | zero => intro m _; simp [cntD]
  | succ k ih =>
    intro m hm
    rw [List.range'_succ, List.countP_cons]
    have := ih (m + 1) (by omega)
    simp only [cntD]
    by_cases e : u (m + 1) < u m
    · rw [if_pos e]
      split <;> omega
    · rw [if_neg e]
      have : mayN b u (m + 1) = false := by
        unfold mayN
        have e2 : decide (m + 1 = 1) = false := decide_eq_false (by omega)
        have e3 : decide (u (m + 1) < u (m + 1 - 1)) = false := decide_eq_false (by simpa using e)
        rw [e2, e3]; simp
      rw [this]; simp; omega
theorem range_sub {lo len n : Nat} (h1 : 1 ≤ lo) (h2 : lo + len ≤ n + 1) : (List.range' lo len).Sublist (List.range' 1 n) := by
  have e : List.range' 1 n = List.range' 1 (lo - 1) ++ (List.range' lo len ++ List.range' (lo + len) (n + 1 - lo - len)) := by
    have a1 : List.range' lo len ++ List.range' (lo + len) (n + 1 - lo - len) = List.range' lo (len + (n + 1 - lo - len)) := List.range'_append_1
    rw [a1]
    have a2 : List.range' 1 (lo - 1) ++ List.range' (1 + (lo - 1)) (len + (n + 1 - lo - len)) = List.range' 1 (lo - 1 + (len + (n + 1 - lo - len))) := List.range'_append_1
    rw [show 1 + (lo - 1) = lo by omega] at a2
    rw [a2]
    congr 1; omega
  rw [e]
  exact (List.sublist_append_left _ _).trans (List.sublist_append_right _ _)
theorem may_six {n lo hi : Nat} {b u : Nat → Nat} (h1 : 1 ≤ lo) (h2 : hi ≤ n) (hd : ∀ x, 1 ≤ x → x < n → u (x + 1) ≤ u x) (hs : sumU u 1 (n - 1) ≤ 15) : (List.range' lo (hi + 1 - lo)).countP (mayN b u) ≤ 6 := by
  rcases Nat.lt_or_ge hi lo with h | h
  · rw [show hi + 1 - lo = 0 by omega]; simp
  · have := List.Sublist.countP_le (p := mayN b u) (range_sub (n := n) h1 (show lo + (hi + 1 - lo) ≤ n + 1 by omega))
    obtain ⟨k, rfl⟩ : ∃ k, n = k + 1 := ⟨n - 1, by omega⟩
    rw [List.range'_succ, List.countP_cons] at this
    have m1 := may_cnt b u k 1 (Nat.le_refl _)
    obtain ⟨_, c2⟩ := cntD_le u k 1 (fun x hx hx2 => hd x hx (by omega))
    have := six_of c2 (by simpa using hs)
    split at * <;> omega

theorem sumU_inc (u : Nat → Nat) (x : Nat) : ∀ k m, m ≤ x → x ≤ m + k → sumU (inc1 u x) m k = sumU u m k + 1 := by
  intro k
  induction k with
  | zero => intro m h1 h2; obtain rfl : m = x := by omega
            simp [sumU, inc1]
  | succ k ih =>
    intro m h1 h2
    simp only [sumU]
    by_cases e : m = x
    · subst e
      have : ∀ k q, m < q → sumU (inc1 u m) q k = sumU u q k := by
        intro k
        induction k with
        | zero => intro q hq; simp only [sumU, inc1]; rw [if_neg (by omega)]
        | succ k ih2 => intro q hq; simp only [sumU]; rw [ih2 _ (by omega)]; simp only [inc1]; rw [if_neg (by omega)]
      rw [this k (m + 1) (by omega)]
      simp only [inc1, if_true]; omega
    · rw [ih (m + 1) (by omega) (by omega)]
      simp only [inc1]
      rw [if_neg e]; omega
theorem inc_dec {n x : Nat} {b u : Nat → Nat} (hm : mayN b u x = true) (hd : ∀ y, 1 ≤ y → y < n → u (y + 1) ≤ u y) : ∀ y, 1 ≤ y → y < n → inc1 u x (y + 1) ≤ inc1 u x y := fun y h1 h2 => by
  have := hd y h1 h2
  unfold inc1
  by_cases e : y + 1 = x
  · rw [if_pos e, if_neg (by omega)]
    unfold mayN at hm
    simp only [Bool.and_eq_true, Bool.or_eq_true, decide_eq_true_eq] at hm
    rcases hm.2 with h | h
    · omega
    · rw [e]; rw [show x - 1 = y by omega] at h; omega
  · rw [if_neg e]
    split <;> omega

theorem srch_len (n : Nat) (b c : Nat → Nat) (m : Nat) : ∀ (bs : List (Nat × Nat)) (g : Nat → Nat → Nat) (u : Nat → Nat), (∀ i j, g i j ≤ n) → (∀ x, 1 ≤ x → x < n → u (x + 1) ≤ u x) → (0 < n → sumU u 1 (n - 1) + bs.length ≤ 16) → (srch n b c m bs g u).length ≤ 6 ^ bs.length := by
  intro bs
  induction bs with
  | nil => intro g u _ _ _; simp [srch]
  | cons x bs ih =>
    obtain ⟨i, j⟩ := x
    intro g u hg hd hs
    simp only [srch]
    have hlo : 1 ≤ loN g i j := by unfold loN; split <;> omega
    have hhi : hiN n c g i j ≤ n := by
      unfold hiN
      split
      · exact Nat.le_refl _
      · exact hg _ _
    rcases Nat.eq_zero_or_pos n with h0 | h0
    · rw [show hiN n c g i j + 1 - loN g i j = 0 by omega]; simp
    · have hs0 := hs h0
      simp only [List.length_cons] at hs0
      have k1 := may_six (b := b) hlo hhi hd (by omega)
      refine Nat.le_trans (flat_len (mayN b u) _ (6 ^ bs.length) _ (fun x hx hm => ?_)) ?_
      · have hr := List.mem_range'_1.1 hx
        refine ih _ _ (fun a d => ?_) (inc_dec hm hd) (fun _ => ?_)
        · unfold upd2; split
          · omega
          · exact hg a d
        · rw [sumU_inc u x (n - 1) 1 (by omega) (by omega)]; omega
      · rw [List.length_cons, Nat.pow_succ, Nat.mul_comm]
        exact Nat.mul_le_mul_left _ k1

/-- Strips: what may come in row i and the rows behind it. -/
def hiG (p c : Nat → Nat) (i : Nat) : Nat := if i = 0 then c 0 else min (p (i - 1)) (c i)
def grN (p c : Nat → Nat) : Nat → Nat → Nat → List (List Nat)
  | 0, _, left => if left = 0 then [[]] else []
  | m + 1, i, left => (List.range (min (hiG p c i + 1 - p i) (left + 1))).flatMap fun d => (grN p c m (i + 1) (left - d)).map fun q => (p i + d) :: q
def avG (p c : Nat → Nat) : Nat → Nat → Nat
  | 0, _ => 0
  | m + 1, i => (if p i < hiG p c i then 1 else 0) + avG p c m (i + 1)
theorem avG_le (p c : Nat → Nat) : ∀ m i, avG p c m (i + 1) ≤ cntD p i m := by
  intro m
  induction m with
  | zero => intro i; simp [avG]
  | succ m ih =>
    intro i
    have := ih (i + 1)
    simp only [avG, cntD]
    by_cases e : p (i + 1) < hiG p c (i + 1)
    · have : p (i + 1) < p i := by
        unfold hiG at e
        rw [if_neg (by omega)] at e
        simp only [Nat.add_sub_cancel] at e
        omega
      rw [if_pos e, if_pos this]; omega
    · rw [if_neg e]; omega
theorem geo (B : Nat) : ∀ L, ((List.range (L + 1)).map fun d => B ^ (L - d)).sum ≤ (B + 1) ^ L := by
  intro L
  induction L with
  | zero => simp
  | succ L ih =>
    rw [List.range_succ, List.map_append, List.sum_append]
    have e : (List.range (L + 1)).map (fun d => B ^ (L + 1 - d)) = (List.range (L + 1)).map (fun d => B * B ^ (L - d)) :=
      List.map_congr_left fun d hd => by
        have := List.mem_range.1 hd
        rw [show L + 1 - d = (L - d) + 1 by omega, Nat.pow_succ, Nat.mul_comm]
    have e2 : ∀ l : List Nat, (l.map fun d => B * B ^ (L - d)).sum = B * (l.map fun d => B ^ (L - d)).sum := by
      intro l
      induction l with
      | nil => simp
      | cons a l ih => simp only [List.map_cons, List.sum_cons]; rw [ih, Nat.mul_add]
    rw [e, e2]
    have h1 : 1 ≤ (B + 1) ^ L := Nat.one_le_pow _ _ (by omega)
    have h2 := Nat.mul_le_mul_left B ih
    have h3 : (B + 1) ^ (L + 1) = B * (B + 1) ^ L + (B + 1) ^ L := by
      rw [Nat.pow_succ, Nat.mul_add, Nat.mul_comm, Nat.mul_one]
    simp
    omega
theorem geo_le (B L k : Nat) (h : k ≤ L + 1) : ((List.range k).map fun d => B ^ (L - d)).sum ≤ (B + 1) ^ L := by
  refine Nat.le_trans ?_ (geo B L)
  obtain ⟨j, hj⟩ : ∃ j, L + 1 = k + j := ⟨L + 1 - k, by omega⟩
  rw [hj, List.range_add, List.map_append, List.sum_append]
  omega
theorem sum_le {f g : Nat → Nat} : ∀ l : List Nat, (∀ d ∈ l, f d ≤ g d) → (l.map f).sum ≤ (l.map g).sum := by
  intro l
  induction l with
  | nil => intro _; simp
  | cons a l ih =>
    intro h
    simp only [List.map_cons, List.sum_cons]
    have h1 := h a (by simp)
    have h2 := ih (fun d hd => h d (by simp [hd]))
    omega
theorem gr_len0 (p c : Nat → Nat) : ∀ m i left, (grN p c m i left).length ≤ (avG p c m i) ^ left := by
  intro m
  induction m with
  | zero =>
    intro i left
    simp only [grN, avG]
    split
    · rename_i h; subst h; simp
    · simp
  | succ m ih =>
    intro i left
    simp only [grN, avG, List.length_flatMap, List.length_map]
    refine Nat.le_trans (sum_le (g := fun d => (avG p c m (i + 1)) ^ (left - d)) _ (fun d _ => ih (i + 1) (left - d))) ?_
    by_cases e : p i < hiG p c i
    · rw [if_pos e, Nat.add_comm 1]
      exact geo_le _ _ _ (by omega)
    · rw [if_neg e, Nat.zero_add]
      have h1 : min (hiG p c i + 1 - p i) (left + 1) ≤ 1 := by omega
      rcases Nat.eq_zero_or_pos (min (hiG p c i + 1 - p i) (left + 1)) with h0 | h0
      · rw [h0]; simp
      · rw [show min (hiG p c i + 1 - p i) (left + 1) = 1 by omega]; simp
theorem gr_len {p c : Nat → Nat} {m k : Nat} (hm : 0 < m) (hd : ∀ x, x + 1 < m → p (x + 1) ≤ p x) (hs : sumU p 0 (m - 1) + k ≤ 16) : (grN p c m 0 k).length ≤ 6 ^ k := by
  rcases Nat.eq_zero_or_pos k with h0 | h0
  · subst h0; have := gr_len0 p c m 0 0; simpa using this
  · refine Nat.le_trans (gr_len0 p c m 0 k) (Nat.pow_le_pow_left ?_ k)
    obtain ⟨q, rfl⟩ : ∃ q, m = q + 1 := ⟨m - 1, by omega⟩
    have h1 := avG_le p c q 0
    obtain ⟨_, h2⟩ := cntD_le p q 0 (fun x _ hx => hd x (by omega))
    have := six_of h2 (by simp at hs; omega)
    simp only [avG]
    split <;> omega

end Go.Proofs.YtgcpconlmihilaaGreatDoor

namespace Go.Proofs.YtgcpconlmihilaaGreatDoor

def nrow (t : List (List Nat)) (r : Nat) : List Nat := t.getD r []
def at2 (t : List (List Nat)) (r j : Nat) : Nat := (nrow t r).getD j 0
def len2 (t : List (List Nat)) (r : Nat) : Nat := (nrow t r).length
/-- The letters, nrow by nrow, each from right to left. -/
def rwd (t : List (List Nat)) : List Nat := t.flatMap List.reverse
/-- Never more x than x - 1, k more of x - 1 so far. -/
def lat (x : Nat) : Nat → List Nat → Bool
  | _, [] => true
  | k, y :: w => if y + 1 = x then lat x (k + 1) w else if y = x then (decide (k ≠ 0) && lat x (k - 1) w) else lat x k w

theorem lat_filter (x : Nat) (p : Nat → Bool) (hp : p x = true) (hp2 : ∀ y, y + 1 = x → p y = true) : ∀ (w : List Nat) (k : Nat), lat x k (w.filter p) = lat x k w := by
  intro w
  induction w with
  | nil => intro k; rfl
  | cons y w ih =>
    intro k
    by_cases h1 : y + 1 = x
    · rw [List.filter_cons_of_pos (hp2 y h1)]
      simp only [lat, if_pos h1]; exact ih _
    · by_cases h2 : y = x
      · subst h2
        rw [List.filter_cons_of_pos hp]
        simp only [lat, if_neg h1, if_true]; rw [ih]
      · by_cases h3 : p y = true
        · rw [List.filter_cons_of_pos h3]
          simp only [lat, if_neg h1, if_neg h2]; exact ih _
        · rw [List.filter_cons_of_neg h3]
          simp only [lat, if_neg h1, if_neg h2]; exact ih _
theorem count_filter_pos {p : Nat → Bool} {y : Nat} (h : p y = true) (w : List Nat) : (w.filter p).count y = w.count y := List.count_filter h

theorem tab_ext : ∀ {t t' : List (List Nat)}, (∀ r, r < t.length → 0 < len2 t r) → (∀ r, r < t'.length → 0 < len2 t' r) → (∀ r, nrow t r = nrow t' r) → t = t' := by
  intro t t' h1 h2 h
  have hl : t.length = t'.length := by
    rcases Nat.lt_trichotomy t.length t'.length with e | e | e
    · have := h2 t.length e
      unfold len2 at this
      rw [← h] at this
      unfold nrow at this
      rw [List.getD, List.getElem?_eq_none (Nat.le_refl _)] at this
      simp at this
    · exact e
    · have := h1 t'.length e
      unfold len2 at this
      rw [h] at this
      unfold nrow at this
      rw [List.getD, List.getElem?_eq_none (Nat.le_refl _)] at this
      simp at this
  refine List.ext_getElem hl fun r h3 h4 => ?_
  have := h r
  unfold nrow at this
  simpa [List.getD, h3, h4] using this

theorem rwd_rows (t : List (List Nat)) {K : Nat} (h : t.length ≤ K) : rwd t = (List.range K).flatMap fun r => (nrow t r).reverse := by
  induction t generalizing K with
  | nil =>
    unfold rwd nrow
    simp
  | cons a t ih =>
    obtain ⟨K, rfl⟩ : ∃ K', K = K' + 1 := ⟨K - 1, by simp at h; omega⟩
    rw [List.range_succ_eq_map, List.flatMap_cons, List.flatMap_map]
    have := ih (K := K) (by simpa using h)
    unfold rwd nrow at *
    rw [List.flatMap_cons, this]
    simp
theorem row_map {f : Nat → List Nat} {K r : Nat} : nrow ((List.range K).map f) r = if r < K then f r else [] := by
  unfold nrow
  by_cases h : r < K
  · simp [List.getD, h]
  · rw [if_neg h, List.getD, List.getElem?_eq_none (by simp; omega)]; rfl

/-- The rows of t, made as long as q says, by x. -/
def growT (t : List (List Nat)) (x : Nat) (q : List Nat) : List (List Nat) := (List.range q.length).map fun r => nrow t r ++ List.replicate (q.getD r 0 - len2 t r) x
theorem grow_row {t : List (List Nat)} {x : Nat} {q : List Nat} (h : ∀ r, len2 t r ≤ q.getD r 0) (r : Nat) : nrow (growT t x q) r = nrow t r ++ List.replicate (q.getD r 0 - len2 t r) x := by
  unfold growT
  rw [row_map]
  by_cases e : r < q.length
  · rw [if_pos e]
  · rw [if_neg e]
    have h0 : q.getD r 0 = 0 := by rw [List.getD, List.getElem?_eq_none (by omega)]; rfl
    have := h r
    rw [h0] at this ⊢
    have h1 : nrow t r = [] := List.eq_nil_of_length_eq_zero (by unfold len2 at this; omega)
    rw [h1]; simp
theorem grow_len {t : List (List Nat)} {x : Nat} {q : List Nat} (h : ∀ r, len2 t r ≤ q.getD r 0) (r : Nat) : len2 (growT t x q) r = q.getD r 0 := by
  unfold len2
  rw [grow_row h]
  have := h r
  unfold len2 at *
  rw [List.length_append, List.length_replicate]; omega
theorem grow_at {t : List (List Nat)} {x : Nat} {q : List Nat} (h : ∀ r, len2 t r ≤ q.getD r 0) (r j : Nat) (hj : j < q.getD r 0) : at2 (growT t x q) r j = if j < len2 t r then at2 t r j else x := by
  unfold at2
  rw [grow_row h]
  generalize q.getD r 0 = Q at *
  by_cases e : j < len2 t r
  · rw [if_pos e]
    simp only [List.getD]
    rw [List.getElem?_append_left (by exact e)]
  · rw [if_neg e]
    simp only [List.getD]
    rw [List.getElem?_append_right (by unfold len2 at e; omega), List.getElem?_replicate]
    unfold len2 at *
    rw [if_pos (by omega)]; rfl

theorem sorted_split (x : Nat) : ∀ l : List Nat, l.Pairwise (· ≤ ·) → (∀ e ∈ l, e ≤ x + 1) → l = l.filter (fun e => decide (e ≤ x)) ++ List.replicate (l.length - (l.filter (fun e => decide (e ≤ x))).length) (x + 1) := by
  intro l
  induction l with
  | nil => intro _ _; simp
  | cons h l ih =>
    intro hp hb
    obtain ⟨h1, h2⟩ := List.pairwise_cons.1 hp
    by_cases e : h ≤ x
    · rw [List.filter_cons_of_pos (by simpa using e)]
      have := ih h2 (fun z hz => hb z (by simp [hz]))
      simp only [List.length_cons, List.cons_append, Nat.add_sub_add_right]
      rw [← this]
    · have e1 : h = x + 1 := by have := hb h (by simp); omega
      have e2 : ∀ z ∈ l, z = x + 1 := fun z hz => by have := hb z (by simp [hz]); have := h1 z hz; omega
      have e3 : (h :: l).filter (fun e => decide (e ≤ x)) = [] := by
        rw [List.filter_eq_nil_iff]
        intro z hz
        rcases List.mem_cons.1 hz with rfl | hz
        · simpa using e
        · have := e2 z hz; simp; omega
      rw [e3]
      simp only [List.length_nil, Nat.sub_zero, List.nil_append]
      rw [List.eq_replicate_iff]
      exact ⟨rfl, fun z hz => by rcases List.mem_cons.1 hz with rfl | hz; exact e1; exact e2 z hz⟩

/-- A filling by letters up to x, in the making. -/
structure PF (a b c : Nat → Nat) (m x : Nat) (t : List (List Nat)) : Prop where
  rows : t.length ≤ m
  ne : ∀ r, r < t.length → 0 < len2 t r
  lo : ∀ r, a r ≤ len2 t r
  hi : ∀ r, len2 t r ≤ c r
  dec : ∀ r, len2 t (r + 1) ≤ len2 t r
  hole : ∀ r j, j < a r → at2 t r j = 0
  pos : ∀ r j, a r ≤ j → j < len2 t r → 1 ≤ at2 t r j ∧ at2 t r j ≤ x
  srt : ∀ r, (nrow t r).Pairwise (· ≤ ·)
  col : ∀ r j, a (r + 1) ≤ j → j < len2 t (r + 1) → at2 t r j < at2 t (r + 1) j
  cnt : ∀ y, 1 ≤ y → y ≤ x → (rwd t).count y = b y
  ltc : ∀ y, 2 ≤ y → y ≤ x → lat y 0 (rwd t) = true

theorem at_mem {l : List Nat} {e : Nat} (h : e ∈ l) : ∃ j, j < l.length ∧ l.getD j 0 = e := by
  obtain ⟨j, hj, he⟩ := List.getElem_of_mem h
  exact ⟨j, hj, by simp [List.getD, hj, he]⟩
theorem mem_at {l : List Nat} {j : Nat} (h : j < l.length) : l.getD j 0 ∈ l := by
  simp [List.getD, h]
theorem PF.le {a b c : Nat → Nat} {m x : Nat} {t : List (List Nat)} (h : PF a b c m x t) (r : Nat) : ∀ e ∈ nrow t r, e ≤ x := fun e he => by
  obtain ⟨j, hj, rfl⟩ := at_mem he
  by_cases hh : j < a r
  · have := h.hole r j hh; unfold at2 at this; omega
  · exact (h.pos r j (by omega) hj).2

theorem filter_flat {α : Type} (p : Nat → Bool) (f : α → List Nat) : ∀ l : List α, (l.flatMap f).filter p = l.flatMap fun r => (f r).filter p := by
  intro l
  induction l with
  | nil => rfl
  | cons a l ih => rw [List.flatMap_cons, List.filter_append, ih, List.flatMap_cons]
theorem flat_congr {α : Type} {f g : α → List Nat} : ∀ l : List α, (∀ r ∈ l, f r = g r) → l.flatMap f = l.flatMap g := by
  intro l
  induction l with
  | nil => intro _; rfl
  | cons a l ih => intro h; rw [List.flatMap_cons, List.flatMap_cons, h a (by simp), ih (fun r hr => h r (by simp [hr]))]
/-- The word of a table cut down to the letters up to x. -/
theorem rwd_cut {t t' : List (List Nat)} {x K : Nat} (h1 : t.length ≤ K) (h2 : t'.length ≤ K) (h : ∀ r, nrow t r = (nrow t' r).filter (fun e => decide (e ≤ x))) : rwd t = (rwd t').filter (fun e => decide (e ≤ x)) := by
  rw [rwd_rows t h1, rwd_rows t' h2, filter_flat]
  exact flat_congr _ (fun r _ => by rw [h r, List.filter_reverse])
theorem count_flat {α : Type} (y : Nat) (f : α → List Nat) : ∀ l : List α, (l.flatMap f).count y = (l.map fun r => (f r).count y).sum := by
  intro l
  induction l with
  | nil => rfl
  | cons a l ih => rw [List.flatMap_cons, List.count_append, ih]; rfl
theorem len_flat {α : Type} (f : α → List Nat) : ∀ l : List α, (l.flatMap f).length = (l.map fun r => (f r).length).sum := by
  intro l
  induction l with
  | nil => rfl
  | cons a l ih => rw [List.flatMap_cons, List.length_append, ih]; rfl

/-- What a strip is. -/
structure Strip (p c : Nat → Nat) (m k : Nat) (q : List Nat) : Prop where
  len : q.length ≤ m
  pos : ∀ r, r < q.length → 0 < q.getD r 0
  lo : ∀ r, p r ≤ q.getD r 0
  hi : ∀ r, r < m → q.getD r 0 ≤ hiG p c r
  sum : ((List.range m).map fun r => q.getD r 0 - p r).sum = k

theorem grow_cut {a b c : Nat → Nat} {m x : Nat} {t : List (List Nat)} {q : List Nat} (h : PF a b c m x t) (hq : ∀ r, len2 t r ≤ q.getD r 0) (r : Nat) : nrow t r = (nrow (growT t (x + 1) q) r).filter (fun e => decide (e ≤ x)) := by
  rw [grow_row hq, List.filter_append]
  have e1 : (nrow t r).filter (fun e => decide (e ≤ x)) = nrow t r := by
    rw [List.filter_eq_self]
    intro e he; simpa using h.le r e he
  have e2 : (List.replicate (q.getD r 0 - len2 t r) (x + 1)).filter (fun e => decide (e ≤ x)) = [] := by
    rw [List.filter_eq_nil_iff]
    intro e he
    rw [List.eq_of_mem_replicate he]; simp
  rw [e1, e2, List.append_nil]

theorem getD_out {q : List Nat} {r : Nat} (h : q.length ≤ r) : q.getD r 0 = 0 := by
  rw [List.getD, List.getElem?_eq_none h]; rfl
theorem PF.grow {a b c : Nat → Nat} {m x : Nat} {t : List (List Nat)} {q : List Nat} (h : PF a b c m x t) (hs : Strip (len2 t) c m (b (x + 1)) q) (hl : x + 1 = 1 ∨ lat (x + 1) 0 (rwd (growT t (x + 1) q)) = true) :
    PF a b c m (x + 1) (growT t (x + 1) q) := by
  have hq := hs.lo
  have hlen : ∀ r, len2 (growT t (x + 1) q) r = q.getD r 0 := grow_len hq
  have hrow := grow_row (x := x + 1) hq
  have hcut : rwd t = (rwd (growT t (x + 1) q)).filter (fun e => decide (e ≤ x)) := rwd_cut h.rows (by simp [growT]; exact hs.len) (grow_cut h hq)
  have hmono : ∀ r, q.getD (r + 1) 0 ≤ len2 t r := fun r => by
    by_cases hr : r + 1 < m
    · have := hs.hi (r + 1) hr
      unfold hiG at this
      rw [if_neg (by omega)] at this
      simp only [Nat.add_sub_cancel] at this
      omega
    · rw [getD_out (by have := hs.len; omega)]; omega
  refine ⟨by simp [growT]; exact hs.len, fun r hr => ?_, fun r => ?_, fun r => ?_, fun r => ?_, fun r j hj => ?_, fun r j h1 h2 => ?_, fun r => ?_, fun r j h1 h2 => ?_, fun y h1 h2 => ?_, fun y h1 h2 => ?_⟩
  · rw [hlen]; exact hs.pos r (by simpa [growT] using hr)
  · rw [hlen]; exact Nat.le_trans (h.lo r) (hq r)
  · rw [hlen]
    by_cases hr : r < m
    · have := hs.hi r hr
      unfold hiG at this
      split at this
      · rename_i e; subst e; exact this
      · omega
    · rw [getD_out (by have := hs.len; omega)]; omega
  · rw [hlen, hlen]; exact Nat.le_trans (hmono r) (hq r)
  · have := h.lo r
    rw [grow_at hq r j (by have := hq r; omega), if_pos (by omega)]
    exact h.hole r j hj
  · rw [hlen] at h2
    rw [grow_at hq r j h2]
    split
    · rename_i e
      have := h.pos r j h1 e; omega
    · omega
  · rw [hrow, List.pairwise_append]
    refine ⟨h.srt r, List.pairwise_replicate.2 (Or.inr (Nat.le_refl _)), fun e1 he1 e2 he2 => ?_⟩
    rw [List.eq_of_mem_replicate he2]
    have := h.le r e1 he1; omega
  · rw [hlen] at h2
    have h3 := hmono r
    rw [grow_at hq (r + 1) j h2, grow_at hq r j (by have := hq r; omega), if_pos (show j < len2 t r by omega)]
    split
    · rename_i e; exact h.col r j h1 e
    · have : at2 t r j ≤ x := h.le r _ (mem_at (by unfold len2 at h3; omega))
      omega
  · by_cases e : y = x + 1
    · subst e
      rw [rwd_rows (growT t (x + 1) q) (K := m) (by simp [growT]; exact hs.len), count_flat]
      rw [← hs.sum]
      congr 1
      refine List.map_congr_left fun r _ => ?_
      rw [List.count_reverse, hrow, List.count_append, List.count_replicate_self]
      have : (nrow t r).count (x + 1) = 0 := List.count_eq_zero.2 (fun he => by have := h.le r _ he; omega)
      omega
    · rw [← count_filter_pos (p := fun e => decide (e ≤ x)) (by simp; omega), ← hcut]
      exact h.cnt y h1 (by omega)
  · by_cases e : y = x + 1
    · subst e
      rcases hl with hl | hl
      · omega
      · exact hl
    · rw [← lat_filter y (fun e => decide (e ≤ x)) (by simp; omega) (fun z hz => by simp; omega), ← hcut]
      exact h.ltc y h1 (by omega)

/-- A nrow of rows, up to the first empty one. -/
theorem takeW_row (L : List (List Nat)) (h : ∀ r, nrow L (r + 1) ≠ [] → nrow L r ≠ []) : ∀ r, nrow (L.takeWhile (fun l => !l.isEmpty)) r = nrow L r := by
  induction L with
  | nil => intro r; rfl
  | cons l L ih =>
    intro r
    by_cases e : l = []
    · subst e
      have h0 : ∀ r, nrow ([] :: L) r = [] := by
        intro r
        induction r with
        | zero => rfl
        | succ r ih2 =>
          rcases Classical.em (nrow ([] :: L) (r + 1) = []) with q | q
          · exact q
          · exact absurd ih2 (h r q)
      rw [h0 r]
      simp [nrow]
    · have e1 : (!l.isEmpty) = true := by cases l with | nil => exact absurd rfl e | cons _ _ => rfl
      rw [List.takeWhile_cons_of_pos (p := fun l : List Nat => !l.isEmpty) e1]
      cases r with
      | zero => rfl
      | succ r =>
        have := ih (fun r hr => h (r + 1) hr) r
        exact this
theorem mem_takeW {p : List Nat → Bool} : ∀ {L : List (List Nat)} {l : List Nat}, l ∈ L.takeWhile p → p l = true := by
  intro L
  induction L with
  | nil => intro l h; simp at h
  | cons a L ih =>
    intro l h
    by_cases e : p a = true
    · rw [List.takeWhile_cons_of_pos e] at h
      rcases List.mem_cons.1 h with rfl | h
      · exact e
      · exact ih h
    · rw [List.takeWhile_cons_of_neg e] at h; cases h
theorem takeW_ne (L : List (List Nat)) : ∀ r, r < (L.takeWhile (fun l => !l.isEmpty)).length → 0 < len2 (L.takeWhile (fun l => !l.isEmpty)) r := fun r hr => by
  have hm : nrow (L.takeWhile (fun l => !l.isEmpty)) r ∈ L.takeWhile (fun l => !l.isEmpty) := by
    unfold nrow; simp [List.getD, hr]
  have := mem_takeW hm
  unfold len2
  rcases Nat.eq_zero_or_pos (nrow (L.takeWhile (fun l => !l.isEmpty)) r).length with e | e
  · rw [List.eq_nil_of_length_eq_zero e] at this; simp at this
  · exact e
def cutT (x : Nat) (t : List (List Nat)) : List (List Nat) := (t.map fun l => l.filter (fun e => decide (e ≤ x))).takeWhile (fun l => !l.isEmpty)
theorem row_mapf (f : List Nat → List Nat) (h0 : f [] = []) (t : List (List Nat)) (r : Nat) : nrow (t.map f) r = f (nrow t r) := by
  unfold nrow
  simp only [List.getD, List.getElem?_map]
  cases t[r]? with
  | none => simp [h0]
  | some v => rfl

theorem PF.cut {a b c : Nat → Nat} {m x : Nat} {t : List (List Nat)} (h : PF a b c m (x + 1) t) (ha : ∀ r, a (r + 1) ≤ a r) :
    PF a b c m x (cutT x t) ∧ (∀ r, nrow (cutT x t) r = (nrow t r).filter (fun e => decide (e ≤ x))) ∧ Strip (len2 (cutT x t)) c m (b (x + 1)) (t.map List.length) ∧ growT (cutT x t) (x + 1) (t.map List.length) = t := by
  have hsp : ∀ r, nrow t r = (nrow t r).filter (fun e => decide (e ≤ x)) ++ List.replicate ((nrow t r).length - ((nrow t r).filter (fun e => decide (e ≤ x))).length) (x + 1) := fun r => sorted_split x (nrow t r) (h.srt r) (h.le r)
  -- a letter up to x lies among the first ones
  have hat : ∀ r j, j < len2 t r → (at2 t r j ≤ x ↔ j < ((nrow t r).filter (fun e => decide (e ≤ x))).length) := fun r j hj => by
    constructor
    · intro hle
      rcases Nat.lt_or_ge j ((nrow t r).filter (fun e => decide (e ≤ x))).length with e | e
      · exact e
      · exfalso
        have : at2 t r j = x + 1 := by
          unfold at2
          rw [hsp r]
          simp only [List.getD]
          rw [List.getElem?_append_right e, List.getElem?_replicate]
          unfold len2 at hj
          rw [if_pos (by omega)]; rfl
        omega
    · intro hlt
      have hm : at2 t r j ∈ (nrow t r).filter (fun e => decide (e ≤ x)) := by
        unfold at2
        have e : (nrow t r).getD j 0 = ((nrow t r).filter (fun e => decide (e ≤ x))).getD j 0 := by
          have := congrArg (fun l : List Nat => l.getD j 0) (hsp r)
          simp only [List.getD] at this ⊢
          rw [this, List.getElem?_append_left hlt]
        rw [e]; exact mem_at hlt
      simpa using (List.mem_filter.1 hm).2
  have hfl : ∀ r, ((nrow t r).filter (fun e => decide (e ≤ x))).length ≤ len2 t r := fun r => List.length_filter_le _ _
  have hdec : ∀ r, ((nrow t (r + 1)).filter (fun e => decide (e ≤ x))).length ≤ ((nrow t r).filter (fun e => decide (e ≤ x))).length := fun r => by
    rcases Nat.lt_or_ge ((nrow t r).filter (fun e => decide (e ≤ x))).length ((nrow t (r + 1)).filter (fun e => decide (e ≤ x))).length with e | e
    · exfalso
      obtain ⟨j, hj⟩ : ∃ j, j = ((nrow t r).filter (fun e => decide (e ≤ x))).length := ⟨_, rfl⟩
      rw [← hj] at e
      have h1 := hfl (r + 1)
      have h2 := h.dec r
      have h3 := (hat (r + 1) j (by omega)).2 e
      by_cases e2 : j < a (r + 1)
      · have := ha r
        have := (hat r j (by omega)).1 (by rw [h.hole r j (by omega)]; omega)
        omega
      · have := h.col r j (by omega) (by omega)
        have := (hat r j (by omega)).1 (by omega)
        omega
    · exact e
  have hrow : ∀ r, nrow (cutT x t) r = (nrow t r).filter (fun e => decide (e ≤ x)) := fun r => by
    unfold cutT
    rw [takeW_row, row_mapf _ (by rfl)]
    intro r hne hn
    rw [row_mapf _ (by rfl)] at hne hn
    have := hdec r
    rw [hn] at this
    exact hne (List.eq_nil_of_length_eq_zero (by simpa using this))
  have hlen : ∀ r, len2 (cutT x t) r = ((nrow t r).filter (fun e => decide (e ≤ x))).length := fun r => by unfold len2; rw [hrow]
  have hq : ∀ r, (t.map List.length).getD r 0 = len2 t r := fun r => by
    unfold len2 nrow
    simp only [List.getD, List.getElem?_map]
    cases t[r]? with
    | none => rfl
    | some v => rfl
  have hle : ∀ r, len2 (cutT x t) r ≤ (t.map List.length).getD r 0 := fun r => by rw [hq, hlen]; exact hfl r
  have hatc : ∀ r j, j < len2 (cutT x t) r → at2 (cutT x t) r j = at2 t r j := fun r j hj => by
    unfold at2
    rw [hrow]
    have := congrArg (fun l : List Nat => l.getD j 0) (hsp r)
    simp only [List.getD] at this ⊢
    rw [hlen] at hj
    rw [this, List.getElem?_append_left hj]
  have hrl : (cutT x t).length ≤ m := by
    have h1 : (cutT x t).length ≤ (t.map fun l => l.filter (fun e => decide (e ≤ x))).length := (List.takeWhile_sublist _).length_le
    have := h.rows
    simp at h1; omega
  have hwd : rwd (cutT x t) = (rwd t).filter (fun e => decide (e ≤ x)) := rwd_cut hrl h.rows hrow
  have hal : ∀ r, a r ≤ len2 (cutT x t) r := fun r => by
    rcases Nat.lt_or_ge (len2 (cutT x t) r) (a r) with e | e
    · exfalso
      have h1 := h.lo r
      have := (hat r (len2 (cutT x t) r) (by omega)).1 (by rw [h.hole r _ e]; omega)
      rw [hlen] at this; omega
    · exact e
  refine ⟨⟨hrl, takeW_ne _, hal, fun r => ?_, fun r => ?_, fun r j hj => ?_, fun r j h1 h2 => ?_, fun r => ?_, fun r j h1 h2 => ?_, fun y h1 h2 => ?_, fun y h1 h2 => ?_⟩, hrow, ⟨?_, fun r hr => ?_, hle, fun r hr => ?_, ?_⟩, ?_⟩
  · rw [hlen]; exact Nat.le_trans (hfl r) (h.hi r)
  · rw [hlen, hlen]; exact hdec r
  · rw [hatc r j (by have := hal r; omega)]; exact h.hole r j hj
  · rw [hatc r j h2]
    rw [hlen] at h2
    have h3 := hfl r
    exact ⟨(h.pos r j h1 (by omega)).1, (hat r j (by omega)).2 h2⟩
  · rw [hrow]; exact (h.srt r).filter _
  · have h4 : j < len2 (cutT x t) r := by rw [hlen] at h2 ⊢; have := hdec r; omega
    rw [hatc _ _ h2, hatc _ _ h4]
    rw [hlen] at h2
    have h3 := hfl (r + 1)
    exact h.col r j h1 (by omega)
  · rw [hwd, count_filter_pos (by simp; omega)]; exact h.cnt y h1 (by omega)
  · rw [hwd, lat_filter y (fun e => decide (e ≤ x)) (by simp; omega) (fun z hz => by simp; omega)]
    exact h.ltc y h1 (by omega)
  · simpa using h.rows
  · rw [hq]; exact h.ne r (by simpa using hr)
  · rw [hq]
    unfold hiG
    by_cases e : r = 0
    · subst e; rw [if_pos rfl]; exact h.hi 0
    · rw [if_neg e]
      refine Nat.le_min.2 ⟨?_, h.hi r⟩
      obtain ⟨r, rfl⟩ : ∃ r', r = r' + 1 := ⟨r - 1, by omega⟩
      simp only [Nat.add_sub_cancel]
      rcases Nat.lt_or_ge (len2 (cutT x t) r) (len2 t (r + 1)) with e2 | e2
      · exfalso
        obtain ⟨j, hj⟩ : ∃ j, j = len2 (cutT x t) r := ⟨_, rfl⟩
        rw [← hj] at e2
        have h1 := hal r
        have h2 := ha r
        have h3 := h.dec r
        have h4 := h.col r j (by omega) e2
        have h5 := (h.pos (r + 1) j (by omega) e2).2
        have h6 := (hat r j (by omega)).1 (by omega)
        rw [hlen] at hj; omega
      · exact e2
  · have h1 := h.cnt (x + 1) (by omega) (Nat.le_refl _)
    rw [rwd_rows t h.rows, count_flat] at h1
    rw [← h1]
    congr 1
    refine List.map_congr_left fun r _ => ?_
    rw [List.count_reverse, hq, hlen]
    have e : (nrow t r).count (x + 1) = (((nrow t r).filter (fun e => decide (e ≤ x))) ++ List.replicate ((nrow t r).length - ((nrow t r).filter (fun e => decide (e ≤ x))).length) (x + 1)).count (x + 1) := by rw [← hsp r]
    rw [e, List.count_append, List.count_replicate_self]
    have : ((nrow t r).filter (fun e => decide (e ≤ x))).count (x + 1) = 0 := List.count_eq_zero.2 (fun he => absurd (of_decide_eq_true (List.mem_filter.1 he).2) (by omega))
    unfold len2; omega
  · refine tab_ext (fun r hr => ?_) h.ne (fun r => ?_)
    · rw [grow_len hle, hq]; exact h.ne r (by simpa [growT] using hr)
    · rw [grow_row hle, hrow, hq, hlen]
      exact (hsp r).symm

end Go.Proofs.YtgcpconlmihilaaGreatDoor
