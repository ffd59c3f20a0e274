/-
  BRUHAT'S order: plain facts on permutations as lists of numbers.
-/
import Derived.Test.YtfdhbnbmobmlpaaDoorPMath
import Derived.Test.YtfdhbnbmobmlpaaDoorMMath
namespace Go.Proofs.YtfdhbnbmobmlpaaDoor

/-- How many of the first i numbers are at least k. -/
def cnt (k : Int) (l : List Int) : Nat := l.countP (fun y => decide (k ≤ y))

theorem cnt_app (k : Int) (a b : List Int) : cnt k (a ++ b) = cnt k a + cnt k b := List.countP_append
theorem cnt_cons (k x : Int) (a : List Int) : cnt k (x :: a) = ind (k ≤ x) + cnt k a := by
  unfold cnt; rw [List.countP_cons]; simp only [ind, decide_eq_true_eq]; omega
theorem cnt_anti {k j : Int} (h : k ≤ j) (l : List Int) : cnt j l ≤ cnt k l := by
  unfold cnt; apply List.countP_mono_left; intro x _ hx; simp at *; omega
theorem cnt_same {k j : Int} {l : List Int} (h : ∀ z ∈ l, k ≤ z ↔ j ≤ z) : cnt k l = cnt j l := by
  unfold cnt; apply List.countP_congr; intro x hx; simp [h x hx]

def Under (a b : List Int) : Prop := ∀ (i : Nat) (k : Int), cnt k (a.take i) ≤ cnt k (b.take i)

theorem Under.refl (a : List Int) : Under a a := fun _ _ => Nat.le_refl _
theorem Under.trans {a b c : List Int} (h : Under a b) (h2 : Under b c) : Under a c := fun i k => Nat.le_trans (h i k) (h2 i k)

theorem first_differ : ∀ (a b : List Int), a.length = b.length → a ≠ b → ∃ p x y s t, a = p ++ x :: s ∧ b = p ++ y :: t ∧ x ≠ y := by
  intro a
  induction a with
  | nil => intro b hl hn; cases b with
    | nil => exact absurd rfl hn
    | cons y b => simp at hl
  | cons x a ih =>
    intro b hl hn
    cases b with
    | nil => simp at hl
    | cons y b =>
      by_cases e : x = y
      · subst e
        obtain ⟨p, u, v, s, t, h1, h2, h3⟩ := ih b (by simpa using hl) (fun e => hn (by rw [e]))
        exact ⟨x :: p, u, v, s, t, by rw [h1]; rfl, by rw [h2]; rfl, h3⟩
      · exact ⟨[], x, y, a, b, rfl, rfl, e⟩

/-- The first in a list that has it. -/
theorem first_with (q : Int → Bool) : ∀ (l : List Int), (∃ z ∈ l, q z = true) → ∃ m y s, l = m ++ y :: s ∧ q y = true ∧ ∀ z ∈ m, q z = false := by
  intro l
  induction l with
  | nil => rintro ⟨z, hz, _⟩; simp at hz
  | cons x l ih =>
    rintro ⟨z, hz, hq⟩
    by_cases hx : q x = true
    · exact ⟨[], x, l, rfl, hx, by simp⟩
    · have hx' : q x = false := by cases h : q x <;> simp_all
      have hzl : z ∈ l := by
        rcases List.mem_cons.1 hz with rfl | h
        · exact absurd hq hx
        · exact h
      obtain ⟨m, y, s, h1, h2, h3⟩ := ih ⟨z, hzl, hq⟩
      refine ⟨x :: m, y, s, by rw [h1]; rfl, h2, ?_⟩
      intro u hu
      rcases List.mem_cons.1 hu with rfl | hu
      · exact hx'
      · exact h3 u hu

theorem wrongs_le : ∀ (l : List Int), wrongs l ≤ l.length * l.length := by
  intro l
  induction l with
  | nil => exact Nat.le_refl _
  | cons y l ih =>
    have : l.countP (fun z => decide (z < y)) ≤ l.length := List.countP_le_length
    simp only [wrongs, List.length_cons]
    have : (l.length + 1) * (l.length + 1) = l.length * l.length + l.length + l.length + 1 := by rw [Nat.add_mul, Nat.mul_add]; omega
    omega

theorem wrongs_swap {p m s : List Int} {x y : Int} (h : x < y) : wrongs (p ++ x :: (m ++ y :: s)) < wrongs (p ++ y :: (m ++ x :: s)) := by
  have e1 : p ++ x :: (m ++ y :: s) = p ++ ([x] ++ (m ++ ([y] ++ s))) := by simp
  have e2 : p ++ y :: (m ++ x :: s) = p ++ ([y] ++ (m ++ ([x] ++ s))) := by simp
  have c1 : cross [x] m ≤ cross [y] m := by
    rw [cross_one_left, cross_one_left]; apply List.countP_mono_left; intro z _ hz; simp at *; omega
  have c2 : cross m [y] ≤ cross m [x] := by
    rw [cross_one, cross_one]; unfold above; apply List.countP_mono_left; intro z _ hz; simp at *; omega
  have c3 : cross [x] [y] = 0 := by rw [cross_one]; simp [above, List.countP_cons]; omega
  have c4 : cross [y] [x] = 1 := by rw [cross_one]; simp [above, List.countP_cons]; omega
  have c5 : ∀ z : Int, wrongs [z] = 0 := fun _ => rfl
  rw [e1, e2]
  simp only [wrongs_app, cross_app, c3, c4, c5]
  omega

theorem take_pre {p : List Int} {x : Int} {s : List Int} {i : Nat} (h : i ≤ p.length) : (p ++ x :: s).take i = p.take i := List.take_append_of_le_length h
theorem take_post {p : List Int} {x : Int} {s : List Int} {i : Nat} : (p ++ x :: s).take (p.length + 1 + i) = p ++ x :: s.take i := by
  rw [List.take_append, List.take_of_length_le (by omega), show p.length + 1 + i - p.length = i + 1 by omega, List.take_succ_cons]

/-- One step up: what is below and not the same can be made greater and stays below. -/
theorem Under.step {a b : List Int} (h : Under a b) (hl : a.length = b.length) (hb : b.Nodup) (hs : ∀ z ∈ b, z ∈ a) (hn : a ≠ b) :
    ∃ c, Under c b ∧ c.length = b.length ∧ (∀ z ∈ b, z ∈ c) ∧ wrongs a < wrongs c := by
  obtain ⟨p, x, x', s, t, rfl, rfl, hne⟩ := first_differ a b hl hn
  have hxx : x < x' := by
    have := h (p.length + 1 + 0) x
    rw [take_post, take_post, cnt_app, cnt_app, cnt_cons, cnt_cons, ind_pos (Int.le_refl x)] at this
    by_cases e : x ≤ x'
    · omega
    · rw [ind_neg e] at this; simp only [List.take_zero, cnt, List.countP_nil] at this; omega
  have hin : x' ∈ s := by
    have h1 := hs x' (by simp)
    have h2 : x' ∉ p := by
      intro hp
      have := (List.nodup_append.1 hb).2.2 x' hp x' (by simp)
      exact this rfl
    simp only [List.mem_append, List.mem_cons] at h1
    rcases h1 with h1 | h1 | h1
    · exact absurd h1 h2
    · exact absurd h1.symm hne
    · exact h1
  obtain ⟨m, y, r, rfl, hy, hm⟩ := first_with (fun z => decide (x < z) && decide (z ≤ x')) s ⟨x', hin, by simp [hxx]⟩
  simp only [Bool.and_eq_true, decide_eq_true_eq] at hy
  refine ⟨p ++ y :: (m ++ x :: r), ?_, by simpa using hl, ?_, wrongs_swap hy.1⟩
  · intro i k
    by_cases hi : i ≤ p.length
    · have := h i k
      rw [take_pre hi] at this ⊢; exact this
    · obtain ⟨i, rfl⟩ : ∃ j, i = p.length + 1 + j := ⟨i - (p.length + 1), by omega⟩
      by_cases hi2 : i ≤ m.length
      · have h1 := h (p.length + 1 + i) k
        have h2 := h (p.length + 1 + i) (x' + 1)
        rw [take_post, take_post, cnt_app, cnt_app, cnt_cons, cnt_cons, take_pre hi2] at h1 h2
        rw [take_post, take_post, cnt_app, cnt_app, cnt_cons, cnt_cons, take_pre hi2]
        by_cases hk : x < k ∧ k ≤ y
        · have e1 : cnt k (m.take i) = cnt (x' + 1) (m.take i) := by
            apply cnt_same
            intro z hz
            have := hm z (List.mem_of_mem_take hz)
            simp only [Bool.and_eq_false_iff, decide_eq_false_iff_not] at this
            omega
          have e2 := cnt_anti (show k ≤ x' + 1 by omega) (t.take i)
          rw [ind_neg (show ¬ x' + 1 ≤ x by omega), ind_neg (show ¬ x' + 1 ≤ x' by omega)] at h2
          rw [ind_pos hk.2, ind_pos (show k ≤ x' by omega), e1]
          omega
        · have : ind (k ≤ y) ≤ ind (k ≤ x) := by
            by_cases h3 : k ≤ y
            · rw [ind_pos (show k ≤ x by omega)]; exact ind_le _
            · rw [ind_neg h3]; omega
          omega
      · obtain ⟨i, rfl⟩ : ∃ j, i = m.length + 1 + j := ⟨i - (m.length + 1), by omega⟩
        have h1 := h (p.length + 1 + (m.length + 1 + i)) k
        simp only [take_post, cnt_app, cnt_cons] at h1 ⊢
        omega
  · intro z hz
    have := hs z hz
    simp only [List.mem_append, List.mem_cons] at this ⊢
    rcases this with h | h | h | h | h
    · exact Or.inl h
    · exact Or.inr (Or.inr (Or.inr (Or.inl h)))
    · exact Or.inr (Or.inr (Or.inl h))
    · exact Or.inr (Or.inl h)
    · exact Or.inr (Or.inr (Or.inr (Or.inr h)))

/-- What is below has fewer pairs that stand the wrong way round, or is the same. -/
theorem Under.less : ∀ (d : Nat) {a b : List Int}, b.length * b.length - wrongs a ≤ d → Under a b → a.length = b.length → b.Nodup → (∀ z ∈ b, z ∈ a) → a = b ∨ wrongs a < wrongs b := by
  intro d
  induction d with
  | zero =>
    intro a b hd h hl hb hs
    by_cases hn : a = b
    · exact Or.inl hn
    · obtain ⟨c, h1, h2, h3, h4⟩ := h.step hl hb hs hn
      have := wrongs_le c
      rw [h2] at this
      omega
  | succ d ih =>
    intro a b hd h hl hb hs
    by_cases hn : a = b
    · exact Or.inl hn
    · obtain ⟨c, h1, h2, h3, h4⟩ := h.step hl hb hs hn
      have := wrongs_le c
      rw [h2] at this
      rcases ih (by omega) h1 h2 hb h3 with h5 | h5
      · subst h5; exact Or.inr h4
      · exact Or.inr (by omega)

theorem IsPerm.sub {a b : List Int} (ha : IsPerm a) (hb : IsPerm b) (hl : a.length = b.length) : ∀ z ∈ b, z ∈ a := fun z hz => ha.all (hb.low z hz) (by rw [hl]; exact hb.high z hz)

theorem under_less {a b : List Int} (ha : IsPerm a) (hb : IsPerm b) (hl : a.length = b.length) (h : Under a b) : a = b ∨ wrongs a < wrongs b :=
  Under.less _ (Nat.le_refl _) h hl hb.once (ha.sub hb hl)

/-- The inverse: at place p(i) stands i. -/
def Inv (a x : List Int) : Prop := x.length = a.length ∧ ∀ j, j < a.length → x.getD ((a.getD j 0).toNat - 1) 0 = (j : Int) + 1

/-- The rank of a permutation of n, and of its inverse. -/
theorem Inv.rank {a x : List Int} (ha : IsPerm a) (h : Inv a x) {i k : Nat} (hi : i ≤ a.length) (hk : k ≤ a.length) :
    cnt ((k : Int) + 1) (x.take i) + k = i + cnt ((i : Int) + 1) (a.take k) := by
  have hx := h.1
  -- x at t is s + 1 just if a at s is t + 1
  have key : ∀ t s, t < a.length → s < a.length → (x.getD t 0 = (s : Int) + 1 ↔ a.getD s 0 = (t : Int) + 1) := by
    intro t s ht hs
    constructor
    · intro e
      obtain ⟨j, hj, hje⟩ := ha.place ht
      have h1 := h.2 j hj
      rw [hje, show ((t : Int) + 1).toNat - 1 = t by omega] at h1
      rw [h1] at e
      have : j = s := by omega
      subst this; exact hje
    · intro e
      have h1 := h.2 s hs
      rw [e, show ((t : Int) + 1).toNat - 1 = t by omega] at h1
      exact h1
  have hbx : ∀ t, t < a.length → ∃ s, s < a.length ∧ x.getD t 0 = (s : Int) + 1 := by
    intro t ht
    obtain ⟨j, hj, hje⟩ := ha.place ht
    exact ⟨j, hj, (key t j ht hj).2 hje⟩
  -- the count over x
  have e1 : cnt ((k : Int) + 1) (x.take i) = S i (fun t => S a.length (fun s => ind (k ≤ s ∧ a.getD s 0 = (t : Int) + 1))) := by
    unfold cnt
    rw [count_S x _ i (by omega)]
    apply S_congr
    intro t ht
    obtain ⟨s, hs, he⟩ := hbx t (by omega)
    by_cases hks : k ≤ s
    · rw [ind_pos (by simp only [decide_eq_true_eq]; omega), S_just (k := s) hs ⟨hks, (key t s (by omega) hs).1 he⟩]
      intro r hr hr2
      have := (key t r (by omega) hr).2 hr2.2
      omega
    · rw [ind_neg (by simp only [decide_eq_true_eq]; omega), S_none]
      intro r hr hr2
      have := (key t r (by omega) hr).2 hr2.2
      omega
  rw [S_swap] at e1
  have e2 : ∀ s, s < a.length → S i (fun t => ind (k ≤ s ∧ a.getD s 0 = (t : Int) + 1)) = ind (k ≤ s ∧ a.getD s 0 ≤ i) := by
    intro s hs
    have hb := ha.bounds hs
    by_cases hc : k ≤ s ∧ a.getD s 0 ≤ i
    · rw [ind_pos hc, S_just (k := (a.getD s 0).toNat - 1) (by omega) ⟨hc.1, by omega⟩]
      intro t _ ht2; omega
    · rw [ind_neg hc, S_none]
      intro t ht ht2
      exact hc ⟨ht2.1, by omega⟩
  rw [S_congr e2] at e1
  -- all of them
  have e3 : S a.length (fun s => ind (a.getD s 0 ≤ i)) = i := by
    have : ∀ s, s < a.length → ind (a.getD s 0 ≤ i) = S i (fun t => ind (a.getD s 0 = (t : Int) + 1)) := by
      intro s hs
      have hb := ha.bounds hs
      by_cases hc : a.getD s 0 ≤ i
      · rw [ind_pos hc, S_just (k := (a.getD s 0).toNat - 1) (by omega) (by omega)]
        intro t _ ht2; omega
      · rw [ind_neg hc, S_none]
        intro t ht ht2; omega
    rw [S_congr this, S_swap]
    rw [S_congr (g := fun _ => 1), S_one]
    intro t ht
    obtain ⟨j, hj, hje⟩ := ha.place (v := t) (by omega)
    exact S_just hj hje (fun r hr hr2 => ha.inj hr hj (by rw [hr2, hje]))
  have e4 : S a.length (fun s => ind (a.getD s 0 ≤ i)) = S a.length (fun s => ind (k ≤ s ∧ a.getD s 0 ≤ i)) + S k (fun s => ind (a.getD s 0 ≤ i)) := by
    have : ∀ s, s < a.length → ind (a.getD s 0 ≤ i) = ind (k ≤ s ∧ a.getD s 0 ≤ i) + ind (s < k ∧ a.getD s 0 ≤ i) := by
      intro s _
      by_cases h1 : a.getD s 0 ≤ i
      · by_cases h2 : k ≤ s
        · rw [ind_pos h1, ind_pos ⟨h2, h1⟩, ind_neg (by omega)]
        · rw [ind_pos h1, ind_neg (by omega), ind_pos ⟨by omega, h1⟩]
      · rw [ind_neg h1, ind_neg (by omega), ind_neg (by omega)]
    rw [S_congr this, S_add]
    congr 1
    rw [S_cut hk (fun s hs _ => ind_neg (by omega))]
    exact S_congr (fun s hs => ind_iff ⟨fun h => h.2, fun h => ⟨hs, h⟩⟩)
  have e5 : S k (fun s => ind (a.getD s 0 ≤ i)) + cnt ((i : Int) + 1) (a.take k) = k := by
    unfold cnt
    rw [count_S a _ k hk, ← S_add]
    rw [S_congr (g := fun _ => 1), S_one]
    intro s _
    by_cases h1 : a.getD s 0 ≤ i
    · rw [ind_pos h1, ind_neg (by simp only [decide_eq_true_eq]; omega)]
    · rw [ind_neg h1, ind_pos (by simp only [decide_eq_true_eq]; omega)]
  omega

/-- The order by ranks within bounds. -/
def UnderN (n : Nat) (a b : List Int) : Prop := ∀ i k : Nat, i ≤ n → k ≤ n → cnt ((k : Int) + 1) (a.take i) ≤ cnt ((k : Int) + 1) (b.take i)

theorem under_iff {a b : List Int} (ha : IsPerm a) (hb : IsPerm b) (hl : a.length = b.length) : Under a b ↔ UnderN a.length a b := by
  constructor
  · intro h i k _ _; exact h i _
  · intro h i k
    have hle : ∀ j, j ≤ a.length → cnt k (a.take j) ≤ cnt k (b.take j) := by
      intro j hj
      by_cases h1 : k ≤ 1
      · have : cnt k (b.take j) = (b.take j).length := by
          unfold cnt; rw [List.countP_eq_length]; intro z hz; have := hb.low z (List.mem_of_mem_take hz); simp; omega
        rw [this]
        have : cnt k (a.take j) ≤ (a.take j).length := List.countP_le_length
        simp only [List.length_take] at *; omega
      · by_cases h2 : k ≤ a.length
        · have := h j (k - 1).toNat hj (by omega)
          rw [show (((k - 1).toNat : Nat) : Int) + 1 = k by omega] at this
          exact this
        · have : cnt k (a.take j) = 0 := by
            unfold cnt; rw [List.countP_eq_zero]; intro z hz; have := ha.high z (List.mem_of_mem_take hz); simp; omega
          omega
    by_cases hi : i ≤ a.length
    · exact hle i hi
    · have := hle a.length (Nat.le_refl _)
      rw [List.take_of_length_le (by omega), List.take_of_length_le (by omega)] at this
      rw [List.take_of_length_le (by omega), List.take_of_length_le (by omega)]; exact this

theorem under_inv {a b x y : List Int} (ha : IsPerm a) (hb : IsPerm b) (hl : a.length = b.length) (hx : Inv a x) (hy : Inv b y) (hpx : IsPerm x) (hpy : IsPerm y) : Under x y ↔ Under a b := by
  rw [under_iff ha hb hl, under_iff hpx hpy (by rw [hx.1, hy.1, hl]), hx.1]
  constructor
  · intro h i k hi hk
    have h1 := h k i hk hi
    have r1 := hx.rank ha (i := k) (k := i) hk hi
    have r2 := hy.rank hb (i := k) (k := i) (by omega) (by omega)
    omega
  · intro h i k hi hk
    have h1 := h k i hk hi
    have r1 := hx.rank ha (i := i) (k := k) hi hk
    have r2 := hy.rank hb (i := i) (k := k) (by omega) (by omega)
    omega

/-- The inverse of a permutation is one. -/
theorem Inv.perm {a x : List Int} (ha : IsPerm a) (h : Inv a x) : IsPerm x := by
  have hx := h.1
  have hat : ∀ t, t < a.length → ∃ j, j < a.length ∧ a.getD j 0 = (t : Int) + 1 ∧ x.getD t 0 = (j : Int) + 1 := by
    intro t ht
    obtain ⟨j, hj, hje⟩ := ha.place ht
    have h1 := h.2 j hj
    rw [hje, show ((t : Int) + 1).toNat - 1 = t by omega] at h1
    exact ⟨j, hj, hje, h1⟩
  have hmem : ∀ z ∈ x, ∃ t, t < a.length ∧ z = x.getD t 0 := by
    intro z hz
    obtain ⟨t, ht, he⟩ := List.mem_iff_getElem.1 hz
    exact ⟨t, by omega, by rw [List.getD_eq_getElem?_getD, List.getElem?_eq_getElem ht, he]; rfl⟩
  refine ⟨by rw [hx]; exact ha.len, ?_, ?_, ?_⟩
  · intro z hz
    obtain ⟨t, ht, rfl⟩ := hmem z hz
    obtain ⟨j, _, _, h2⟩ := hat t ht
    omega
  · intro z hz
    obtain ⟨t, ht, rfl⟩ := hmem z hz
    obtain ⟨j, _, _, h2⟩ := hat t ht
    omega
  · rw [List.Nodup, List.pairwise_iff_getElem]
    intro s t hs ht hst e
    obtain ⟨j, hj, h1, h2⟩ := hat s (by omega)
    obtain ⟨i, hi, h3, h4⟩ := hat t (by omega)
    rw [List.getD_eq_getElem?_getD, List.getElem?_eq_getElem hs] at h2
    rw [List.getD_eq_getElem?_getD, List.getElem?_eq_getElem ht] at h4
    simp only [Option.getD_some] at h2 h4
    rw [e, h4] at h2
    have : i = j := by omega
    subst this
    rw [h1] at h3; omega

end Go.Proofs.YtfdhbnbmobmlpaaDoor
