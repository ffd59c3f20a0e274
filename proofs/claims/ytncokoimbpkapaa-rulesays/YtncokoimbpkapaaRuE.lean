/-
  Box by box or letter by letter: the same right fillings: plain.
-/
import Derived.Test.YtncokoimbpkapaaRuD
namespace Go.Proofs.Ytncokoimbpkapaa

def sumN (f : Nat → Nat) (m : Nat) : Nat := ((List.range m).map f).sum
theorem sumN_succ (f : Nat → Nat) (m : Nat) : sumN f (m + 1) = sumN f m + f m := by
  unfold sumN; rw [List.range_succ, List.map_append, List.sum_append]; simp
theorem sumN_le {f g : Nat → Nat} : ∀ m, (∀ r, r < m → f r ≤ g r) → sumN f m ≤ sumN g m := by
  intro m
  induction m with
  | zero => intro _; exact Nat.le_refl _
  | succ m ih => intro h; rw [sumN_succ, sumN_succ]; have := ih (fun r hr => h r (by omega)); have := h m (by omega); omega
theorem sumN_eq {f g : Nat → Nat} : ∀ m, (∀ r, r < m → f r ≤ g r) → sumN g m ≤ sumN f m → ∀ r, r < m → f r = g r := by
  intro m
  induction m with
  | zero => intro _ _ r hr; omega
  | succ m ih =>
    intro h hs r hr
    rw [sumN_succ, sumN_succ] at hs
    have h1 := sumN_le m (fun r hr => h r (by omega))
    have h2 := h m (by omega)
    by_cases e : r = m
    · subst e; omega
    · exact ih (fun r hr => h r (by omega)) (by omega) r (by omega)
theorem sumN_congr {f g : Nat → Nat} {m : Nat} (h : ∀ r, r < m → f r = g r) : sumN f m = sumN g m := sum_ext h
theorem sumU_eq (u : Nat → Nat) : ∀ k i, sumU u i k = sumN (fun s => u (i + s)) (k + 1) := by
  intro k
  induction k with
  | zero => intro i; simp [sumU, sumN]
  | succ k ih =>
    intro i
    rw [sumU, ih]
    unfold sumN
    rw [List.range_succ_eq_map (n := k + 1), List.map_cons, List.sum_cons, List.map_map]
    congr 2
    exact List.map_congr_left fun s _ => by simp [show i + 1 + s = i + (s + 1) by omega]

/-- The boxes, in the order in which they are read. -/
def boxB (a c : Nat → Nat) (i : Nat) : List (Nat × Nat) := (List.range (c i - a i)).map fun k => (i, c i - 1 - k)
def bxs (a c : Nat → Nat) (m : Nat) : List (Nat × Nat) := (List.range m).flatMap (boxB a c)
theorem mem_boxB {a c : Nat → Nat} {i r j : Nat} : (r, j) ∈ boxB a c i ↔ r = i ∧ a i ≤ j ∧ j < c i := by
  unfold boxB
  rw [List.mem_map]
  constructor
  · rintro ⟨k, hk, e⟩
    have := List.mem_range.1 hk
    obtain ⟨rfl, rfl⟩ := Prod.mk.inj e
    omega
  · rintro ⟨rfl, h1, h2⟩
    exact ⟨c r - 1 - j, List.mem_range.2 (by omega), by congr 1; omega⟩
theorem mem_bxs {a c : Nat → Nat} {m r j : Nat} : (r, j) ∈ bxs a c m ↔ r < m ∧ a r ≤ j ∧ j < c r := by
  unfold bxs
  rw [List.mem_flatMap]
  constructor
  · rintro ⟨i, hi, h⟩
    obtain ⟨rfl, h1, h2⟩ := mem_boxB.1 h
    exact ⟨List.mem_range.1 hi, h1, h2⟩
  · rintro ⟨h1, h2, h3⟩
    exact ⟨r, List.mem_range.2 h1, mem_boxB.2 ⟨rfl, h2, h3⟩⟩
theorem ord_append : ∀ l l' : List (Nat × Nat), OrdB l → OrdB l' → (∀ p ∈ l, (p.1, p.2) ∉ l' ∧ (0 < p.1 → (p.1 - 1, p.2) ∉ l') ∧ (p.1, p.2 + 1) ∉ l') → OrdB (l ++ l') := by
  intro l
  induction l with
  | nil => intro l' _ h _; exact h
  | cons x l ih =>
    obtain ⟨i, j⟩ := x
    intro l' h1 h2 h3
    obtain ⟨a1, a2, a3, a4⟩ := h1
    obtain ⟨b1, b2, b3⟩ := h3 (i, j) (by simp)
    refine ⟨?_, fun h => ?_, ?_, ih l' a4 h2 (fun p hp => h3 p (by simp [hp]))⟩
    · exact fun h => (List.mem_append.1 h).elim a1 b1
    · exact fun q => (List.mem_append.1 q).elim (a2 h) (b2 h)
    · exact fun q => (List.mem_append.1 q).elim a3 b3
theorem ord_row (i C : Nat) : ∀ k, k ≤ C → OrdB ((List.range k).map fun s => (i, C - 1 - s)) := by
  intro k
  induction k with
  | zero => intro _; exact trivial
  | succ k ih =>
    intro h
    rw [List.range_succ, List.map_append]
    refine ord_append _ _ (ih (by omega)) ⟨by simp, fun _ => by simp, by simp, trivial⟩ (fun p hp => ?_)
    obtain ⟨s, hs, rfl⟩ := List.mem_map.1 hp
    have := List.mem_range.1 hs
    simp only [List.map_cons, List.map_nil, List.mem_singleton, Prod.mk.injEq, true_and]
    exact ⟨by omega, fun _ => by omega, by omega⟩
theorem ord_bxs (a c : Nat → Nat) : ∀ m, OrdB (bxs a c m) := by
  intro m
  induction m with
  | zero => exact trivial
  | succ m ih =>
    unfold bxs at *
    rw [List.range_succ, List.flatMap_append]
    refine ord_append _ _ ih ?_ (fun p hp => ?_)
    · simp only [List.flatMap_cons, List.flatMap_nil, List.append_nil]
      exact ord_row m (c m) _ (by omega)
    · obtain ⟨i, hi, hp⟩ := List.mem_flatMap.1 hp
      obtain ⟨pi, pj⟩ := p
      have h1 := List.mem_range.1 hi
      have h2 := (mem_boxB.1 hp).1
      simp only [List.flatMap_cons, List.flatMap_nil, List.append_nil]
      refine ⟨fun h => ?_, fun _ h => ?_, fun h => ?_⟩ <;> have := (mem_boxB.1 h).1 <;> omega
theorem len_bxs (a c : Nat → Nat) : ∀ m, (bxs a c m).length = sumN (fun r => c r - a r) m := by
  intro m
  induction m with
  | zero => rfl
  | succ m ih =>
    unfold bxs at *
    rw [List.range_succ, List.flatMap_append, List.length_append, ih, sumN_succ]
    simp [boxB]

/-- A word that may come, letter by letter. -/
def Mw (b : Nat → Nat) : (Nat → Nat) → List Nat → Prop
  | _, [] => True
  | u, x :: w => mayN b u x = true ∧ Mw b (inc1 u x) w
theorem loc_iff (n : Nat) (b c : Nat → Nat) (g : Nat → Nat → Nat) : ∀ bs u, Loc n b c bs g u ↔ (∀ p ∈ bs, loN g p.1 p.2 ≤ g p.1 p.2 ∧ g p.1 p.2 ≤ hiN n c g p.1 p.2) ∧ Mw b u (bs.map fun p => g p.1 p.2) := by
  intro bs
  induction bs with
  | nil => intro u; simp [Loc, Mw]
  | cons x bs ih =>
    obtain ⟨i, j⟩ := x
    intro u
    simp only [Loc, Mw, List.map_cons, List.mem_cons]
    rw [ih]
    constructor
    · rintro ⟨h1, h2, h3, h4, h5⟩
      exact ⟨fun p hp => by rcases hp with rfl | hp; exact ⟨h1, h2⟩; exact h4 p hp, h3, h5⟩
    · rintro ⟨h1, h2, h3⟩
      exact ⟨(h1 (i, j) (Or.inl rfl)).1, (h1 (i, j) (Or.inl rfl)).2, h2, fun p hp => h1 p (Or.inr hp), h3⟩
theorem inc_same (u : Nat → Nat) (x : Nat) : inc1 u x x = u x + 1 := by simp [inc1]
theorem inc_other (u : Nat → Nat) {x y : Nat} (h : y ≠ x) : inc1 u x y = u y := by simp [inc1, h]
theorem mw_iff (n : Nat) (b : Nat → Nat) : ∀ (w : List Nat) (u : Nat → Nat), (∀ x ∈ w, 1 ≤ x ∧ x ≤ n) → (∀ x, 1 ≤ x → x ≤ n → u x ≤ b x) → (∀ x, 2 ≤ x → x ≤ n → u x ≤ u (x - 1)) →
    (Mw b u w ↔ (∀ x, 1 ≤ x → x ≤ n → u x + w.count x ≤ b x) ∧ ∀ x, 2 ≤ x → x ≤ n → lat x (u (x - 1) - u x) w = true) := by
  intro w
  induction w with
  | nil =>
    intro u _ hb _
    simp only [Mw, lat, List.count_nil, Nat.add_zero, true_iff]
    exact ⟨hb, fun _ _ _ => trivial⟩
  | cons y w ih =>
    intro u hw hb hd
    obtain ⟨y1, y2⟩ := hw y (by simp)
    have hmay : mayN b u y = true ↔ (u y ≠ b y ∧ (y = 1 ∨ u y < u (y - 1))) := by
      unfold mayN; simp only [Bool.and_eq_true, Bool.or_eq_true, decide_eq_true_eq]
    have step : mayN b u y = true → (Mw b (inc1 u y) w ↔ (∀ x, 1 ≤ x → x ≤ n → inc1 u y x + w.count x ≤ b x) ∧ ∀ x, 2 ≤ x → x ≤ n → lat x (inc1 u y (x - 1) - inc1 u y x) w = true) := fun hm => by
      obtain ⟨m1, m2⟩ := hmay.1 hm
      refine ih (inc1 u y) (fun x hx => hw x (by simp [hx])) (fun x h1 h2 => ?_) (fun x h1 h2 => ?_)
      · have := hb x h1 h2
        by_cases e : x = y
        · subst e; rw [inc_same]; omega
        · rw [inc_other u e]; exact this
      · have := hd x h1 h2
        by_cases e : x = y
        · subst e
          rw [inc_same, inc_other u (by omega)]
          rcases m2 with h | h
          · omega
          · omega
        · rw [inc_other u e]
          unfold inc1
          split <;> omega
    have hcnt : ∀ x, inc1 u y x + w.count x = u x + (y :: w).count x := fun x => by
      by_cases e : x = y
      · subst e; rw [inc_same, List.count_cons_self]; omega
      · rw [inc_other u e, List.count_cons_of_ne (fun h => e h.symm)]
    have hlat : mayN b u y = true → ∀ x, 2 ≤ x → x ≤ n → (lat x (inc1 u y (x - 1) - inc1 u y x) w = true ↔ lat x (u (x - 1) - u x) (y :: w) = true) := fun hm x h1 h2 => by
      obtain ⟨m1, m2⟩ := hmay.1 hm
      have h3 := hd x h1 h2
      by_cases e1 : y + 1 = x
      · simp only [lat, if_pos e1]
        rw [inc_other u (show x ≠ y by omega), show x - 1 = y by omega, inc_same]
        rw [show u y + 1 - u x = u y - u x + 1 by rw [show x - 1 = y by omega] at h3; omega]
      · by_cases e2 : y = x
        · subst e2
          simp only [lat, if_neg e1, if_true]
          rw [inc_same, inc_other u (show y - 1 ≠ y by omega)]
          have h4 : u y < u (y - 1) := by rcases m2 with h | h <;> omega
          rw [show u (y - 1) - (u y + 1) = u (y - 1) - u y - 1 by omega]
          have : decide (u (y - 1) - u y ≠ 0) = true := decide_eq_true (by omega)
          rw [this, Bool.true_and]
        · simp only [lat, if_neg e1, if_neg e2]
          rw [inc_other u (show x ≠ y by omega), inc_other u (show x - 1 ≠ y by omega)]
    simp only [Mw]
    constructor
    · rintro ⟨hm, hM⟩
      obtain ⟨h1, h2⟩ := (step hm).1 hM
      exact ⟨fun x a1 a2 => by rw [← hcnt]; exact h1 x a1 a2, fun x a1 a2 => (hlat hm x a1 a2).1 (h2 x a1 a2)⟩
    · rintro ⟨h1, h2⟩
      have hm : mayN b u y = true := by
        rw [hmay]
        have h3 := h1 y y1 y2
        rw [List.count_cons_self] at h3
        refine ⟨by omega, ?_⟩
        by_cases e : y = 1
        · exact Or.inl e
        · right
          have h4 := h2 y (by omega) y2
          simp only [lat, if_neg (show ¬ (y + 1 = y) by omega), if_true, Bool.and_eq_true, decide_eq_true_eq] at h4
          omega
      exact ⟨hm, (step hm).2 ⟨fun x a1 a2 => by rw [hcnt]; exact h1 x a1 a2, fun x a1 a2 => (hlat hm x a1 a2).2 (h2 x a1 a2)⟩⟩

theorem rev_range (f : Nat → Nat) : ∀ C, ((List.range C).map f).reverse = (List.range C).map fun k => f (C - 1 - k) := by
  intro C
  refine List.ext_getElem (by simp) fun j h1 h2 => ?_
  simp
theorem filt_row {f : Nat → Nat} {A C : Nat} (hA : A ≤ C) (h0 : ∀ j, j < A → f j = 0) (h1 : ∀ j, A ≤ j → j < C → 1 ≤ f j) : (((List.range C).map f).reverse).filter (fun e => decide (e ≠ 0)) = (List.range (C - A)).map fun k => f (C - 1 - k) := by
  rw [rev_range]
  obtain ⟨D, rfl⟩ : ∃ D, C = D + A := ⟨C - A, by omega⟩
  rw [Nat.add_sub_cancel, List.range_add, List.map_append, List.filter_append, List.map_map]
  have e1 : ((List.range D).map fun k => f (D + A - 1 - k)).filter (fun e => decide (e ≠ 0)) = (List.range D).map fun k => f (D + A - 1 - k) := by
    rw [List.filter_eq_self]
    intro e he
    obtain ⟨k, hk, rfl⟩ := List.mem_map.1 he
    have := List.mem_range.1 hk
    have := h1 (D + A - 1 - k) (by omega) (by omega)
    simp; omega
  have e2 : ((List.range A).map ((fun k => f (D + A - 1 - k)) ∘ fun x => D + x)).filter (fun e => decide (e ≠ 0)) = [] := by
    rw [List.filter_eq_nil_iff]
    intro e he
    obtain ⟨k, hk, rfl⟩ := List.mem_map.1 he
    have := List.mem_range.1 hk
    have := h0 (D + A - 1 - (D + k)) (by omega)
    simp [this]
  rw [e1, e2, List.append_nil]
theorem word_tab {a c : Nat → Nat} {m : Nat} {g : Nat → Nat → Nat} (hac : ∀ r, a r ≤ c r) (h0 : ∀ r j, r < m → j < a r → g r j = 0) (h1 : ∀ r j, r < m → a r ≤ j → j < c r → 1 ≤ g r j) :
    (rwd (tabN c m g)).filter (fun e => decide (e ≠ 0)) = (bxs a c m).map fun p => g p.1 p.2 := by
  unfold rwd tabN bxs
  rw [List.flatMap_map, filter_flat, List.map_flatMap]
  refine flat_congr _ (fun r hr => ?_)
  have hr := List.mem_range.1 hr
  rw [filt_row (hac r) (fun j hj => h0 r j hr hj) (fun j h2 h3 => h1 r j hr h2 h3)]
  unfold boxB
  rw [List.map_map]; rfl

theorem len_count (n : Nat) : ∀ w : List Nat, (∀ x ∈ w, x ≤ n) → w.length = sumN (fun y => w.count y) (n + 1) := by
  intro w
  induction w with
  | nil => intro _; unfold sumN; have : ∀ l : List Nat, (l.map fun _ => 0).sum = 0 := by
             intro l; induction l with
             | nil => rfl
             | cons a l ih => simpa using ih
           simp only [List.count_nil, List.length_nil]; exact (this _).symm
  | cons a w ih =>
    intro h
    rw [List.length_cons, ih (fun x hx => h x (by simp [hx]))]
    have ha := h a (by simp)
    have : ∀ m, a < m → sumN (fun y => (a :: w).count y) m = sumN (fun y => w.count y) m + 1 := by
      intro m
      induction m with
      | zero => intro h; omega
      | succ m ihm =>
        intro hm
        rw [sumN_succ, sumN_succ]
        by_cases e : a = m
        · subst e
          have : sumN (fun y => (a :: w).count y) a = sumN (fun y => w.count y) a := sumN_congr fun r hr => by
            rw [List.count_cons_of_ne (by omega)]
          rw [this, List.count_cons_self]; omega
        · rw [ihm (by omega), List.count_cons_of_ne (by omega)]; omega
    rw [this (n + 1) (by omega)]
theorem sumN_shift (f : Nat → Nat) : ∀ n, sumN f (n + 1) = f 0 + sumN (fun y => f (y + 1)) n := by
  intro n
  unfold sumN
  rw [List.range_succ_eq_map, List.map_cons, List.sum_cons, List.map_map]; rfl
theorem count_zero {l : List Nat} {A : Nat} (hA : A ≤ l.length) (h0 : ∀ j, j < A → l.getD j 0 = 0) (h1 : ∀ j, A ≤ j → j < l.length → 1 ≤ l.getD j 0) : l.count 0 = A := by
  rw [← List.take_append_drop A l, List.count_append]
  have e1 : (l.take A).count 0 = A := by
    have : (l.take A).count 0 = (l.take A).length := List.count_eq_length.2 fun b hb => by
      obtain ⟨j, hj, e⟩ := at_mem hb
      have hj2 : j < A := by simp at hj; omega
      have := h0 j hj2
      rw [← e]
      simp only [List.getD, List.getElem?_take, if_pos hj2] at this ⊢
      exact this.symm
    rw [this]; simp; omega
  have e2 : (l.drop A).count 0 = 0 := List.count_eq_zero.2 fun hb => by
    obtain ⟨j, hj, e⟩ := at_mem hb
    simp at hj
    have := h1 (A + j) (by omega) (by omega)
    simp only [List.getD, List.getElem?_drop] at this e
    omega
  omega
theorem PF.total {a b c : Nat → Nat} {m x : Nat} {t : List (List Nat)} (h : PF a b c m x t) : sumN (len2 t) m = sumN a m + sumN (fun y => b (y + 1)) x := by
  have h1 : (rwd t).length = sumN (len2 t) m := by
    rw [rwd_rows t h.rows, len_flat]
    exact sumN_congr fun r _ => by simp [len2]
  have h2 : (rwd t).count 0 = sumN a m := by
    rw [rwd_rows t h.rows, count_flat]
    exact sumN_congr fun r _ => by
      rw [List.count_reverse]
      exact count_zero (h.lo r) (fun j hj => h.hole r j hj) (fun j h3 h4 => (h.pos r j h3 h4).1)
  have h3 := len_count x (rwd t) (fun e he => by
    rw [rwd_rows t h.rows, List.mem_flatMap] at he
    obtain ⟨r, _, he⟩ := he
    exact h.le r e (by simpa using he))
  rw [sumN_shift, h2] at h3
  have h4 : sumN (fun y => (rwd t).count (y + 1)) x = sumN (fun y => b (y + 1)) x := sumN_congr fun y hy => h.cnt (y + 1) (by omega) (by omega)
  omega

/-- Three partitions that belong together. -/
structure Tri (al bl cl : List Nat) : Prop where
  ad : ∀ r, al.getD (r + 1) 0 ≤ al.getD r 0
  ap : ∀ r, r < al.length → 0 < al.getD r 0
  bd : ∀ r, bl.getD (r + 1) 0 ≤ bl.getD r 0
  cd : ∀ r, cl.getD (r + 1) 0 ≤ cl.getD r 0
  cp : ∀ r, r < cl.length → 0 < cl.getD r 0
  ac : ∀ r, al.getD r 0 ≤ cl.getD r 0
  sum : al.sum + bl.sum = cl.sum
theorem sum_getD (l : List Nat) : ∀ m, l.length ≤ m → l.sum = sumN (fun r => l.getD r 0) m := by
  induction l with
  | nil => intro m _; unfold sumN; rw [show ((List.range m).map fun r => ([] : List Nat).getD r 0) = (List.range m).map fun _ => 0 from List.map_congr_left fun r _ => rfl]
           induction m with
           | zero => rfl
           | succ m ih => rw [List.range_succ, List.map_append, List.sum_append, ← ih (by simp)]; rfl
  | cons a l ih =>
    intro m h
    obtain ⟨m, rfl⟩ : ∃ k, m = k + 1 := ⟨m - 1, by simp at h; omega⟩
    rw [List.sum_cons, ih m (by simpa using h), sumN_shift]
    simp [List.getD]
def bOf (bl : List Nat) (x : Nat) : Nat := ((0 : Nat) :: bl).getD x 0
theorem Tri.lm {al bl cl : List Nat} (h : Tri al bl cl) : al.length ≤ cl.length := by
  rcases Nat.lt_or_ge cl.length al.length with e | e
  · have h1 := h.ap _ e
    have h2 := h.ac cl.length
    rw [getD_out (q := cl) (Nat.le_refl _)] at h2; omega
  · exact e
theorem Tri.boxes {al bl cl : List Nat} (h : Tri al bl cl) : (bxs (fun r => al.getD r 0) (fun r => cl.getD r 0) cl.length).length = bl.sum := by
  rw [len_bxs]
  have h1 := sum_getD al cl.length h.lm
  have h2 := sum_getD cl cl.length (Nat.le_refl _)
  have h3 : ∀ m, sumN (fun r => cl.getD r 0 - al.getD r 0) m + sumN (fun r => al.getD r 0) m = sumN (fun r => cl.getD r 0) m := by
    intro m
    induction m with
    | zero => rfl
    | succ m ih => rw [sumN_succ, sumN_succ, sumN_succ]; have := h.ac m; omega
  have h4 := h3 cl.length
  have := h.sum
  omega
theorem b_sum (bl : List Nat) : sumN (fun y => bOf bl (y + 1)) bl.length = bl.sum := by
  rw [sum_getD bl bl.length (Nat.le_refl _)]
  exact sumN_congr fun r _ => rfl

theorem mono_of {f : Nat → Nat} {C : Nat} (h : ∀ j, j + 1 < C → f j ≤ f (j + 1)) : ∀ k j, j + k < C → f j ≤ f (j + k) := by
  intro k
  induction k with
  | zero => intro j _; exact Nat.le_refl _
  | succ k ih => intro j hj; exact Nat.le_trans (ih j (by omega)) (h (j + k) (by omega))

theorem srch_PF {al bl cl : List Nat} (T : Tri al bl cl) (t : List (List Nat)) :
    t ∈ srch bl.length (bOf bl) (fun r => cl.getD r 0) cl.length (bxs (fun r => al.getD r 0) (fun r => cl.getD r 0) cl.length) (fun _ _ => 0) (fun _ => 0) ↔ PF (fun r => al.getD r 0) (bOf bl) (fun r => cl.getD r 0) cl.length bl.length t := by
  obtain ⟨n, hn⟩ : ∃ n, n = bl.length := ⟨_, rfl⟩
  rw [← hn, mem_srch _ _ _ _ _ _ _ _ (ord_bxs _ _ _)]
  have hout : ∀ r, cl.length ≤ r → cl.getD r 0 = 0 := fun r hr => getD_out hr
  constructor
  · rintro ⟨g, rfl, hz, hL⟩
    obtain ⟨h1, h2⟩ := (loc_iff _ _ _ _ _ _).1 hL
    have hin : ∀ r j, r < cl.length → al.getD r 0 ≤ j → j < cl.getD r 0 → loN g r j ≤ g r j ∧ g r j ≤ hiN n (fun r => cl.getD r 0) g r j := fun r j a1 a2 a3 => h1 (r, j) (mem_bxs.2 ⟨a1, a2, a3⟩)
    have hg0 : ∀ r j, r < cl.length → j < al.getD r 0 → g r j = 0 := fun r j _ a2 => hz r j (fun hm => by have := mem_bxs.1 hm; omega)
    have hg1 : ∀ r j, r < cl.length → al.getD r 0 ≤ j → j < cl.getD r 0 → 1 ≤ g r j := fun r j a1 a2 a3 => by
      have := (hin r j a1 a2 a3).1
      unfold loN at this
      split at this <;> omega
    have hup : ∀ r j, r < cl.length → j + 1 < cl.getD r 0 → g r j ≤ g r (j + 1) := fun r j a1 a2 => by
      by_cases e : j < al.getD r 0
      · rw [hg0 r j a1 e]; omega
      · have := (hin r j a1 (by omega) (by omega)).2
        unfold hiN at this
        rw [if_neg (show ¬ (j + 1 = cl.getD r 0) by omega)] at this
        exact this
    have hgn : ∀ r j, r < cl.length → j < cl.getD r 0 → g r j ≤ n := fun r j a1 a2 => by
      have hl : g r (cl.getD r 0 - 1) ≤ n := by
        by_cases e : cl.getD r 0 - 1 < al.getD r 0
        · rw [hg0 r _ a1 e]; omega
        · have := (hin r (cl.getD r 0 - 1) a1 (by omega) (by omega)).2
          unfold hiN at this
          rw [if_pos (show cl.getD r 0 - 1 + 1 = cl.getD r 0 by omega)] at this
          exact this
      have := mono_of (hup r · a1) (cl.getD r 0 - 1 - j) j (by omega)
      rw [show j + (cl.getD r 0 - 1 - j) = cl.getD r 0 - 1 by omega] at this
      omega
    have hrow : ∀ r, r < cl.length → nrow (tabN (fun r => cl.getD r 0) cl.length g) r = (List.range (cl.getD r 0)).map (g r) := fun r hr => by
      unfold tabN; rw [row_map, if_pos hr]
    have hrow0 : ∀ r, cl.length ≤ r → nrow (tabN (fun r => cl.getD r 0) cl.length g) r = [] := fun r hr => by
      unfold tabN; rw [row_map, if_neg (by omega)]
    have hlen : ∀ r, len2 (tabN (fun r => cl.getD r 0) cl.length g) r = cl.getD r 0 := fun r => by
      unfold len2
      by_cases hr : r < cl.length
      · rw [hrow r hr]; simp
      · rw [hrow0 r (by omega), hout r (by omega)]; rfl
    have hat : ∀ r j, j < cl.getD r 0 → r < cl.length ∧ at2 (tabN (fun r => cl.getD r 0) cl.length g) r j = g r j := fun r j hj => by
      have hr : r < cl.length := by
        rcases Nat.lt_or_ge r cl.length with e | e
        · exact e
        · rw [hout r e] at hj; omega
      refine ⟨hr, ?_⟩
      exact tabN_at (c := fun r => cl.getD r 0) hr hj
    have hW := word_tab (a := fun r => al.getD r 0) (c := fun r => cl.getD r 0) (m := cl.length) (g := g) T.ac hg0 hg1
    have hwl : ∀ x ∈ (bxs (fun r => al.getD r 0) (fun r => cl.getD r 0) cl.length).map (fun p => g p.1 p.2), 1 ≤ x ∧ x ≤ n := fun x hx => by
      obtain ⟨⟨r, j⟩, hp, rfl⟩ := List.mem_map.1 hx
      obtain ⟨a1, a2, a3⟩ := mem_bxs.1 hp
      exact ⟨hg1 r j a1 a2 a3, hgn r j a1 a3⟩
    obtain ⟨m1, m2⟩ := (mw_iff n (bOf bl) _ (fun _ => 0) hwl (fun _ _ _ => Nat.zero_le _) (fun _ _ _ => Nat.le_refl _)).1 h2
    simp only [Nat.zero_add, Nat.sub_self] at m1 m2
    have htot := len_count n _ (fun x hx => (hwl x hx).2)
    rw [List.length_map, T.boxes, sumN_shift, List.count_eq_zero.2 (fun h => by have := (hwl 0 h).1; omega), Nat.zero_add] at htot
    have hb := b_sum bl
    rw [← hn] at hb
    have hceq := sumN_eq n (fun y hy => m1 (y + 1) (by omega) (by omega)) (by rw [← htot, hb]; exact Nat.le_refl _)
    refine ⟨by simp [tabN], fun r hr => ?_, fun r => by rw [hlen]; exact T.ac r, fun r => by rw [hlen]; exact Nat.le_refl _, fun r => by rw [hlen, hlen]; exact T.cd r, fun r j hj => ?_, fun r j a1 a2 => ?_, fun r => ?_, fun r j a1 a2 => ?_, fun y a1 a2 => ?_, fun y a1 a2 => ?_⟩
    · rw [hlen]; exact T.cp r (by simpa [tabN] using hr)
    · obtain ⟨b1, b2⟩ := hat r j (by have := T.ac r; omega)
      rw [b2]; exact hg0 r j b1 hj
    · rw [hlen] at a2
      obtain ⟨b1, b2⟩ := hat r j a2
      rw [b2]; exact ⟨hg1 r j b1 a1 a2, hgn r j b1 a2⟩
    · by_cases hr : r < cl.length
      · rw [hrow r hr, List.pairwise_map]
        refine List.Pairwise.imp_of_mem ?_ (List.pairwise_lt_range)
        intro x y hx hy hxy
        have hy := List.mem_range.1 hy
        have := mono_of (hup r · hr) (y - x) x (by omega)
        rw [show x + (y - x) = y by omega] at this
        exact this
      · rw [hrow0 r (by omega)]; exact List.Pairwise.nil
    · rw [hlen] at a2
      obtain ⟨b1, b2⟩ := hat (r + 1) j a2
      obtain ⟨c1, c2⟩ := hat r j (by have := T.cd r; omega)
      rw [b2, c2]
      have := (hin (r + 1) j b1 a1 a2).1
      unfold loN at this
      rw [if_neg (by omega), Nat.add_sub_cancel] at this
      omega
    · rw [← count_filter_pos (p := fun e => decide (e ≠ 0)) (by simp; omega), hW]
      have := hceq (y - 1) (by omega)
      rw [show y - 1 + 1 = y by omega] at this
      exact this
    · rw [← lat_filter y (fun e => decide (e ≠ 0)) (by simp; omega) (fun z hz => by simp; omega), hW]
      exact m2 y a1 a2
  · intro h
    have hlen : ∀ r, len2 t r = cl.getD r 0 := fun r => by
      by_cases hr : r < cl.length
      · have ht := h.total
        have h1 := sum_getD al cl.length T.lm
        have h2 := sum_getD cl cl.length (Nat.le_refl _)
        have h3 := b_sum bl
        rw [← hn] at h3
        have h4 := T.sum
        exact sumN_eq cl.length (fun r _ => h.hi r) (by omega) r hr
      · have := h.hi r; rw [hout r (by omega)] at this ⊢; omega
    have hat0 : ∀ r j, cl.getD r 0 ≤ j → at2 t r j = 0 := fun r j hj => by
      unfold at2; exact getD_out (by have := hlen r; unfold len2 at this; omega)
    have hpw : ∀ r j, j + 1 < cl.getD r 0 → at2 t r j ≤ at2 t r (j + 1) := fun r j hj => by
      have h1 := h.srt r
      rw [List.pairwise_iff_getElem] at h1
      have hl := hlen r
      unfold len2 at hl
      have := h1 j (j + 1) (by omega) (by omega) (by omega)
      unfold at2
      simpa [List.getD, show j < (nrow t r).length by omega, show j + 1 < (nrow t r).length by omega] using this
    have htab : t = tabN (fun r => cl.getD r 0) cl.length (at2 t) := by
      refine tab_ext h.ne (fun r hr => ?_) (fun r => ?_)
      · have hr : r < cl.length := by simpa [tabN] using hr
        unfold len2 tabN
        rw [row_map, if_pos hr]
        simpa using T.cp r hr
      · unfold tabN
        rw [row_map]
        by_cases hr : r < cl.length
        · rw [if_pos hr]
          refine List.ext_getElem (by have := hlen r; unfold len2 at this; simp; exact this) fun j a1 a2 => ?_
          simp [at2, List.getD, a1]
        · rw [if_neg hr]
          exact List.eq_nil_of_length_eq_zero (by have := hlen r; rw [hout r (by omega)] at this; exact this)
    have hg0 : ∀ r j, r < cl.length → j < al.getD r 0 → at2 t r j = 0 := fun r j _ hj => h.hole r j hj
    have hg1 : ∀ r j, r < cl.length → al.getD r 0 ≤ j → j < cl.getD r 0 → 1 ≤ at2 t r j := fun r j _ a2 a3 => (h.pos r j a2 (by rw [hlen]; exact a3)).1
    have hW := word_tab (a := fun r => al.getD r 0) (c := fun r => cl.getD r 0) (m := cl.length) (g := at2 t) T.ac hg0 hg1
    rw [← htab] at hW
    have hwl : ∀ x ∈ (bxs (fun r => al.getD r 0) (fun r => cl.getD r 0) cl.length).map (fun p => at2 t p.1 p.2), 1 ≤ x ∧ x ≤ n := fun x hx => by
      obtain ⟨⟨r, j⟩, hp, rfl⟩ := List.mem_map.1 hx
      obtain ⟨a1, a2, a3⟩ := mem_bxs.1 hp
      exact h.pos r j a2 (by rw [hlen]; exact a3)
    refine ⟨at2 t, htab, fun r j hm => ?_, (loc_iff _ _ _ _ _ _).2 ⟨fun p hp => ?_, (mw_iff n (bOf bl) _ (fun _ => 0) hwl (fun _ _ _ => Nat.zero_le _) (fun _ _ _ => Nat.le_refl _)).2 ⟨fun x a1 a2 => ?_, fun x a1 a2 => ?_⟩⟩⟩
    · rcases Nat.lt_or_ge j (cl.getD r 0) with e | e
      · rcases Nat.lt_or_ge j (al.getD r 0) with e2 | e2
        · exact h.hole r j e2
        · exfalso
          refine hm (mem_bxs.2 ⟨?_, e2, e⟩)
          rcases Nat.lt_or_ge r cl.length with q | q
          · exact q
          · rw [hout r q] at e; omega
      · exact hat0 r j e
    · obtain ⟨r, j⟩ := p
      obtain ⟨a1, a2, a3⟩ := mem_bxs.1 hp
      have hp1 := h.pos r j a2 (by rw [hlen]; exact a3)
      refine ⟨?_, ?_⟩
      · unfold loN
        by_cases e : r = 0
        · rw [if_pos e]; exact hp1.1
        · rw [if_neg e]
          obtain ⟨r, rfl⟩ : ∃ k, r = k + 1 := ⟨r - 1, by have : r ≠ 0 := e; omega⟩
          exact h.col r j a2 (by rw [hlen]; exact a3)
      · unfold hiN
        by_cases e : j + 1 = cl.getD r 0
        · rw [if_pos e]; exact hp1.2
        · rw [if_neg e]; exact hpw r j (by have : ¬ (j + 1 = cl.getD r 0) := e; omega)
    · rw [Nat.zero_add, ← hW, count_filter_pos (p := fun e => decide (e ≠ 0)) (by simp; omega), h.cnt x a1 a2]
      exact Nat.le_refl _
    · rw [← hW, lat_filter x (fun e => decide (e ≠ 0)) (by simp; omega) (fun z hz => by simp; omega), Nat.sub_self]
      exact h.ltc x a1 a2

end Go.Proofs.Ytncokoimbpkapaa
