/-
  The longest rising subsequence, and letters that are handed out: plain facts.
-/
import Derived.Test.YtpbmcaoomcippadIGrc
namespace Go.Proofs.Ytpbmcaoomcippad

/-- The longest from here: the letter x, what follows it, and how long from there. -/
def acc (x : Int) : List Int → List Nat → Nat → Nat
  | y :: l, m :: ms, a => acc x l ms (if x ≤ y then max a (m + 1) else a)
  | _, _, a => a
def lls : List Int → List Nat
  | [] => []
  | x :: l => acc x l (lls l) 1 :: lls l
theorem lls_length : ∀ l, (lls l).length = l.length := by
  intro l; induction l with
  | nil => rfl
  | cons x l ih => simp [lls, ih]
theorem lls_drop : ∀ (l : List Int) (i : Nat), (lls l).drop i = lls (l.drop i) := by
  intro l
  induction l with
  | nil => intro i; simp [lls]
  | cons x l ih => intro i; cases i with
    | zero => rfl
    | succ i => simp [lls, ih]
theorem acc_nil (x : Int) (ms : List Nat) (a : Nat) : acc x [] ms a = a := by unfold acc; rfl
theorem acc_ge : ∀ (x : Int) (l : List Int) (ms : List Nat) (a : Nat), a ≤ acc x l ms a := by
  intro x l
  induction l with
  | nil => intro ms a; rw [acc_nil]; exact Nat.le_refl _
  | cons y l ih =>
    intro ms a
    cases ms with
    | nil => exact Nat.le_refl _
    | cons m ms =>
      show a ≤ acc x l ms (if x ≤ y then max a (m + 1) else a)
      refine Nat.le_trans ?_ (ih ms _)
      split <;> omega
theorem acc_at : ∀ (x : Int) (l : List Int) (ms : List Nat) (a k : Nat), k < l.length → k < ms.length → x ≤ l.getD k 0 → ms.getD k 0 + 1 ≤ acc x l ms a := by
  intro x l
  induction l with
  | nil => intro ms a k h; simp at h
  | cons y l ih =>
    intro ms a k h1 h2 h3
    cases ms with
    | nil => simp at h2
    | cons m ms =>
      show (m :: ms).getD k 0 + 1 ≤ acc x l ms (if x ≤ y then max a (m + 1) else a)
      cases k with
      | zero =>
        simp at h3
        rw [if_pos h3]
        refine Nat.le_trans ?_ (acc_ge _ _ _ _)
        simp; omega
      | succ k => exact ih ms _ k (by simp at h1; omega) (by simp at h2; omega) (by simpa using h3)
theorem acc_get : ∀ (x : Int) (l : List Int) (ms : List Nat) (a : Nat), l.length = ms.length → acc x l ms a = a ∨ ∃ k, k < l.length ∧ x ≤ l.getD k 0 ∧ acc x l ms a = ms.getD k 0 + 1 := by
  intro x l
  induction l with
  | nil => intro ms a _; exact Or.inl (acc_nil _ _ _)
  | cons y l ih =>
    intro ms a hl
    cases ms with
    | nil => simp at hl
    | cons m ms =>
      have hs : acc x (y :: l) (m :: ms) a = acc x l ms (if x ≤ y then max a (m + 1) else a) := rfl
      rcases ih ms (if x ≤ y then max a (m + 1) else a) (by simpa using hl) with h | ⟨k, h1, h2, h3⟩
      · rw [hs, h]
        by_cases c : x ≤ y
        · rw [if_pos c]
          by_cases c2 : m + 1 ≤ a
          · left; omega
          · right; exact ⟨0, by simp, by simpa using c, by simp; omega⟩
        · rw [if_neg c]; exact Or.inl rfl
      · right; exact ⟨k + 1, by simp; omega, by simpa using h2, by rw [hs, h3]; simp⟩
theorem acc_le {N : Nat} : ∀ (x : Int) (l : List Int) (ms : List Nat) (a : Nat), (∀ m ∈ ms, m ≤ N) → a ≤ N + 1 → acc x l ms a ≤ N + 1 := by
  intro x l
  induction l with
  | nil => intro ms a _ h; rw [acc_nil]; exact h
  | cons y l ih =>
    intro ms a hm h
    cases ms with
    | nil => exact h
    | cons m ms =>
      show acc x l ms (if x ≤ y then max a (m + 1) else a) ≤ N + 1
      refine ih ms _ (fun q hq => hm q (by simp [hq])) ?_
      have := hm m (by simp)
      split <;> omega
theorem lls_le : ∀ (l : List Int), ∀ m ∈ lls l, 1 ≤ m ∧ m ≤ l.length := by
  intro l
  induction l with
  | nil => intro m hm; simp [lls] at hm
  | cons x l ih =>
    intro m hm
    simp only [lls, List.mem_cons] at hm
    rcases hm with rfl | hm
    · exact ⟨acc_ge _ _ _ _, by simp only [List.length_cons]; exact acc_le _ _ _ _ (fun q hq => (ih q hq).2) (by omega)⟩
    · have := ih m hm; simp only [List.length_cons]; omega
/-- The greatest. -/
def mxL : List Nat → Nat
  | [] => 0
  | m :: l => max m (mxL l)
theorem mxL_ge : ∀ (l : List Nat) (k : Nat), k < l.length → l.getD k 0 ≤ mxL l := by
  intro l
  induction l with
  | nil => intro k h; simp at h
  | cons m l ih =>
    intro k h
    cases k with
    | zero => simp [mxL]; omega
    | succ k => have := ih k (by simp at h; omega); simp [mxL] at this ⊢; omega
theorem mxL_get : ∀ (l : List Nat), mxL l = 0 ∨ ∃ k, k < l.length ∧ l.getD k 0 = mxL l := by
  intro l
  induction l with
  | nil => exact Or.inl rfl
  | cons m l ih =>
    by_cases c : mxL l ≤ m
    · right; exact ⟨0, by simp, by simp [mxL]; omega⟩
    · rcases ih with h | ⟨k, h1, h2⟩
      · omega
      · right; exact ⟨k + 1, by simp; omega, by simp only [List.getD_cons_succ, mxL]; omega⟩
theorem mxL_snoc (l : List Nat) (m : Nat) : mxL (l ++ [m]) = max (mxL l) m := by
  induction l with
  | nil => simp [mxL]
  | cons a l ih => simp only [List.cons_append, mxL, ih]; omega

/-- No rising choice has more than the greatest tells. -/
theorem count_lls : ∀ (l : Cl), (∀ c ∈ l, c.2 ≤ 1) → Val false l → l.countP (fun c => decide (0 < c.2)) = 0 ∨ ∃ k, k < l.length ∧ 0 < (l.getD k (0, 0)).2 ∧ l.countP (fun c => decide (0 < c.2)) ≤ (lls (l.map Prod.fst)).getD k 0 := by
  intro l
  induction l with
  | nil => intro _ _; exact Or.inl rfl
  | cons c l ih =>
    intro h1 h2
    have h3 : Val false l := (List.pairwise_cons.1 h2).2
    have h4 := (List.pairwise_cons.1 h2).1
    rw [List.countP_cons]
    by_cases hc : 0 < c.2
    · rw [if_pos (by simpa using hc)]
      right
      refine ⟨0, by simp, by simpa using hc, ?_⟩
      simp only [List.map_cons, lls, List.getD_cons_zero]
      rcases ih (fun q hq => h1 q (by simp [hq])) h3 with h0 | ⟨k, k1, k2, k3⟩
      · rw [h0]; exact acc_ge _ _ _ _
      · have hm : l.getD k (0, 0) ∈ l := by simp [List.getD, List.getElem?_eq_getElem k1]
        have h5 := h4 _ hm (by have := h1 c (by simp); have := h1 _ (List.mem_cons_of_mem _ hm); omega) hc
        have h6 : c.1 ≤ (l.map Prod.fst).getD k 0 := by
          have e : (l.map Prod.fst).getD k 0 = (l.getD k (0, 0)).1 := by simp [List.getD, List.getElem?_eq_getElem k1]
          rw [e]; simpa [okk] using h5
        have := acc_at c.1 (l.map Prod.fst) (lls (l.map Prod.fst)) 1 k (by simpa using k1) (by rw [lls_length]; simpa using k1) h6
        omega
    · rw [if_neg (by simpa using hc)]
      rcases ih (fun q hq => h1 q (by simp [hq])) h3 with h0 | ⟨k, k1, k2, k3⟩
      · left; omega
      · right; exact ⟨k + 1, by simp; omega, by simpa using k2, by simpa [lls] using k3⟩
theorem has_one {w : List Int} {n : Nat} (h : Has false 1 n w) : n ≤ mxL (lls w) := by
  obtain ⟨l, rfl, h2, h3, rfl⟩ := h
  rcases count_lls l h2 h3 with h | ⟨k, k1, _, k3⟩
  · omega
  · exact Nat.le_trans k3 (mxL_ge _ _ (by rw [lls_length]; simpa using k1))

/-- Places that rise. -/
structure Plc (w : List Int) (i : Nat) (ps : List Nat) (least : Int) : Prop where
  lt : ∀ p ∈ ps, p < i
  up : ps.Pairwise (fun a b => a < b ∧ w.getD a 0 ≤ w.getD b 0)
  le : ∀ p ∈ ps, w.getD p 0 ≤ least
theorem plc_has : ∀ (w : List Int) (ps : List Nat), (∀ p ∈ ps, p < w.length) → ps.Pairwise (fun a b => a < b ∧ w.getD a 0 ≤ w.getD b 0) → Has false 1 ps.length w := by
  intro w ps h1 h2
  refine ⟨(List.range w.length).map (fun i => (w.getD i 0, if i ∈ ps then 1 else 0)), ?_, fun c hc => ?_, ?_, ?_⟩
  · rw [List.map_map]
    refine List.ext_getElem (by simp) (fun i h3 h4 => ?_)
    simp [List.getD, h4]
  · obtain ⟨i, _, rfl⟩ := List.mem_map.1 hc
    simp only; split <;> omega
  · unfold Val
    rw [List.pairwise_map]
    have hlt : (List.range w.length).Pairwise (· < ·) := List.pairwise_lt_range
    refine hlt.imp (fun {a b} hab e hp => ?_)
    simp only [okk] at *
    have ha : a ∈ ps := by
      rcases Decidable.em (a ∈ ps) with q | q
      · exact q
      · rw [if_neg q] at hp; omega
    have hb : b ∈ ps := by
      rcases Decidable.em (b ∈ ps) with q | q
      · exact q
      · rw [if_pos ha, if_neg q] at e; omega
    obtain ⟨ia, hia, rfl⟩ := List.mem_iff_getElem.1 ha
    obtain ⟨ib, hib, rfl⟩ := List.mem_iff_getElem.1 hb
    rcases Nat.lt_trichotomy ia ib with q | q | q
    · have := (List.pairwise_iff_getElem.1 h2 ia ib hia hib q).2
      simpa using this
    · subst q; omega
    · have := (List.pairwise_iff_getElem.1 h2 ib ia hib hia q).1; omega
  · rw [List.countP_map]
    have e1 : (List.range w.length).countP ((fun c : Int × Nat => decide (0 < c.2)) ∘ fun i => (w.getD i 0, if i ∈ ps then 1 else 0)) = (List.range w.length).countP (fun i => decide (i ∈ ps)) := by
      refine List.countP_congr (fun i _ => ?_)
      by_cases q : i ∈ ps <;> simp [q]
    rw [e1, List.countP_eq_length_filter]
    have hnd : ps.Nodup := by
      unfold List.Nodup
      exact h2.imp (fun h e => by omega)
    have hp : ((List.range w.length).filter (fun i => decide (i ∈ ps))).Perm ps := by
      refine (List.perm_ext_iff_of_nodup ((List.nodup_range (n := w.length)).sublist List.filter_sublist) hnd).2 (fun i => ?_)
      simp only [List.mem_filter, List.mem_range, decide_eq_true_eq]
      exact ⟨fun h => h.2, fun h => ⟨h1 i h, h⟩⟩
    exact hp.length_eq

-- Letters handed out.
structure GrU (k : Nat) (pre : List Int) (last : List Int) (n : Nat) : Prop where
  ex : ∃ l : Cl, l.map Prod.fst = pre ∧ (∀ c ∈ l, c.2 ≤ k) ∧ Val false l ∧ l.countP (fun c => decide (0 < c.2)) = n ∧ ∀ p ∈ l, 0 < p.2 → p.1 ≤ last.getD (p.2 - 1) 0
  len : last.length = k
structure GrD (k : Nat) (pre : List Int) (low : List Int) (n : Nat) : Prop where
  ex : ∃ l : Cl, l.map Prod.fst = pre ∧ (∀ c ∈ l, c.2 ≤ k) ∧ Val true l ∧ l.countP (fun c => decide (0 < c.2)) = n ∧ ∀ p ∈ l, 0 < p.2 → low.getD (p.2 - 1) 0 ≠ 0 ∧ low.getD (p.2 - 1) 0 ≤ p.1
  len : low.length = k
theorem val_snoc {s : Bool} {l : Cl} {c : Int × Nat} (h : Val s l) (hc : ∀ p ∈ l, p.2 = c.2 → 0 < p.2 → okk s p.1 c.1) : Val s (l ++ [c]) := by
  unfold Val at *
  rw [List.pairwise_append]
  exact ⟨h, List.pairwise_singleton _ _, fun p hp q hq => by simp at hq; subst hq; exact hc p hp⟩
theorem GrU.take {k n : Nat} {pre last : List Int} (h : GrU k pre last n) {x : Int} {c : Nat} (hc : c < k) (hx : last.getD c 0 ≤ x) : GrU k (pre ++ [x]) (last.set c x) (n + 1) := by
  obtain ⟨⟨l, h1, h2, h3, h4, h5⟩, hl⟩ := h
  refine ⟨⟨l ++ [(x, c + 1)], by simp [h1], fun p hp => ?_, val_snoc h3 (fun p hp e q => ?_), by rw [List.countP_append, h4]; simp, fun p hp q => ?_⟩, by rw [List.length_set]; exact hl⟩
  · rw [List.mem_append] at hp
    rcases hp with hp | hp
    · exact h2 p hp
    · simp at hp; subst hp; exact hc
  · have := h5 p hp q
    simp at e
    rw [e] at this
    simp only [Nat.add_sub_cancel] at this
    simp only [okk]; simp; omega
  · rw [List.mem_append] at hp
    rcases hp with hp | hp
    · rw [set_getD _ _ _ _ (by have := h2 p hp; omega)]
      by_cases e : p.2 - 1 = c
      · rw [if_pos e]; have := h5 p hp q; rw [e] at this; omega
      · rw [if_neg e]; exact h5 p hp q
    · simp at hp; subst hp
      simp only [Nat.add_sub_cancel]
      rw [set_getD _ _ _ _ (by omega), if_pos rfl]; exact Int.le_refl _
theorem GrU.pass {k n : Nat} {pre last : List Int} (h : GrU k pre last n) (x : Int) : GrU k (pre ++ [x]) last n := by
  obtain ⟨⟨l, h1, h2, h3, h4, h5⟩, hl⟩ := h
  refine ⟨⟨l ++ [(x, 0)], by simp [h1], fun p hp => ?_, val_snoc h3 (fun p hp e q => by simp at e; omega), by rw [List.countP_append, h4]; simp, fun p hp q => ?_⟩, hl⟩
  · rw [List.mem_append] at hp
    rcases hp with hp | hp
    · exact h2 p hp
    · simp at hp; subst hp; exact Nat.zero_le _
  · rw [List.mem_append] at hp
    rcases hp with hp | hp
    · exact h5 p hp q
    · simp at hp; subst hp; simp at q
theorem GrD.take {k n : Nat} {pre low : List Int} (h : GrD k pre low n) {x : Int} {c : Nat} (hc : c < k) (hx : low.getD c 0 = 0 ∨ x < low.getD c 0) (h0 : 1 ≤ x) : GrD k (pre ++ [x]) (low.set c x) (n + 1) := by
  obtain ⟨⟨l, h1, h2, h3, h4, h5⟩, hl⟩ := h
  refine ⟨⟨l ++ [(x, c + 1)], by simp [h1], fun p hp => ?_, val_snoc h3 (fun p hp e q => ?_), by rw [List.countP_append, h4]; simp, fun p hp q => ?_⟩, by rw [List.length_set]; exact hl⟩
  · rw [List.mem_append] at hp
    rcases hp with hp | hp
    · exact h2 p hp
    · simp at hp; subst hp; exact hc
  · have := h5 p hp q
    simp at e
    rw [e] at this
    simp only [Nat.add_sub_cancel] at this
    simp only [okk]; simp; omega
  · rw [List.mem_append] at hp
    rcases hp with hp | hp
    · rw [set_getD _ _ _ _ (by have := h2 p hp; omega)]
      by_cases e : p.2 - 1 = c
      · rw [if_pos e]; have := h5 p hp q; rw [e] at this; omega
      · rw [if_neg e]; exact h5 p hp q
    · simp at hp; subst hp
      simp only [Nat.add_sub_cancel]
      rw [set_getD _ _ _ _ (by omega), if_pos rfl]; omega
theorem GrD.pass {k n : Nat} {pre low : List Int} (h : GrD k pre low n) (x : Int) : GrD k (pre ++ [x]) low n := by
  obtain ⟨⟨l, h1, h2, h3, h4, h5⟩, hl⟩ := h
  refine ⟨⟨l ++ [(x, 0)], by simp [h1], fun p hp => ?_, val_snoc h3 (fun p hp e q => by simp at e; omega), by rw [List.countP_append, h4]; simp, fun p hp q => ?_⟩, hl⟩
  · rw [List.mem_append] at hp
    rcases hp with hp | hp
    · exact h2 p hp
    · simp at hp; subst hp; exact Nat.zero_le _
  · rw [List.mem_append] at hp
    rcases hp with hp | hp
    · exact h5 p hp q
    · simp at hp; subst hp; simp at q
theorem GrU.has {k n : Nat} {pre last : List Int} (h : GrU k pre last n) : Has false k n pre := by obtain ⟨⟨l, h1, h2, h3, h4, _⟩, _⟩ := h; exact ⟨l, h1, h2, h3, h4⟩
theorem GrD.has {k n : Nat} {pre low : List Int} (h : GrD k pre low n) : Has true k n pre := by obtain ⟨⟨l, h1, h2, h3, h4, _⟩, _⟩ := h; exact ⟨l, h1, h2, h3, h4⟩
theorem GrU.nil (k : Nat) : GrU k [] (List.replicate k 0) 0 := ⟨⟨[], rfl, by simp, List.Pairwise.nil, rfl, by simp⟩, by simp⟩
theorem GrD.nil (k : Nat) : GrD k [] (List.replicate k 0) 0 := ⟨⟨[], rfl, by simp, List.Pairwise.nil, rfl, by simp⟩, by simp⟩

end Go.Proofs.Ytpbmcaoomcippad
