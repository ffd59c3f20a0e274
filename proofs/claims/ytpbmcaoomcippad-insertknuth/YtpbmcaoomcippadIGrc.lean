/-
  SCHENSTED, GREENE: how many letters of a tableau's word subsequences have at most: plain facts.
-/
import Derived.Test.YtpbmcaoomcippadIGre
namespace Go.Proofs.Ytpbmcaoomcippad

/-- Colours of boxes. -/
structure Cols (s : Bool) (k n : Nat) (t : List (List Int)) (l : Cl) (C : Nat → Nat → Nat) : Prop where
  le : ∀ i j, i < t.length → j < (row t i).length → C i j ≤ k
  cnt : n = S t.length (fun i => S (row t i).length (fun j => ind (0 < C i j)))
  mem : ∀ i j, i < t.length → j < (row t i).length → (box t i j, C i j) ∈ l
  ok : ∀ i j i' j', i < t.length → j < (row t i).length → i' < t.length → j' < (row t i').length → (i' < i ∨ i' = i ∧ j < j') → C i j = C i' j' → 0 < C i j → okk s (box t i j) (box t i' j')

theorem S_first (n : Nat) (f : Nat → Nat) : S (n + 1) f = f 0 + S n (fun i => f (i + 1)) := by
  induction n with
  | zero => simp [S]
  | succ n ih => rw [S, ih, S]; omega
theorem count_ind (l : Cl) : l.countP (fun c => decide (0 < c.2)) = S l.length (fun j => ind (0 < (l.getD j (0, 0)).2)) := by
  induction l with
  | nil => rfl
  | cons c l ih =>
    rw [List.countP_cons, ih, List.length_cons, S_first]
    by_cases h : 0 < c.2
    · rw [if_pos (by simpa using h), ind_pos (by simpa using h)]
      simp only [List.getD_cons_succ]; omega
    · rw [if_neg (by simpa using h), ind_neg (by simpa using h)]
      simp only [List.getD_cons_succ]; omega

theorem cols_ex {s : Bool} {k : Nat} : ∀ (t : List (List Int)) (l : Cl) (n : Nat), l.map Prod.fst = wrd t → (∀ c ∈ l, c.2 ≤ k) → Val s l → l.countP (fun c => decide (0 < c.2)) = n → ∃ C, Cols s k n t l C := by
  intro t
  induction t with
  | nil =>
    intro l n hm _ _ hc
    have : l = [] := by simpa [wrd] using hm
    subst this
    exact ⟨fun _ _ => 0, fun i j hi => by simp at hi, by simp [S] at hc ⊢; omega, fun i j hi => by simp at hi, fun i j i' j' hi => by simp at hi⟩
  | cons r t ih =>
    intro l n hm hk hv hc
    rw [wrd_cons] at hm
    obtain ⟨lt, lr, rfl, h1, h2⟩ := List.map_eq_append_iff.1 hm
    unfold Val at hv
    rw [List.pairwise_append] at hv
    obtain ⟨v1, v2, v3⟩ := hv
    obtain ⟨C, hC⟩ := ih lt _ h1 (fun c hc => hk c (List.mem_append_left _ hc)) v1 rfl
    have hlr : lr.length = r.length := by rw [← h2, List.length_map]
    have hfst : ∀ j, j < r.length → (lr.getD j (0, 0)).1 = r.getD j 0 := fun j hj => by
      have : (lr.map Prod.fst).getD j 0 = r.getD j 0 := by rw [h2]
      rw [← this]
      simp [List.getD, List.getElem?_eq_getElem (show j < lr.length by omega)]
    have hmem : ∀ j, j < r.length → (r.getD j 0, (lr.getD j (0, 0)).2) ∈ lr := fun j hj => by
      have : (r.getD j 0, (lr.getD j (0, 0)).2) = lr.getD j (0, 0) := by rw [← hfst j hj]
      rw [this]; simp [List.getD, List.getElem?_eq_getElem (show j < lr.length by omega)]
    refine ⟨fun i j => match i with | 0 => (lr.getD j (0, 0)).2 | i + 1 => C i j, fun i j hi hj => ?_, ?_, fun i j hi hj => ?_, fun i j i' j' hi hj hi' hj' ho he hp => ?_⟩
    · cases i with
      | zero => exact hk (r.getD j 0, (lr.getD j (0, 0)).2) (List.mem_append_right _ (hmem j hj))
      | succ i => exact hC.le i j (by simpa using hi) hj
    · rw [← hc, List.countP_append, List.length_cons, S_first, hC.cnt, count_ind lr, hlr]
      show _ + _ = S r.length (fun j => ind (0 < (lr.getD j (0, 0)).2)) + S t.length (fun i => S (row t i).length (fun j => ind (0 < C i j)))
      omega
    · cases i with
      | zero => exact List.mem_append_right _ (hmem j hj)
      | succ i => exact List.mem_append_left _ (hC.mem i j (by simpa using hi) hj)
    · cases i with
      | zero =>
        rcases ho with ho | ⟨rfl, ho⟩
        · omega
        · have hj' : j' < r.length := hj'
          have hj : j < r.length := hj
          have hp2 := (List.pairwise_iff_getElem.1 v2) j j' (by omega) (by omega) ho
          have e1 : lr[j]'(by omega) = lr.getD j (0, 0) := by simp [List.getD, List.getElem?_eq_getElem (show j < lr.length by omega)]
          have e2 : lr[j']'(by omega) = lr.getD j' (0, 0) := by simp [List.getD, List.getElem?_eq_getElem (show j' < lr.length by omega)]
          rw [e1, e2] at hp2
          have := hp2 he hp
          rw [hfst j hj, hfst j' hj'] at this
          exact this
      | succ i =>
        cases i' with
        | zero =>
          have := v3 _ (hC.mem i j (by simpa using hi) hj) _ (hmem j' hj') he hp
          exact this
        | succ i' => exact hC.ok i j i' j' (by simpa using hi) hj (by simpa using hi') hj' (by omega) he hp

/-- As many as numbers that differ, all from 1 to k: at most k. -/
theorem pigeon {m k : Nat} (f : Nat → Nat) (h1 : ∀ i, i < m → f i ≤ k) (h2 : ∀ i i', i < m → i' < m → i < i' → 0 < f i → f i ≠ f i') : S m (fun i => ind (0 < f i)) ≤ k := by
  have e : ∀ i, i < m → ind (0 < f i) = S k (fun c => ind (f i = c + 1)) := fun i hi => by
    by_cases h : 0 < f i
    · rw [ind_pos h]
      exact (S_just (k := f i - 1) (by have := h1 i hi; omega) (by omega) (fun c _ hc => by omega)).symm
    · rw [ind_neg h]; exact (S_none (fun c _ hc => by omega)).symm
  rw [S_congr e, S_swap]
  have : S k (fun c => S m (fun i => ind (f i = c + 1))) ≤ S k (fun _ => 1) := S_le (fun c _ => by
    by_cases hx : ∃ i, i < m ∧ f i = c + 1
    · obtain ⟨i, hi, he⟩ := hx
      rw [S_just hi he (fun i' hi' he' => ?_)]
      · exact Nat.le_refl _
      · rcases Nat.lt_trichotomy i i' with q | q | q
        · exact absurd (by omega) (h2 i i' hi hi' q (by omega))
        · exact q.symm
        · exact absurd (by omega) (h2 i' i hi' hi q (by omega))
    · rw [S_none (fun i hi he => hx ⟨i, hi, he⟩)]; omega)
  rw [S_one] at this; exact this

theorem T.box_col {t : List (List Int)} (h : T t) {a b j : Nat} (hab : a < b) (hj : j < (row t b).length) : box t a j < box t b j := by
  have hs := sinc_col h j
  have e : ∀ m, (colOf t j).getD m 0 = box t m j := fun m => by have := colOf_g2 h.shp j m; unfold g2 at this; unfold box; simp only [List.getD, this]
  have := hs.lt hab ((col_len h.shp).2 hj)
  rw [e, e] at this; exact this
theorem T.box_row {t : List (List Int)} (h : T t) {a i j : Nat} (hij : i ≤ j) (hj : j < (row t a).length) : box t a i ≤ box t a j := (T_row.1 h a (row_lt hj)).2.1.le hij hj

theorem up_bound {t : List (List Int)} (h : T t) {k n : Nat} (hh : Has false k n (wrd t)) : n ≤ S k (fun i => (row t i).length) := by
  obtain ⟨l, h1, h2, h3, h4⟩ := hh
  obtain ⟨C, hC⟩ := cols_ex t l n h1 h2 h3 h4
  have hw : ∀ i, (row t i).length ≤ width t := fun i => h.shp.shorter' (Nat.zero_le _)
  have e1 : n = S (width t) (fun j => S t.length (fun i => ind (j < (row t i).length ∧ 0 < C i j))) := by
    rw [hC.cnt, ← S_swap]
    refine S_congr (fun i hi => ?_)
    have := S_cut (n := width t) (k := (row t i).length) (f := fun j => ind (j < (row t i).length ∧ 0 < C i j)) (hw i) (fun j hj _ => ind_neg (by omega))
    rw [this]
    exact S_congr (fun j hj => ind_iff ⟨fun q => ⟨hj, q⟩, fun q => q.2⟩)
  have e2 : S k (fun i => (row t i).length) = S (width t) (fun j => S k (fun i => ind (j < (row t i).length))) := by
    rw [← S_swap]
    exact S_congr (fun i _ => (S_below (hw i)).symm)
  rw [e1, e2]
  refine S_le (fun j _ => ?_)
  have hcol : ∀ i, ind (j < (row t i).length) = ind (i < (colOf t j).length) := fun i => ind_iff (col_len h.shp).symm
  have hcl : (colOf t j).length ≤ t.length := colOf_le _ _
  by_cases hk : (colOf t j).length ≤ k
  · rw [S_congr (fun i _ => hcol i), S_below hk]
    refine Nat.le_trans (S_le (g := fun i => ind (i < (colOf t j).length)) (fun i _ => ?_)) (by rw [S_below hcl]; exact Nat.le_refl _)
    by_cases q : j < (row t i).length ∧ 0 < C i j
    · rw [ind_pos q, ← hcol, ind_pos q.1]; exact Nat.le_refl _
    · rw [ind_neg q]; omega
  · have e3 : S k (fun i => ind (j < (row t i).length)) = k := by
      rw [S_congr (g := fun _ => 1) (fun i hi => by rw [hcol, ind_pos (by omega)]), S_one]
    rw [e3]
    have e4 : ∀ i, i < t.length → ind (j < (row t i).length ∧ 0 < C i j) = ind (0 < (if j < (row t i).length then C i j else 0)) := fun i _ => by
      by_cases q : j < (row t i).length
      · rw [if_pos q]; exact ind_iff ⟨fun z => z.2, fun z => ⟨q, z⟩⟩
      · rw [if_neg q, ind_neg (by omega), ind_neg (by omega)]
    rw [S_congr e4]
    refine pigeon _ (fun i hi => ?_) (fun i i' hi hi' hlt hp => ?_)
    · split
      · exact hC.le i j hi (by assumption)
      · omega
    · by_cases q : j < (row t i).length
      · rw [if_pos q] at hp ⊢
        by_cases q' : j < (row t i').length
        · rw [if_pos q']
          intro e
          have := hC.ok i' j i j hi' q' hi q (Or.inl hlt) e.symm (by omega)
          simp only [okk, Bool.false_eq_true, if_false] at this
          have := h.box_col hlt q'
          omega
        · rw [if_neg q']; omega
      · rw [if_neg q] at hp; omega

theorem dn_bound {t : List (List Int)} (h : T t) {k n : Nat} (hh : Has true k n (wrd t)) : n ≤ S k (fun j => (colOf t j).length) := by
  obtain ⟨l, h1, h2, h3, h4⟩ := hh
  obtain ⟨C, hC⟩ := cols_ex t l n h1 h2 h3 h4
  have e2 : S k (fun j => (colOf t j).length) = S t.length (fun i => S k (fun j => ind (j < (row t i).length))) := by
    rw [S_swap]
    refine S_congr (fun j _ => ?_)
    rw [S_congr (g := fun i => ind (i < (colOf t j).length)) (fun i _ => ind_iff (col_len h.shp).symm), S_below (colOf_le _ _)]
  rw [hC.cnt, e2]
  refine S_le (fun i hi => ?_)
  by_cases hk : (row t i).length ≤ k
  · rw [S_below hk]
    refine Nat.le_trans (S_le (g := fun _ => 1) (fun j _ => ind_le _)) (by rw [S_one]; exact Nat.le_refl _)
  · rw [S_congr (n := k) (g := fun _ => 1) (fun j hj => ind_pos (by omega)), S_one]
    refine pigeon _ (fun j hj => hC.le i j hi hj) (fun j j' hj hj' hlt hp e => ?_)
    have := hC.ok i j i j' hi hj hi hj' (Or.inr ⟨rfl, hlt⟩) e hp
    simp only [okk, if_true] at this
    have := h.box_row (Nat.le_of_lt hlt) hj'
    omega

/-- The first row itself. -/
theorem has_row {t : List (List Int)} (h : T t) : Has false 1 (row t 0).length (wrd t) := by
  cases t with
  | nil => exact ⟨[], rfl, fun c hc => by simp at hc, List.Pairwise.nil, rfl⟩
  | cons r t =>
    refine ⟨(wrd t).map (fun z => (z, 0)) ++ r.map (fun z => (z, 1)), ?_, fun c hc => ?_, ?_, ?_⟩
    · rw [wrd_cons, List.map_append, List.map_map, List.map_map]
      congr 1
      · exact List.map_id _
      · exact List.map_id _
    · rcases List.mem_append.1 hc with q | q
      · obtain ⟨z, _, rfl⟩ := List.mem_map.1 q; simp
      · obtain ⟨z, _, rfl⟩ := List.mem_map.1 q; simp
    · unfold Val
      rw [List.pairwise_append]
      refine ⟨?_, ?_, fun a ha b hb => ?_⟩
      · rw [List.pairwise_map]
        exact List.pairwise_of_forall (fun _ _ _ q => by simp at q)
      · rw [List.pairwise_map, List.pairwise_iff_getElem]
        intro i j hi hj hij _ _
        have := h.2.1.le (i := i) (j := j) (by omega) hj
        simp only [okk, Bool.false_eq_true, if_false]
        simpa [List.getD, List.getElem?_eq_getElem hi, List.getElem?_eq_getElem hj] using this
      · obtain ⟨z, _, rfl⟩ := List.mem_map.1 ha
        obtain ⟨y, _, rfl⟩ := List.mem_map.1 hb
        intro e; simp at e
    · rw [List.countP_append, List.countP_map, List.countP_map]
      have e1 : (wrd t).countP ((fun c : Int × Nat => decide (0 < c.2)) ∘ fun z => (z, 0)) = 0 := List.countP_eq_zero.2 (fun z _ => by simp)
      have e2 : r.countP ((fun c : Int × Nat => decide (0 < c.2)) ∘ fun z => (z, 1)) = r.length := List.countP_eq_length.2 (fun z _ => by simp)
      rw [e1, e2]; simp [row]

end Go.Proofs.Ytpbmcaoomcippad
