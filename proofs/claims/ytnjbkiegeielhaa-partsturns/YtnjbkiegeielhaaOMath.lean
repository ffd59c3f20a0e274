/-
  Partitions turned over: twice they are as they were, dominance is turned round, diagonals are there and back. Plain facts.
-/
import Derived.Test.YtnjbkiegeielhaaFFrB
import Derived.Test.YtnjbkiegeielhaaEMath
namespace Go.Proofs.Ytnjbkiegeielhaa

theorem colv_cons (z : Int) (l : List Int) (i : Nat) : colv (z :: l) i = colv l i + if (i : Int) < z then 1 else 0 := by
  unfold colv
  rw [List.countP_cons]
  by_cases h : (i : Int) < z <;> simp [h]

/-- More than j numbers are above i just if the j-th is. -/
theorem galois {zs : List Int} (hd : Desc zs) (i : Nat) : ∀ j : Nat, (j : Int) < colv zs i ↔ (i : Int) < zs.getD j 0 := by
  induction zs with
  | nil => intro j; simp [colv]; omega
  | cons x l ih =>
    obtain ⟨hx, hl⟩ := List.pairwise_cons.1 hd
    intro j
    rw [colv_cons]
    by_cases h : (i : Int) < x
    · rw [if_pos h]
      cases j with
      | zero => have := colv_nonneg l i; simp [h]; omega
      | succ j => have := ih hl j; simp only [List.getD_cons_succ]; rw [← this]; omega
    · rw [if_neg h]
      have h0 : colv l i = 0 := by
        unfold colv
        have : l.countP (fun z => decide ((i : Int) < z)) = 0 := by
          rw [List.countP_eq_zero]; intro z hz; have := hx z hz; simp; omega
        rw [this]; rfl
      rw [h0]
      have hle : ∀ j, (x :: l).getD j 0 ≤ i := by
        intro j
        by_cases hj : j < (x :: l).length
        · have hm := getD_mem hj
          rcases List.mem_cons.1 hm with e | e
          · omega
          · have := hx _ e; omega
        · simp only [List.getD, List.getElem?_eq_none (show (x :: l).length ≤ j by omega), Option.getD_none]; omega
      have := hle j
      constructor <;> intro h' <;> omega

theorem IsPart.desc {zs : List Int} (h : IsPart zs) : Desc zs := desc_of_goes (Int.le_refl 0) h.1
theorem IsPart.gal {zs : List Int} (h : IsPart zs) (i j : Nat) : (j : Int) < colv zs i ↔ (i : Int) < zs.getD j 0 := galois h.desc i j

/-- Two numbers from 0 on with the same numbers below them. -/
theorem eq_of_below {a b : Int} (ha : 0 ≤ a) (hb : 0 ≤ b) (h : ∀ k : Nat, (k : Int) < a ↔ (k : Int) < b) : a = b := by
  have h1 := h a.toNat
  have h2 := h b.toNat
  omega

theorem getD_nonneg {zs : List Int} (h : IsPart zs) (j : Nat) : 0 ≤ zs.getD j 0 := (getD_bound h j).1

theorem conj_at {zs : List Int} (h : IsPart zs) (i : Nat) : (conj zs).getD i 0 = colv zs i := by
  by_cases hi : (i : Int) < zs.getD 0 0
  · exact conj_getD hi
  · have h1 : colv zs i = 0 := by
      have : ¬ (((0 : Nat) : Int) < colv zs i) := fun e => hi ((h.gal i 0).1 e)
      have := colv_nonneg zs i
      omega
    rw [h1]; unfold conj; exact tab_out _ _ _ (by omega)

theorem conj_length {zs : List Int} : (conj zs).length = (zs.getD 0 0).toNat := by unfold conj; exact tab_length _ _

/-- What the first m columns hold together. -/
def colSum (zs : List Int) : Nat → Int
  | 0 => 0
  | m + 1 => colSum zs m + colv zs m
theorem colSum_cons (z : Int) (l : List Int) (hz : 0 ≤ z) : ∀ m : Nat, colSum (z :: l) m = colSum l m + min z m := by
  intro m
  induction m with
  | zero => simp [colSum]; omega
  | succ m ih => rw [colSum, colSum, ih, colv_cons]; split <;> omega
theorem sum_tab (n : Nat) (zs : List Int) : sum (tab n (colv zs)) = colSum zs n := by
  induction n with
  | zero => rfl
  | succ n ih => rw [tab_succ, sum_append, ih, colSum]; simp [sum]
theorem pre_tab (n m : Nat) (f : Nat → Int) (hm : m ≤ n) : (tab n f).take m = tab m f := by
  unfold tab; rw [← List.map_take, List.take_range]; congr 2; omega
theorem pre_conj {zs : List Int} (h : IsPart zs) (m : Nat) : pre (conj zs) m = colSum zs m := by
  induction m with
  | zero => rw [pre_zero]; rfl
  | succ m ih => rw [pre_succ, ih, conj_at h, colSum]

/-- However many rows are set apart. -/
theorem colSum_le (zs : List Int) (h : ∀ z ∈ zs, 0 ≤ z) (m : Nat) : ∀ k : Nat, colSum zs m ≤ (k : Int) * m + sum (zs.drop k) := by
  induction zs with
  | nil =>
    intro k
    have h0 : ∀ m, colSum [] m = 0 := by
      intro m
      induction m with
      | zero => rfl
      | succ m ih => rw [colSum, ih]; rfl
    rw [h0]; simp [sum]; exact Int.mul_nonneg (by omega) (by omega)
  | cons z l ih =>
    have hz := h z (by simp)
    have ih := ih (fun z hz => h z (by simp [hz]))
    intro k
    rw [colSum_cons z l hz]
    cases k with
    | zero => have := ih 0; simp [sum] at *; omega
    | succ k =>
      have := ih k
      simp only [List.drop_succ_cons]
      have e : ((k + 1 : Nat) : Int) * m = (k : Int) * m + m := by rw [Int.natCast_add, Int.add_mul]; simp
      rw [e]; omega
/-- At the rows above m it is just that. -/
theorem colSum_eq (zs : List Int) (hd : Desc zs) (h : ∀ z ∈ zs, 0 ≤ z) (m : Nat) : colSum zs m = colv zs m * m + sum (zs.drop (colv zs m).toNat) := by
  induction zs with
  | nil =>
    have h0 : ∀ m, colSum [] m = 0 := by
      intro m
      induction m with
      | zero => rfl
      | succ m ih => rw [colSum, ih]; rfl
    rw [h0]; simp [colv, sum]
  | cons z l ih =>
    obtain ⟨hx, hl⟩ := List.pairwise_cons.1 hd
    have hz := h z (by simp)
    have ih := ih hl (fun z hz => h z (by simp [hz]))
    rw [colSum_cons z l hz, ih, colv_cons]
    have hc := colv_nonneg l m
    by_cases hm : (m : Int) < z
    · rw [if_pos hm, show (colv l m + 1).toNat = (colv l m).toNat + 1 by omega, List.drop_succ_cons, Int.add_mul]; omega
    · rw [if_neg hm]
      have h0 : colv l m = 0 := by
        unfold colv
        have : l.countP (fun z => decide ((m : Int) < z)) = 0 := by
          rw [List.countP_eq_zero]; intro y hy; have := hx y hy; simp; omega
        rw [this]; rfl
      rw [h0]; simp [sum]; omega

theorem sum_pre_drop (zs : List Int) (k : Nat) : sum (zs.drop k) = sum zs - pre zs k := by
  have : sum zs = sum (zs.take k) + sum (zs.drop k) := by rw [← sum_append, List.take_append_drop]
  unfold pre; omega

theorem sum_conj {zs : List Int} (h : IsPart zs) : sum (conj zs) = sum zs := by
  unfold conj
  rw [sum_tab]
  have h0 : ∀ z ∈ zs, 0 ≤ z := fun z hz => by have := h.range z hz; omega
  rw [colSum_eq zs h.desc h0]
  have e : colv zs (zs.getD 0 0).toNat = 0 := by
    have : ¬ (((0 : Nat) : Int) < colv zs (zs.getD 0 0).toNat) := fun e => by have := (h.gal (zs.getD 0 0).toNat 0).1 e; have := getD_nonneg h 0; omega
    have := colv_nonneg zs (zs.getD 0 0).toNat
    omega
  rw [e]; simp

theorem colv_anti (zs : List Int) (i : Nat) : colv zs (i + 1) ≤ colv zs i := by
  induction zs with
  | nil => simp [colv]
  | cons z l ih => rw [colv_cons, colv_cons]; split <;> split <;> omega

theorem conj_part {zs : List Int} (h : IsPart zs) : IsPart (conj zs) := by
  refine ⟨fun j hj => ⟨?_, fun h0 => ?_⟩, by rw [sum_conj h]; exact h.2⟩
  · rw [conj_length] at hj
    rw [conj_at h]
    have := (h.gal j 0).2 (by omega)
    omega
  · obtain ⟨i, rfl⟩ : ∃ i, j = i + 1 := ⟨j - 1, by omega⟩
    rw [Nat.add_sub_cancel, conj_at h, conj_at h]
    have := colv_anti zs i; omega

theorem colv_conj {zs : List Int} (h : IsPart zs) (j : Nat) : colv (conj zs) j = zs.getD j 0 := by
  refine eq_of_below (colv_nonneg _ _) (getD_nonneg h j) (fun k => ?_)
  rw [(conj_part h).gal j k, conj_at h, h.gal k j]

theorem part_ext {a b : List Int} (ha : IsPart a) (hb : IsPart b) (h : ∀ j, a.getD j 0 = b.getD j 0) : a = b := by
  have hl : a.length = b.length := by
    have lt : ∀ {x y : List Int}, IsPart y → (∀ j, x.getD j 0 = y.getD j 0) → ¬ x.length < y.length := fun {x y} hy hh hlt => by
      have h1 := (hy.range _ (getD_mem hlt)).1
      rw [← hh] at h1
      simp only [List.getD, List.getElem?_eq_none (Nat.le_refl x.length), Option.getD_none] at h1
      omega
    have h1 := lt hb h
    have h2 := lt ha (fun j => (h j).symm)
    omega
  exact ext_getD hl (fun j _ => h j)

theorem conj_conj {zs : List Int} (h : IsPart zs) : conj (conj zs) = zs :=
  part_ext (conj_part (conj_part h)) h (fun j => by rw [conj_at (conj_part h), colv_conj h])

theorem dom_conj {p q : List Int} (hp : IsPart p) (hq : IsPart q) (hs : sum p = sum q) (h : Dom p q) : Dom (conj q) (conj p) := by
  intro m
  rw [pre_conj hp, pre_conj hq]
  have p0 : ∀ z ∈ p, 0 ≤ z := fun z hz => by have := hp.range z hz; omega
  have q0 : ∀ z ∈ q, 0 ≤ z := fun z hz => by have := hq.range z hz; omega
  have e := colSum_eq q hq.desc q0 m
  have hk := colv_nonneg q m
  have l := colSum_le p p0 m (colv q m).toNat
  rw [sum_pre_drop] at e l
  have hd := h (colv q m).toNat
  rw [Int.toNat_of_nonneg hk] at l
  omega

theorem domB_conj {p q : List Int} (hp : IsPart p) (hq : IsPart q) (hs : sum p = sum q) : domB p q = domB (conj q) (conj p) := by
  have hs' : sum (conj q) = sum (conj p) := by rw [sum_conj hp, sum_conj hq, hs]
  rw [Bool.eq_iff_iff, domB_iff hs, domB_iff hs']
  constructor
  · exact dom_conj hp hq hs
  · intro h
    have := dom_conj (conj_part hq) (conj_part hp) hs' h
    rwa [conj_conj hp, conj_conj hq] at this

theorem dom_anti {p q : List Int} (hp : IsPart p) (hq : IsPart q) (h1 : Dom p q) (h2 : Dom q p) : p = q := by
  refine part_ext hp hq (fun j => ?_)
  have a1 := h1 j
  have a2 := h2 j
  have a3 := h1 (j + 1)
  have a4 := h2 (j + 1)
  rw [pre_succ, pre_succ] at a3 a4
  omega

/- Diagonals. -/
theorem durf_end {zs : List Int} (_h : IsPart zs) : ¬ ((durf zs : Int) < zs.getD (durf zs) 0) := by
  have aux : ∀ (l : List Int) (i : Nat), ¬ (((i + durL i l : Nat) : Int) < l.getD (durL i l) 0) := by
    intro l
    induction l with
    | nil => intro i; simp [durL]
    | cons z l ih =>
      intro i
      rw [durL]
      by_cases hz : (i : Int) < z
      · rw [if_pos hz]
        have := ih (i + 1)
        simp only [List.getD_cons_succ]
        rw [show i + (durL (i + 1) l + 1) = i + 1 + durL (i + 1) l by omega]; exact this
      · rw [if_neg hz]; simpa using hz
  have := aux zs 0
  simpa [durf] using this

theorem durf_iff {zs : List Int} (h : IsPart zs) (i : Nat) : i < durf zs ↔ (i : Int) < zs.getD i 0 := by
  constructor
  · exact durf_at zs
  · intro hi
    rcases Nat.lt_or_ge i (durf zs) with hlt | hge
    · exact hlt
    · exfalso
      have he := durf_end h
      by_cases hil : i < zs.length
      · have hd := h.desc
        have hdl : durf zs < zs.length := by omega
        have hle : zs.getD i 0 ≤ zs.getD (durf zs) 0 := by
          rcases Nat.eq_or_lt_of_le hge with e | e
          · rw [e]; exact Int.le_refl _
          · have := List.pairwise_iff_getElem.1 hd _ _ hdl hil e
            simpa [List.getD, List.getElem?_eq_getElem hil, List.getElem?_eq_getElem hdl] using this
        omega
      · simp only [List.getD, List.getElem?_eq_none (show zs.length ≤ i by omega), Option.getD_none] at hi
        omega

theorem durf_conj {zs : List Int} (h : IsPart zs) : durf (conj zs) = durf zs := by
  have key : ∀ i, i < durf (conj zs) ↔ i < durf zs := fun i => by
    rw [durf_iff (conj_part h), durf_iff h, conj_at h, h.gal i i]
  have h1 := key (durf zs)
  have h2 := key (durf (conj zs))
  omega

theorem arms_conj {zs : List Int} (h : IsPart zs) : arms (conj zs) = legs zs := by
  unfold arms legs
  rw [durf_conj h]
  exact tab_congr (fun j _ => by rw [conj_at h])
theorem legs_conj {zs : List Int} (h : IsPart zs) : legs (conj zs) = arms zs := by
  unfold arms legs
  rw [durf_conj h]
  exact tab_congr (fun j _ => by rw [colv_conj h])

theorem getD_anti {zs : List Int} (h : IsPart zs) (i : Nat) : zs.getD (i + 1) 0 ≤ zs.getD i 0 := by
  by_cases hi : i + 1 < zs.length
  · have := (h.1 (i + 1) hi).2 (by omega); rw [Nat.add_sub_cancel] at this; omega
  · have : zs.getD (i + 1) 0 = 0 := by simp [List.getD, List.getElem?_eq_none (show zs.length ≤ i + 1 by omega)]
    have := getD_nonneg h i
    omega

theorem arms_falls {zs : List Int} (h : IsPart zs) : Goes 0 1 (arms zs) := by
  intro j hj
  unfold arms at *
  rw [tab_length] at hj
  have h1 := durf_at zs hj
  refine ⟨by rw [tab_getD _ _ _ hj]; omega, fun h0 => ?_⟩
  obtain ⟨i, rfl⟩ : ∃ i, j = i + 1 := ⟨j - 1, by omega⟩
  rw [Nat.add_sub_cancel, tab_getD _ _ _ hj, tab_getD _ _ _ (by omega)]
  have := getD_anti h i
  omega
theorem legs_falls {zs : List Int} (h : IsPart zs) : Goes 0 1 (legs zs) := by
  rw [← arms_conj h]; exact arms_falls (conj_part h)

/-- Row j of what the first k arms and legs lay down: below the k-th row. -/
theorem ffv_count {zs : List Int} (h : IsPart zs) : ∀ k, k ≤ durf zs → ∀ j, ffv (arms zs) (legs zs) k j = if j < k then zs.getD j 0 else min (k : Int) (zs.getD j 0) := by
  intro k
  induction k with
  | zero => intro _ j; have := getD_nonneg h j; rw [ffv, if_neg (by omega)]; omega
  | succ k ih =>
    intro hk j
    rw [ffv, ih (by omega)]
    have hA : (arms zs).getD k 0 = zs.getD k 0 - k - 1 := by unfold arms; exact tab_getD _ _ _ (by omega)
    have hLg : (legs zs).getD k 0 = colv zs k - k - 1 := by unfold legs; exact tab_getD _ _ _ (by omega)
    rw [hA, hLg]
    have hg := h.gal k j
    have hkk := (durf_iff h k).1 (by omega)
    have hnn := getD_nonneg h j
    by_cases h1 : j = k
    · subst h1
      rw [if_neg (Nat.lt_irrefl _), if_pos rfl, if_neg (by omega), if_pos (by omega)]; omega
    · rw [if_neg h1]
      by_cases h2 : j < k
      · rw [if_pos h2, if_neg (by omega), if_pos (by omega)]; omega
      · rw [if_neg h2, if_neg (show ¬ j < k + 1 by omega)]
        by_cases h3 : (k : Int) < zs.getD j 0
        · have := hg.2 h3
          rw [if_pos (by omega)]; omega
        · have : ¬ (j : Int) < colv zs k := fun e => h3 (hg.1 e)
          rw [if_neg (by omega)]; omega

theorem arms_length (zs : List Int) : (arms zs).length = durf zs := by unfold arms; exact tab_length _ _
theorem legs_length (zs : List Int) : (legs zs).length = durf zs := by unfold legs; exact tab_length _ _

theorem colv_zero {zs : List Int} (h : IsPart zs) : colv zs 0 = zs.length := by
  have : zs.countP (fun z => decide (((0 : Nat) : Int) < z)) = zs.length := by
    rw [List.countP_eq_length]; intro z hz; have := h.range z hz; simp; omega
  unfold colv; rw [this]

theorem fromF_back {zs : List Int} (h : IsPart zs) : fromF (arms zs) (legs zs) = zs := by
  unfold fromF
  rw [arms_length]
  by_cases hd : durf zs = 0
  · rw [if_pos hd]
    by_cases hl : 0 < zs.length
    · have h1 := (h.range _ (getD_mem hl)).1
      have := (durf_iff h 0).2 (by omega)
      omega
    · exact (List.eq_nil_of_length_eq_zero (by omega)).symm
  · rw [if_neg hd]
    have hL : (legs zs).getD 0 0 = zs.length - 1 := by
      unfold legs; rw [tab_getD _ _ _ (by omega), colv_zero h]; omega
    have hlen : 0 < zs.length := by have := durf_le zs; omega
    rw [hL, show ((zs.length : Int) - 1 + 1).toNat = zs.length by omega]
    refine ext_getD (tab_length _ _) (fun j hj => ?_)
    rw [tab_length] at hj
    rw [tab_getD _ _ _ hj, ffv_count h _ (Nat.le_refl _)]
    by_cases hj2 : j < durf zs
    · rw [if_pos hj2]
    · rw [if_neg hj2]
      have hn : ¬ (durf zs : Int) < zs.getD j 0 := by
        intro hlt
        have he := durf_end h
        have hle : zs.getD j 0 ≤ zs.getD (durf zs) 0 := by
          have aux : ∀ d, zs.getD (durf zs + d) 0 ≤ zs.getD (durf zs) 0 := by
            intro d
            induction d with
            | zero => exact Int.le_refl _
            | succ d ih => have := getD_anti h (durf zs + d); rw [Nat.add_assoc] at this; omega
          have := aux (j - durf zs)
          rwa [show durf zs + (j - durf zs) = j by omega] at this
        omega
      have := getD_nonneg h j
      omega

/-- What the arms and legs come to. -/
def hookSum (xs ys : List Int) : Nat → Int
  | 0 => 0
  | k + 1 => hookSum xs ys k + (xs.getD k 0 + 1) + ys.getD k 0
theorem hookSum_eq (xs ys : List Int) (hl : xs.length = ys.length) : hookSum xs ys xs.length = xs.length + sum xs + sum ys := by
  have key : ∀ k, hookSum xs ys k = k + pre xs k + pre ys k := by
    intro k
    induction k with
    | zero => simp [hookSum, pre_zero]
    | succ k ih => rw [hookSum, ih, pre_succ, pre_succ]; omega
  rw [key, pre_all xs (Nat.le_refl _), pre_all ys (by omega)]

theorem sum_tab_add (n : Nat) (f g : Nat → Int) : sum (tab n fun j => f j + g j) = sum (tab n f) + sum (tab n g) := by
  induction n with
  | zero => rfl
  | succ n ih => rw [tab_succ, tab_succ, tab_succ, sum_append, sum_append, sum_append, ih]; simp [sum]; omega
theorem sum_tab_one (n k : Nat) (x : Int) (hk : k < n) : sum (tab n fun j => if j = k then x else 0) = x := by
  have aux : ∀ n, sum (tab n fun j => if j = k then x else 0) = if k < n then x else 0 := by
    intro n
    induction n with
    | zero => rfl
    | succ n ih =>
      rw [tab_succ, sum_append, ih]
      simp only [sum]
      by_cases h1 : n = k
      · subst h1; rw [if_neg (Nat.lt_irrefl _), if_pos rfl, if_pos (by omega)]; omega
      · rw [if_neg h1]
        by_cases h2 : k < n
        · rw [if_pos h2, if_pos (by omega)]; omega
        · rw [if_neg h2, if_neg (by omega)]; omega
  rw [aux, if_pos hk]
theorem sum_tab_run (n k m : Nat) (hk : k + m < n) : sum (tab n fun j => if k < j ∧ (j : Int) ≤ k + (m : Int) then (1 : Int) else 0) = m := by
  have aux : ∀ n, sum (tab n fun j => if k < j ∧ (j : Int) ≤ k + (m : Int) then (1 : Int) else 0) = min (m : Int) (max ((n : Int) - k - 1) 0) := by
    intro n
    induction n with
    | zero => simp [tab, sum]; omega
    | succ n ih =>
      rw [tab_succ, sum_append, ih]
      simp only [sum]
      by_cases h1 : k < n ∧ (n : Int) ≤ k + (m : Int)
      · rw [if_pos h1]; omega
      · rw [if_neg h1]; omega
  rw [aux]; omega

theorem sum_ffv (xs ys : List Int) (n : Nat) (hn : ∀ k, k < xs.length → 0 ≤ ys.getD k 0 ∧ (k : Int) + ys.getD k 0 < n) : ∀ k, k ≤ xs.length → sum (tab n (ffv xs ys k)) = hookSum xs ys k := by
  intro k
  induction k with
  | zero =>
    intro _
    have : ∀ n, sum (tab n (ffv xs ys 0)) = 0 := by
      intro n
      induction n with
      | zero => rfl
      | succ n ih => rw [tab_succ, sum_append, ih]; rfl
    rw [this]; rfl
  | succ k ih =>
    intro hk
    obtain ⟨h1, h2⟩ := hn k (by omega)
    obtain ⟨m, hm⟩ : ∃ m : Nat, ys.getD k 0 = m := ⟨(ys.getD k 0).toNat, by omega⟩
    have e : tab n (ffv xs ys (k + 1)) = tab n fun j => (ffv xs ys k j + (if j = k then xs.getD k 0 + 1 else 0)) + (if k < j ∧ (j : Int) ≤ k + (m : Int) then (1 : Int) else 0) :=
      tab_congr (fun j _ => by rw [ffv, hm])
    rw [e, sum_tab_add, sum_tab_add, ih (by omega), sum_tab_one _ _ _ (by omega), sum_tab_run _ _ _ (by omega), hookSum, hm]

/-- The arms and legs of a partition fit: their hooks come to its size. -/
theorem hooks_fit {zs : List Int} (h : IsPart zs) : ((arms zs).length : Int) + sum (arms zs) + sum (legs zs) = sum zs := by
  rw [← hookSum_eq (arms zs) (legs zs) (by rw [arms_length, legs_length])]
  by_cases hd : durf zs = 0
  · have hb := fromF_back h
    unfold fromF at hb
    rw [arms_length, if_pos hd] at hb
    rw [arms_length, hd, ← hb]; rfl
  · have hlen : 0 < zs.length := by have := durf_le zs; omega
    have hb := fromF_back h
    unfold fromF at hb
    rw [arms_length, if_neg hd] at hb
    have hL : (legs zs).getD 0 0 = zs.length - 1 := by
      unfold legs; rw [tab_getD _ _ _ (by omega), colv_zero h]; omega
    rw [hL, show ((zs.length : Int) - 1 + 1).toNat = zs.length by omega] at hb
    have := sum_ffv (arms zs) (legs zs) zs.length (fun k hk => ?_) (arms zs).length (Nat.le_refl _)
    · rw [← this, arms_length, hb]
    · rw [arms_length] at hk
      have h1 : (legs zs).getD k 0 = colv zs k - k - 1 := by unfold legs; exact tab_getD _ _ _ hk
      have h2 := (h.gal k k).2 ((durf_iff h k).1 hk)
      have h3 := colv_le zs k
      rw [h1]; omega

#print axioms hooks_fit
#print axioms domB_conj
end Go.Proofs.Ytnjbkiegeielhaa
