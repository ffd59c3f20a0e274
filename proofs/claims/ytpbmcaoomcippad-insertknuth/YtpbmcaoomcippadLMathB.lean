/-
  Standard tableaux, numbers of boxes, columns: plain facts.
-/
import Derived.Test.YtpbmcaoomcippadLMath
namespace Go.Proofs.Ytpbmcaoomcippad

/-- All of them are 1. -/
def onesB (l : List Int) : Bool := l.all fun z => decide (z = 1)
theorem onesB_iff {l : List Int} : onesB l = true ↔ ∀ j, j < l.length → l.getD j 0 = 1 := by
  simp only [onesB, List.all_eq_true, decide_eq_true_eq]
  constructor
  · intro h j hj; exact h _ (getD_mem hj)
  · intro h z hz
    obtain ⟨j, hj, rfl⟩ := List.mem_iff_getElem.1 hz
    have := h j hj
    simpa [List.getD, List.getElem?_eq_getElem hj] using this

theorem countP_eq_count (l : List Int) (k : Nat) : l.countP (fun z => decide (z = (k : Int) + 1)) = l.count ((k : Int) + 1) := by
  rw [List.count]
  apply List.countP_congr
  intro z _; simp

theorem ones_perm {l : List Int} (h1 : ∀ z ∈ l, 1 ≤ z) : onesB (had l) = okPerm l := by
  rw [Bool.eq_iff_iff, onesB_iff, had_length]
  have e : ∀ j, j < mx l → (had l).getD j 0 = cnt l j := fun j hj => tab_getD _ _ _ hj
  unfold okPerm
  rw [decide_eq_true_eq]
  constructor
  · intro h
    have hc : ∀ j, j < mx l → l.count ((j : Int) + 1) = 1 := fun j hj => by
      have := h j hj; rw [e j hj] at this; unfold cnt at this; omega
    have hall : ∀ z ∈ l, 1 ≤ z ∧ z ≤ mx l := fun z hz => ⟨h1 z hz, by have := mx_ge hz; omega⟩
    have hs := S_counts (mx l) l hall
    rw [S_congr (g := fun _ => 1) (fun i hi => by rw [countP_eq_count]; exact hc i hi), S_one] at hs
    refine ⟨fun z hz => by have := hall z hz; omega, ?_⟩
    rw [List.nodup_iff_count]
    intro z
    by_cases hz : z ∈ l
    · have := hall z hz
      have := hc (z - 1).toNat (by omega)
      rw [show (((z - 1).toNat : Nat) : Int) + 1 = z by omega] at this; omega
    · rw [List.count_eq_zero.2 hz]; omega
  · rintro ⟨h2, h3⟩ j hj
    rw [e j hj]
    have hle : mx l ≤ l.length := mx_le (fun z hz => (h2 z hz).2)
    have hs := S_counts l.length l h2
    have hu : ∀ v : Nat, v < l.length → l.countP (fun z => decide (z = (v : Int) + 1)) ≤ 1 := fun v _ => nodup_count h3 _
    -- a sum of n numbers, none above 1, that is n: each is 1
    have key : ∀ n (f : Nat → Nat), (∀ i, i < n → f i ≤ 1) → S n f = n → ∀ i, i < n → f i = 1 := by
      intro n
      induction n with
      | zero => intro f _ _ i hi; omega
      | succ n ih =>
        intro f hf hS i hi
        rw [S] at hS
        have hb : S n f ≤ n := by have := S_le (n := n) (f := f) (g := fun _ => 1) (fun i hi => hf i (by omega)); rw [S_one] at this; exact this
        have hn := hf n (by omega)
        by_cases e : i = n
        · subst e; omega
        · exact ih f (fun i hi => hf i (by omega)) (by omega) i (by omega)
    have := key l.length _ hu hs j (by omega)
    rw [countP_eq_count] at this
    unfold cnt; omega

-- Sums over all boxes.
def SS (ls : List (List Int)) (f : Nat → Nat → Nat) : Nat := S ls.length (fun a => S (row ls a).length (f a))
theorem SS_congr {ls : List (List Int)} {f g : Nat → Nat → Nat} (h : ∀ a b, a < ls.length → b < (row ls a).length → f a b = g a b) : SS ls f = SS ls g :=
  S_congr (fun a ha => S_congr (fun b hb => h a b ha hb))
theorem SS_add (ls : List (List Int)) (f g : Nat → Nat → Nat) : SS ls (fun a b => f a b + g a b) = SS ls f + SS ls g := by
  unfold SS
  rw [S_congr (fun a _ => S_add _ _ _), S_add]
theorem S_zero' {n : Nat} {f : Nat → Nat} (h : ∀ i, i < n → f i = 0) : S n f = 0 := by rw [S_congr h, S_zero]
theorem SS_zero {ls : List (List Int)} {f : Nat → Nat → Nat} (h : ∀ a b, a < ls.length → b < (row ls a).length → f a b = 0) : SS ls f = 0 :=
  S_zero' (fun a ha => S_zero' (fun b hb => h a b ha hb))
theorem SS_just {ls : List (List Int)} {f : Nat → Nat → Nat} {i j : Nat} (hi : i < ls.length) (hj : j < (row ls i).length) (h1 : f i j = 1) (h0 : ∀ a b, a < ls.length → b < (row ls a).length → ¬ (a = i ∧ b = j) → f a b = 0) : SS ls f = 1 := by
  have e : ∀ a b, a < ls.length → b < (row ls a).length → f a b = ind (a = i ∧ b = j) := fun a b ha hb => by
    by_cases h : a = i ∧ b = j
    · rw [ind_pos h, h.1, h.2, h1]
    · rw [ind_neg h, h0 a b ha hb h]
  rw [SS_congr e]
  unfold SS
  have e2 : ∀ a, a < ls.length → S (row ls a).length (fun b => ind (a = i ∧ b = j)) = ind (a = i) := fun a ha => by
    by_cases h : a = i
    · subst h
      rw [ind_pos rfl, S_just hj ⟨rfl, rfl⟩ (fun b _ hb => hb.2)]
    · rw [ind_neg h]; exact S_none (fun b _ hb => h hb.1)
  rw [S_congr e2]
  exact S_just hi rfl (fun a _ ha => ha)
theorem S_flat (ls : List (List Int)) (p : Int → Bool) : ∀ k, k ≤ ls.length → S k (fun a => S (row ls a).length (fun b => ind (p (box ls a b) = true))) = (ls.take k).flatten.countP p := by
  intro k
  induction k with
  | zero => intro _; simp [S]
  | succ k ih =>
    intro hk
    rw [S, ih (by omega), flat_take ls k (by omega), List.countP_append]
    congr 1
    have := count_S (row ls k) p (row ls k).length (Nat.le_refl _)
    rw [List.take_length] at this
    exact this.symm
theorem SS_flat (ls : List (List Int)) (p : Int → Bool) : SS ls (fun a b => ind (p (box ls a b) = true)) = ls.flatten.countP p := by
  have := S_flat ls p ls.length (Nat.le_refl _)
  rwa [List.take_length] at this

/-- How many boxes come ahead of (a, b), and one. -/
def numAt (ls : List (List Int)) (a b : Nat) : Nat := 1 + SS ls (fun c d => ind (box ls c d < box ls a b ∨ box ls c d = box ls a b ∧ d < b))
/-- What was given to the letter k + 1, and to those below it, when the boxes ahead of (i, j), column by column, were seen. -/
def givenAt (ls : List (List Int)) (i j k : Nat) : Nat := SS ls (fun c d => ind (box ls c d < (k : Int) + 1)) + SS ls (fun c d => ind (box ls c d = (k : Int) + 1 ∧ (d < j ∨ d = j ∧ c < i)))

theorem SS_bound (ls : List (List Int)) (p : Nat → Nat → Prop) [∀ a b, Decidable (p a b)] : SS ls (fun a b => ind (p a b)) ≤ ls.flatten.length := by
  have h1 : SS ls (fun a b => ind (p a b)) ≤ SS ls (fun _ _ => 1) := S_le (fun a _ => S_le (fun b _ => ind_le _))
  have h2 : SS ls (fun _ _ => 1) = ls.flatten.countP (fun _ => true) := by
    rw [← SS_flat]; exact SS_congr (fun a b _ _ => by simp [ind])
  rw [h2] at h1
  exact Nat.le_trans h1 List.countP_le_length
theorem numAt_bd (ls : List (List Int)) (a b : Nat) : 1 ≤ numAt ls a b ∧ numAt ls a b ≤ ls.flatten.length + 1 := by
  unfold numAt
  have := SS_bound ls (fun c d => box ls c d < box ls a b ∨ box ls c d = box ls a b ∧ d < b)
  omega
theorem givenAt_bd (ls : List (List Int)) (i j k : Nat) : givenAt ls i j k ≤ 2 * ls.flatten.length := by
  unfold givenAt
  have h1 := SS_bound ls (fun c d => box ls c d < (k : Int) + 1)
  have h2 := SS_bound ls (fun c d => box ls c d = (k : Int) + 1 ∧ (d < j ∨ d = j ∧ c < i))
  omega
theorem given_step {ls : List (List Int)} {i j : Nat} (hi : i < ls.length) (hj : j < (row ls i).length) (k : Nat) : givenAt ls (i + 1) j k = givenAt ls i j k + ind (box ls i j = (k : Int) + 1) := by
  unfold givenAt
  have e : SS ls (fun c d => ind (box ls c d = (k : Int) + 1 ∧ (d < j ∨ d = j ∧ c < i + 1))) = SS ls (fun c d => ind (box ls c d = (k : Int) + 1 ∧ (d < j ∨ d = j ∧ c < i))) + SS ls (fun c d => ind (box ls c d = (k : Int) + 1 ∧ (c = i ∧ d = j))) := by
    rw [← SS_add]
    refine SS_congr (fun c d _ _ => ?_)
    unfold ind
    by_cases h1 : box ls c d = (k : Int) + 1
    · by_cases h2 : d < j
      · simp [h1, h2]; omega
      · by_cases h3 : d = j
        · by_cases h4 : c = i
          · subst h3; subst h4; simp [h1]
          · subst h3; simp [h1, h4]
            by_cases h5 : c < i
            · rw [if_pos (by omega), if_pos h5]
            · rw [if_neg (by omega), if_neg h5]
        · simp [h2, h3]
    · simp [h1]
  rw [e]
  have e2 : SS ls (fun c d => ind (box ls c d = (k : Int) + 1 ∧ (c = i ∧ d = j))) = ind (box ls i j = (k : Int) + 1) := by
    by_cases h : box ls i j = (k : Int) + 1
    · rw [ind_pos h]
      exact SS_just hi hj (ind_pos ⟨h, rfl, rfl⟩) (fun a b _ _ hn => ind_neg (fun hh => hn hh.2))
    · rw [ind_neg h]
      exact SS_zero (fun a b _ _ => ind_neg (fun hh => by obtain ⟨h1, rfl, rfl⟩ := hh; exact h h1))
  rw [e2]; omega
theorem given_skip {ls : List (List Int)} {i j : Nat} (hj : (row ls i).length ≤ j) (k : Nat) : givenAt ls (i + 1) j k = givenAt ls i j k := by
  unfold givenAt
  congr 1
  refine SS_congr (fun c d _ hd => ind_iff ⟨fun h => ⟨h.1, ?_⟩, fun h => ⟨h.1, ?_⟩⟩)
  · rcases h.2 with h2 | ⟨h2, h3⟩
    · exact Or.inl h2
    · refine Or.inr ⟨h2, ?_⟩
      by_cases e : c = i
      · subst e; omega
      · omega
  · rcases h.2 with h2 | ⟨h2, h3⟩
    · exact Or.inl h2
    · exact Or.inr ⟨h2, by omega⟩
theorem given_col (ls : List (List Int)) (j k : Nat) : givenAt ls ls.length j k = givenAt ls 0 (j + 1) k := by
  unfold givenAt
  congr 1
  exact SS_congr (fun c d hc _ => ind_iff ⟨fun h => ⟨h.1, by omega⟩, fun h => ⟨h.1, by omega⟩⟩)
theorem given_num {ls : List (List Int)} (h : IsTab ls) {i j k : Nat} (hi : i < ls.length) (hj : j < (row ls i).length) (hk : box ls i j = (k : Int) + 1) : givenAt ls (i + 1) j k = numAt ls i j := by
  rw [given_step hi hj, ind_pos hk]
  unfold givenAt numAt
  rw [← hk]
  have e : SS ls (fun c d => ind (box ls c d = box ls i j ∧ (d < j ∨ d = j ∧ c < i))) = SS ls (fun c d => ind (box ls c d = box ls i j ∧ d < j)) := by
    refine SS_congr (fun c d hc hd => ind_iff ⟨fun hh => ⟨hh.1, ?_⟩, fun hh => ⟨hh.1, Or.inl hh.2⟩⟩)
    rcases hh.2 with h2 | ⟨rfl, h3⟩
    · exact h2
    · have := h.column h3 hi hj
      omega
  rw [e, Nat.add_comm 1, ← SS_add]
  congr 1
  refine SS_congr (fun c d _ _ => ?_)
  unfold ind
  by_cases h1 : box ls c d < box ls i j
  · have : ¬ box ls c d = box ls i j := by omega
    simp [h1, this]
  · simp [h1]
theorem given_start {ls : List (List Int)} (h : ∀ z ∈ ls.flatten, 1 ≤ z) (k : Nat) : (givenAt ls 0 0 k : Int) = ((S k (fun m => (cnt ls.flatten m).toNat) : Nat) : Int) := by
  unfold givenAt
  rw [SS_zero (f := fun c d => ind (box ls c d = (k : Int) + 1 ∧ (d < 0 ∨ d = 0 ∧ c < 0))) (fun a b _ _ => ind_neg (by omega)), Nat.add_zero]
  have e : SS ls (fun c d => ind (box ls c d < (k : Int) + 1)) = ls.flatten.countP (fun z => decide (z < (k : Int) + 1)) := by
    rw [← SS_flat]; exact SS_congr (fun a b _ _ => ind_iff (by simp))
  rw [e]
  congr 1
  have key : ∀ (l : List Int), (∀ z ∈ l, 1 ≤ z) → l.countP (fun z => decide (z < (k : Int) + 1)) = S k (fun m => l.countP (fun z => decide (z = (m : Int) + 1))) := by
    intro l
    induction l with
    | nil => intro _; simp [S_zero]
    | cons y l ih =>
      intro hl
      have hy := hl y (by simp)
      have e : ∀ v, v < k → (y :: l).countP (fun z => decide (z = (v : Int) + 1)) = l.countP (fun z => decide (z = (v : Int) + 1)) + ind (y = (v : Int) + 1) := by
        intro v _; rw [List.countP_cons]; simp [ind]
      rw [S_congr e, S_add, ← ih (fun z hz => hl z (by simp [hz])), List.countP_cons]
      congr 1
      by_cases hk : y < (k : Int) + 1
      · rw [S_just (k := (y - 1).toNat) (by omega) (by omega) (fun i _ hi => by omega)]; simp [hk]
      · rw [S_none (fun i hi hy2 => hk (by omega))]; simp [hk]
  rw [key _ h]
  refine S_congr (fun m _ => ?_)
  rw [countP_eq_count]; unfold cnt; omega

/-- A table of the same rows' lengths, by a function of the box. -/
def tab2 (ls : List (List Int)) (f : Nat → Nat → Int) : List (List Int) := (List.range ls.length).map fun a => tab (row ls a).length (f a)
theorem tab2_length (ls : List (List Int)) (f : Nat → Nat → Int) : (tab2 ls f).length = ls.length := by simp [tab2]
theorem tab2_row {ls : List (List Int)} {f : Nat → Nat → Int} {a : Nat} (ha : a < ls.length) : row (tab2 ls f) a = tab (row ls a).length (f a) := by
  simp [row, tab2, List.getD, ha]
theorem tab2_box {ls : List (List Int)} {f : Nat → Nat → Int} {a b : Nat} (ha : a < ls.length) (hb : b < (row ls a).length) : box (tab2 ls f) a b = f a b := by
  rw [box, tab2_row ha, tab_getD _ _ _ hb]
theorem tab2_congr {ls : List (List Int)} {f g : Nat → Nat → Int} (h : ∀ a b, a < ls.length → b < (row ls a).length → f a b = g a b) : tab2 ls f = tab2 ls g :=
  List.map_congr_left (fun a ha => tab_congr (fun b hb => h a b (List.mem_range.1 ha) hb))
theorem tab2_self (ls : List (List Int)) : tab2 ls (box ls) = ls := by
  refine ext_row (tab2_length _ _) (fun a ha => ?_)
  rw [tab2_length] at ha
  rw [tab2_row ha]
  refine ext_getD (tab_length _ _) (fun j hj => ?_)
  rw [tab_length] at hj
  rw [tab_getD _ _ _ hj]; rfl
def numbered (ls : List (List Int)) : List (List Int) := tab2 ls (fun a b => (numAt ls a b : Nat))

-- Columns.
def colOf (ls : List (List Int)) (c : Nat) : List Int := ls.filterMap (fun r => r[c]?)
theorem colOf_take {ls : List (List Int)} {k : Nat} (hk : k < ls.length) (c : Nat) : colOf (ls.take (k + 1)) c = colOf (ls.take k) c ++ (if c < (row ls k).length then [box ls k c] else []) := by
  unfold colOf
  rw [List.take_succ_eq_append_getElem hk, List.filterMap_append]
  congr 1
  have er : ls[k] = row ls k := by simp [row, List.getD, List.getElem?_eq_getElem hk]
  rw [er]
  by_cases h : c < (row ls k).length
  · rw [if_pos h]
    simp only [List.filterMap_cons, List.filterMap_nil, List.getElem?_eq_getElem h]
    simp [box, List.getD, List.getElem?_eq_getElem h]
  · rw [if_neg h]
    simp only [List.filterMap_cons, List.filterMap_nil, List.getElem?_eq_none (by omega : (row ls k).length ≤ c)]
theorem colOf_zero (ls : List (List Int)) (c : Nat) : colOf (ls.take 0) c = [] := by simp [colOf]
theorem colOf_all (ls : List (List Int)) (c : Nat) : colOf (ls.take ls.length) c = colOf ls c := by rw [List.take_length]
theorem colOf_le (ls : List (List Int)) (c : Nat) : (colOf ls c).length ≤ ls.length := List.length_filterMap_le _ _
theorem colOf_mem {ls : List (List Int)} {c : Nat} {z : Int} (h : z ∈ colOf ls c) : z ∈ ls.flatten := by
  obtain ⟨r, hr, he⟩ := List.mem_filterMap.1 h
  exact List.mem_flatten.2 ⟨r, hr, List.mem_of_getElem? he⟩
theorem colOf_end {ls : List (List Int)} (h : IsTab ls) {k c : Nat} (hk : k < ls.length) (hc : (row ls k).length ≤ c) : colOf (ls.take k) c = colOf ls c := by
  have key : ∀ m, k + m ≤ ls.length → colOf (ls.take (k + m)) c = colOf (ls.take k) c := by
    intro m
    induction m with
    | zero => intro _; rfl
    | succ m ih =>
      intro hm
      have hs := h.shorter (a := k) (b := k + m) (by omega) (by omega)
      rw [show k + (m + 1) = (k + m) + 1 by omega, colOf_take (by omega), if_neg (by omega), List.append_nil]
      exact ih (by omega)
  have := key (ls.length - k) (by omega)
  rw [show k + (ls.length - k) = ls.length by omega, List.take_length] at this
  exact this.symm
def width (ls : List (List Int)) : Nat := (row ls 0).length
def cols (ls : List (List Int)) : List (List Int) := (List.range (width ls)).map (colOf ls)
theorem cols_length (ls : List (List Int)) : (cols ls).length = width ls := by simp [cols]
theorem cols_row {ls : List (List Int)} {c : Nat} (hc : c < width ls) : row (cols ls) c = colOf ls c := by simp [row, cols, List.getD, hc]
theorem width_le {ls : List (List Int)} (h : IsTab ls) : width ls ≤ 40 := by
  unfold width
  by_cases h0 : 0 < ls.length
  · exact h.width h0
  · rw [row_out (by omega)]; simp
theorem row_le_width {ls : List (List Int)} (h : IsTab ls) {a : Nat} (ha : a < ls.length) : (row ls a).length ≤ width ls := h.shorter (Nat.zero_le _) ha
theorem flat_bound (ls : List (List Int)) (m : Nat) (h : ∀ r ∈ ls, r.length ≤ m) : ls.flatten.length ≤ ls.length * m := by
  induction ls with
  | nil => simp
  | cons r ls ih =>
    have h1 := ih (fun x hx => h x (by simp [hx]))
    have h2 := h r (by simp)
    simp only [List.flatten_cons, List.length_append, List.length_cons]
    rw [Nat.add_mul]; omega
theorem cols_flat {ls : List (List Int)} (h : IsTab ls) : (cols ls).flatten.length ≤ 1600 := by
  have h1 := flat_bound (cols ls) 40 (fun r hr => by
    obtain ⟨c, _, rfl⟩ := List.mem_map.1 hr
    have := colOf_le ls c
    have := h.rows; omega)
  rw [cols_length] at h1
  have := width_le h
  have : width ls * 40 ≤ 40 * 40 := Nat.mul_le_mul_right _ this
  omega

end Go.Proofs.Ytpbmcaoomcippad
