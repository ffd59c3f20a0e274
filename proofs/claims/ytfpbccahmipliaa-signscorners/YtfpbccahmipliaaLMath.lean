/-
  Tableaux as lists of rows: plain facts.
-/
import Derived.Test.YtfpbccahmipliaaBOwn
import Derived.Test.YtfpbccahmipliaaPMath
namespace Go.Proofs.Ytfpbccahmipliaa

/-- The row a, the box (a, b). -/
def row (ls : List (List Int)) (a : Nat) : List Int := ls.getD a []
def box (ls : List (List Int)) (a b : Nat) : Int := (row ls a).getD b 0
/-- The row ahead of row a: none ahead of the first. -/
def upOf (ls : List (List Int)) (a : Nat) : List Int := if a = 0 then [] else row ls (a - 1)

theorem row_mem {ls : List (List Int)} {a : Nat} (h : a < ls.length) : row ls a ∈ ls := by simp [row, List.getD, List.getElem?_eq_getElem h]
theorem mem_row {ls : List (List Int)} {r : List Int} (h : r ∈ ls) : ∃ a, a < ls.length ∧ row ls a = r := by
  obtain ⟨a, ha, rfl⟩ := List.mem_iff_getElem.1 h
  exact ⟨a, ha, by simp [row, List.getD, List.getElem?_eq_getElem ha]⟩
theorem row_out {ls : List (List Int)} {a : Nat} (h : ls.length ≤ a) : row ls a = [] := by simp [row, List.getD, List.getElem?_eq_none h]
theorem ext_row {ls ms : List (List Int)} (hl : ls.length = ms.length) (h : ∀ a, a < ls.length → row ls a = row ms a) : ls = ms := by
  refine List.ext_getElem hl (fun j h1 h2 => ?_)
  simpa [row, List.getD, List.getElem?_eq_getElem h1, List.getElem?_eq_getElem h2] using h j h1

/-- Along the row letters, none less than the one ahead. -/
def risesB (r : List Int) : Bool := (List.range r.length).all fun j => decide (1 ≤ r.getD j 0) && decide (r.getD j 0 ≤ 99) && (decide (j = 0) || decide (r.getD (j - 1) 0 ≤ r.getD j 0))
/-- Each letter, where the row above has one, is above that one. -/
def underB (r up : List Int) : Bool := (List.range (min r.length up.length)).all fun j => decide (up.getD j 0 < r.getD j 0)
def rowB (i : Nat) (up r : List Int) : Bool := decide (0 < r.length) && (decide (i = 0) || decide (r.length ≤ up.length)) && risesB r && underB r up
def okTab (ls : List (List Int)) : Bool := (List.range ls.length).all fun i => rowB i (upOf ls i) (row ls i)
/-- What Check says. -/
def tchk (ls : List (List Int)) : Int := if 40 < ls.flatten.length then 2 else if okTab ls = true then 0 else 1

theorem risesB_iff {r : List Int} : risesB r = true ↔ ∀ j, j < r.length → 1 ≤ r.getD j 0 ∧ r.getD j 0 ≤ 99 ∧ (0 < j → r.getD (j - 1) 0 ≤ r.getD j 0) := by
  simp only [risesB, List.all_eq_true, List.mem_range, Bool.and_eq_true, Bool.or_eq_true, decide_eq_true_eq]
  constructor
  · intro h j hj
    obtain ⟨⟨h1, h2⟩, h3⟩ := h j hj
    exact ⟨h1, h2, fun h0 => by rcases h3 with h3 | h3; omega; exact h3⟩
  · intro h j hj
    obtain ⟨h1, h2, h3⟩ := h j hj
    refine ⟨⟨h1, h2⟩, ?_⟩
    rcases Nat.eq_zero_or_pos j with h0 | h0
    · exact Or.inl h0
    · exact Or.inr (h3 h0)
theorem underB_iff {r up : List Int} : underB r up = true ↔ ∀ j, j < r.length → j < up.length → up.getD j 0 < r.getD j 0 := by
  simp only [underB, List.all_eq_true, List.mem_range, decide_eq_true_eq]
  exact ⟨fun h j h1 h2 => h j (by omega), fun h j hj => h j (by omega) (by omega)⟩

structure RowOk (i : Nat) (up r : List Int) : Prop where
  one : 0 < r.length
  len : 0 < i → r.length ≤ up.length
  low : ∀ j, j < r.length → 1 ≤ r.getD j 0 ∧ r.getD j 0 ≤ 99
  rise : ∀ j, j + 1 < r.length → r.getD j 0 ≤ r.getD (j + 1) 0
  down : 0 < i → ∀ j, j < r.length → up.getD j 0 < r.getD j 0

theorem rowB_iff {i : Nat} {up r : List Int} (h0 : i = 0 → up = []) : rowB i up r = true ↔ RowOk i up r := by
  simp only [rowB, Bool.and_eq_true, Bool.or_eq_true, decide_eq_true_eq, risesB_iff, underB_iff]
  constructor
  · rintro ⟨⟨⟨h1, h2⟩, h3⟩, h4⟩
    have hl : 0 < i → r.length ≤ up.length := fun hi => by rcases h2 with h2 | h2; omega; exact h2
    exact ⟨h1, hl, fun j hj => ⟨(h3 j hj).1, (h3 j hj).2.1⟩, fun j hj => (h3 (j + 1) hj).2.2 (by omega), fun hi j hj => h4 j hj (by have := hl hi; omega)⟩
  · intro h
    refine ⟨⟨⟨h.one, ?_⟩, fun j hj => ⟨(h.low j hj).1, (h.low j hj).2, fun hp => ?_⟩⟩, fun j h1 h2 => ?_⟩
    · rcases Nat.eq_zero_or_pos i with hi | hi
      · exact Or.inl hi
      · exact Or.inr (h.len hi)
    · have := h.rise (j - 1) (by omega)
      rw [show j - 1 + 1 = j by omega] at this; exact this
    · rcases Nat.eq_zero_or_pos i with hi | hi
      · rw [h0 hi] at h2; simp at h2
      · exact h.down hi j h1

theorem upOf_zero (ls : List (List Int)) (i : Nat) (h : i = 0) : upOf ls i = [] := by rw [upOf, if_pos h]
theorem upOf_succ (ls : List (List Int)) (i : Nat) : upOf ls (i + 1) = row ls i := by simp [upOf]

structure IsTab (ls : List (List Int)) : Prop where
  few : ls.flatten.length ≤ 40
  ok : ∀ i, i < ls.length → RowOk i (upOf ls i) (row ls i)

theorem okTab_iff {ls : List (List Int)} : okTab ls = true ↔ ∀ i, i < ls.length → RowOk i (upOf ls i) (row ls i) := by
  simp only [okTab, List.all_eq_true, List.mem_range]
  exact ⟨fun h i hi => (rowB_iff (upOf_zero ls i)).1 (h i hi), fun h i hi => (rowB_iff (upOf_zero ls i)).2 (h i hi)⟩
theorem okTab_no {ls : List (List Int)} {i : Nat} (hi : i < ls.length) (h : rowB i (upOf ls i) (row ls i) = false) : okTab ls = false := by
  cases e : okTab ls with
  | false => rfl
  | true =>
    simp only [okTab, List.all_eq_true, List.mem_range] at e
    rw [e i hi] at h; cases h
theorem okTab_yes {ls : List (List Int)} (h : ∀ i, i < ls.length → rowB i (upOf ls i) (row ls i) = true) : okTab ls = true := by
  simp only [okTab, List.all_eq_true, List.mem_range]; exact h
theorem tchk_ok {ls : List (List Int)} : tchk ls = 0 ↔ IsTab ls := by
  unfold tchk
  constructor
  · intro h
    by_cases h1 : 40 < ls.flatten.length
    · rw [if_pos h1] at h; omega
    · rw [if_neg h1] at h
      by_cases h2 : okTab ls = true
      · exact ⟨by omega, okTab_iff.1 h2⟩
      · rw [if_neg h2] at h; omega
  · intro h
    rw [if_neg (by have := h.few; omega), if_pos (okTab_iff.2 h.ok)]
theorem tchk_range (ls : List (List Int)) : tchk ls = 0 ∨ tchk ls = 1 ∨ tchk ls = 2 := by
  unfold tchk; split
  · simp
  · split <;> simp

-- Lengths of parts.
theorem flat_take (ls : List (List Int)) (k : Nat) (hk : k < ls.length) : (ls.take (k + 1)).flatten = (ls.take k).flatten ++ row ls k := by
  rw [List.take_succ_eq_append_getElem hk, List.flatten_append]
  simp [row, List.getD, List.getElem?_eq_getElem hk]
theorem flat_take_le (ls : List (List Int)) (k : Nat) : (ls.take k).flatten.length ≤ ls.flatten.length := by
  conv => rhs; rw [← List.take_append_drop k ls]
  rw [List.flatten_append, List.length_append]; omega
theorem row_le_flat {ls : List (List Int)} {a : Nat} (h : a < ls.length) : (row ls a).length ≤ ls.flatten.length := by
  have := flat_take_le ls (a + 1)
  rw [flat_take ls a h, List.length_append] at this; omega
theorem len_le_flat {ls : List (List Int)} (h : ∀ a, a < ls.length → 0 < (row ls a).length) : ls.length ≤ ls.flatten.length := by
  have key : ∀ k, k ≤ ls.length → k ≤ (ls.take k).flatten.length := by
    intro k
    induction k with
    | zero => intro _; omega
    | succ k ih =>
      intro hk
      have := ih (by omega)
      have h1 := h k (by omega)
      rw [flat_take ls k (by omega), List.length_append]; omega
  have := key ls.length (Nat.le_refl _)
  rwa [List.take_length] at this
theorem flat_mem {ls : List (List Int)} {z : Int} (h : z ∈ ls.flatten) : ∃ a b, a < ls.length ∧ b < (row ls a).length ∧ box ls a b = z := by
  obtain ⟨r, hr, hz⟩ := List.mem_flatten.1 h
  obtain ⟨a, ha, rfl⟩ := mem_row hr
  obtain ⟨b, hb, rfl⟩ := List.mem_iff_getElem.1 hz
  exact ⟨a, b, ha, hb, by simp [box, List.getD, List.getElem?_eq_getElem hb]⟩
theorem box_mem {ls : List (List Int)} {a b : Nat} (ha : a < ls.length) (hb : b < (row ls a).length) : box ls a b ∈ ls.flatten :=
  List.mem_flatten.2 ⟨row ls a, row_mem ha, by simp [box, List.getD, List.getElem?_eq_getElem hb]⟩

theorem IsTab.letters {ls : List (List Int)} (h : IsTab ls) {a b : Nat} (ha : a < ls.length) (hb : b < (row ls a).length) : 1 ≤ box ls a b ∧ box ls a b ≤ 99 := (h.ok a ha).low b hb
theorem IsTab.mem {ls : List (List Int)} (h : IsTab ls) {z : Int} (hz : z ∈ ls.flatten) : 1 ≤ z ∧ z ≤ 99 := by
  obtain ⟨a, b, ha, hb, rfl⟩ := flat_mem hz
  exact h.letters ha hb
theorem IsTab.rows {ls : List (List Int)} (h : IsTab ls) : ls.length ≤ 40 := Nat.le_trans (len_le_flat (fun a ha => (h.ok a ha).one)) h.few
theorem IsTab.width {ls : List (List Int)} (h : IsTab ls) {a : Nat} (ha : a < ls.length) : (row ls a).length ≤ 40 := Nat.le_trans (row_le_flat ha) h.few
theorem IsTab.shorter {ls : List (List Int)} (h : IsTab ls) {a b : Nat} (hab : a ≤ b) (hb : b < ls.length) : (row ls b).length ≤ (row ls a).length := by
  induction b with
  | zero => have : a = 0 := by omega
            subst this; exact Nat.le_refl _
  | succ b ih =>
    by_cases e : a = b + 1
    · subst e; exact Nat.le_refl _
    · have h1 := (h.ok (b + 1) hb).len (by omega)
      rw [upOf_succ] at h1
      exact Nat.le_trans h1 (ih (by omega) (by omega))
theorem IsTab.column {ls : List (List Int)} (h : IsTab ls) {a c j : Nat} (hac : a < c) (hc : c < ls.length) (hj : j < (row ls c).length) : box ls a j < box ls c j := by
  induction c with
  | zero => omega
  | succ c ih =>
    have h1 := (h.ok (c + 1) hc).down (by omega) j hj
    rw [upOf_succ] at h1
    have h2 : box ls c j < box ls (c + 1) j := h1
    by_cases e : a = c
    · subst e; exact h2
    · have hs := h.shorter (a := c) (b := c + 1) (by omega) hc
      exact Int.lt_trans (ih (by omega) (by omega) (by omega)) h2
theorem IsTab.along {ls : List (List Int)} (h : IsTab ls) {a i j : Nat} (hij : i ≤ j) (ha : a < ls.length) (hj : j < (row ls a).length) : box ls a i ≤ box ls a j := by
  induction j with
  | zero => have : i = 0 := by omega
            subst this; exact Int.le_refl _
  | succ j ih =>
    by_cases e : i = j + 1
    · subst e; exact Int.le_refl _
    · exact Int.le_trans (ih (by omega) (by omega)) ((h.ok a ha).rise j hj)

-- How often each letter is there.
/-- The greatest of them, as a number that counts from 0. -/
def mx : List Int → Nat
  | [] => 0
  | z :: l => max z.toNat (mx l)
theorem mx_snoc (l : List Int) (z : Int) : mx (l ++ [z]) = max (mx l) z.toNat := by
  induction l with
  | nil => simp [mx]
  | cons y l ih => simp only [List.cons_append, mx, ih]; omega
theorem mx_ge {l : List Int} {z : Int} (h : z ∈ l) : z.toNat ≤ mx l := by
  induction l with
  | nil => cases h
  | cons y l ih =>
    rcases List.mem_cons.1 h with rfl | h
    · simp only [mx]; omega
    · have := ih h; simp only [mx]; omega
theorem mx_le {l : List Int} {n : Nat} (h : ∀ z ∈ l, z ≤ n) : mx l ≤ n := by
  induction l with
  | nil => simp [mx]
  | cons y l ih =>
    have h1 := ih (fun z hz => h z (by simp [hz]))
    have h2 := h y (by simp)
    simp only [mx]; omega
theorem mx_in {l : List Int} (h : ∀ z ∈ l, 1 ≤ z) (h0 : l ≠ []) : ((mx l : Nat) : Int) ∈ l := by
  induction l with
  | nil => exact absurd rfl h0
  | cons y l ih =>
    have hy := h y (by simp)
    by_cases e : l = []
    · subst e; simp only [mx]; rw [show ((max y.toNat 0 : Nat) : Int) = y by omega]; simp
    · have := ih (fun z hz => h z (by simp [hz])) e
      simp only [mx]
      rcases Nat.le_total (mx l) y.toNat with h1 | h1
      · rw [Nat.max_eq_left h1, show ((y.toNat : Nat) : Int) = y by omega]; simp
      · rw [Nat.max_eq_right h1]; exact List.mem_cons_of_mem _ this

def cnt (l : List Int) (k : Nat) : Int := (l.count ((k : Int) + 1) : Nat)
theorem cnt_snoc (l : List Int) (z : Int) (k : Nat) : cnt (l ++ [z]) k = cnt l k + if z = (k : Int) + 1 then 1 else 0 := by
  unfold cnt
  rw [List.count_append, List.count_singleton]
  by_cases h : z = (k : Int) + 1
  · rw [if_pos (by simp [h]), if_pos h]; simp
  · rw [if_neg (by simpa using h), if_neg h]; simp
theorem cnt_high {l : List Int} {k : Nat} (h : mx l ≤ k) : cnt l k = 0 := by
  unfold cnt
  rw [List.count_eq_zero.2 (fun hm => by have := mx_ge hm; omega)]; rfl
theorem cnt_bd (l : List Int) (k : Nat) : 0 ≤ cnt l k ∧ cnt l k ≤ l.length := by
  unfold cnt
  have := List.count_le_length (a := (k : Int) + 1) (l := l)
  omega
/-- The content. -/
def had (l : List Int) : List Int := tab (mx l) (cnt l)
theorem had_length (l : List Int) : (had l).length = mx l := tab_length _ _
theorem had_nil : had [] = [] := rfl
theorem tab_eq {n m : Nat} {f g : Nat → Int} (h : n = m) (h2 : ∀ j, j < n → f j = g j) : tab n f = tab m g := by subst h; exact tab_congr h2

end Go.Proofs.Ytfpbccahmipliaa
