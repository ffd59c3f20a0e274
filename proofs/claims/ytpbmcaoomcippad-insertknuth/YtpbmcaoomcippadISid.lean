/-
  Insertion by rows and by columns are not in each other's way: plain facts.
-/
import Derived.Test.YtpbmcaoomcippadIKnu
namespace Go.Proofs.Ytpbmcaoomcippad

def SInc (c : List Int) : Prop := ∀ j, j + 1 < c.length → c.getD j 0 < c.getD (j + 1) 0
def DnW (u r : List Int) : Prop := r.length ≤ u.length ∧ ∀ j, j < r.length → u.getD j 0 ≤ r.getD j 0
/-- The columns of a tableau, column by column. -/
def TC : List (List Int) → Prop
  | [] => True
  | c :: l => 0 < c.length ∧ SInc c ∧ DnW c (l.headD []) ∧ TC l

theorem SInc.lt {r : List Int} (h : SInc r) {i j : Nat} (hij : i < j) (hj : j < r.length) : r.getD i 0 < r.getD j 0 := by
  induction j with
  | zero => omega
  | succ j ih =>
    have := h j hj
    by_cases e : i = j
    · subst e; exact this
    · have := ih (by omega) (by omega); omega
theorem SInc.tail {x : Int} {l : List Int} (h : SInc (x :: l)) : SInc l := fun j hj => by have := h (j + 1) (by simpa using hj); simpa using this

structure SpotC (x : Int) (r : List Int) (k : Nat) : Prop where
  le : k ≤ r.length
  pass : ∀ j, j < k → r.getD j 0 < x
  stop : k < r.length → x ≤ r.getD k 0
theorem spotC_has (x : Int) (r : List Int) : SpotC x r (spot true x r) := ⟨spot_le _ _ _, fun j hj => by have := spot_pass true x r j hj; simpa [passes] using this, fun h => by have := spot_stop true x r h; simpa [passes] using this⟩

theorem sinc_put {r : List Int} {x : Int} {k : Nat} (h : SInc r) (hk : SpotC x r k) : SInc (put k x r) := fun j hj => by
  rw [put_len] at hj
  rw [put_getD hk.le, put_getD hk.le]
  by_cases e1 : j = k
  · rw [if_pos e1, if_neg (by omega)]
    have hl : j + 1 < r.length := by split at hj <;> omega
    rw [if_pos hl]
    have := hk.stop (by omega)
    have := h j hl
    rw [← e1] at *
    omega
  · rw [if_neg e1, if_pos (by split at hj <;> omega)]
    by_cases e2 : j + 1 = k
    · rw [if_pos e2]; exact hk.pass j (by omega)
    · rw [if_neg e2, if_pos (by split at hj <;> omega)]
      exact h j (by split at hj <;> omega)

theorem insC_put (x : Int) (r : List Int) (t : List (List Int)) : ins true x (r :: t) = put (spot true x r) x r :: (if spot true x r = r.length then t else ins true (r.getD (spot true x r) 0) t) := by
  simp only [ins]
  unfold put
  by_cases e : spot true x r = r.length
  · rw [if_pos e, if_pos e, if_pos e]
  · rw [if_neg e, if_neg e, if_neg e]
theorem insC_head (x : Int) (ls : List (List Int)) : (ins true x ls).headD [] = put (spot true x (ls.headD [])) x (ls.headD []) := by
  cases ls with
  | nil => simp [ins, put, spot]
  | cons r t => rw [insC_put]; rfl

theorem insC_TC : ∀ {ls : List (List Int)} {x : Int}, TC ls → TC (ins true x ls) := by
  intro ls
  induction ls with
  | nil => intro x _; exact ⟨by simp, fun j hj => absurd hj (by simp), ⟨by simp, fun j hj => absurd hj (by simp)⟩, trivial⟩
  | cons r t ih =>
    intro x hT
    obtain ⟨h1, h2, h3, h4⟩ := hT
    have hk := spotC_has x r
    rw [insC_put]
    obtain ⟨k, ek⟩ : ∃ k, spot true x r = k := ⟨_, rfl⟩
    rw [ek] at hk ⊢
    have hpl : 0 < (put k x r).length := by rw [put_len]; split <;> omega
    by_cases e : k = r.length
    · rw [if_pos e]
      refine ⟨hpl, sinc_put h2 hk, ⟨by rw [put_len, if_pos e]; have := h3.1; omega, fun j hj => ?_⟩, h4⟩
      have := h3.1
      rw [put_getD hk.le, if_neg (by omega), if_pos (by omega)]; exact h3.2 j hj
    · rw [if_neg e]
      have hkl : k < r.length := by have := hk.le; omega
      have s1 := hk.stop hkl
      refine ⟨hpl, sinc_put h2 hk, ?_, ih h4⟩
      rw [insC_head]
      obtain ⟨y, hy⟩ : ∃ y, y = r.getD k 0 := ⟨_, rfl⟩
      obtain ⟨r1, hr1⟩ : ∃ r1, r1 = t.headD [] := ⟨_, rfl⟩
      rw [← hy] at s1
      rw [← hr1] at h3
      rw [← hy, ← hr1]
      have hm := spotC_has y r1
      obtain ⟨m, em⟩ : ∃ m, spot true y r1 = m := ⟨_, rfl⟩
      rw [em] at hm ⊢
      have hmk : m ≤ k := Nat.le_of_not_lt (fun c => by
        have a1 := hm.pass k c
        have a2 := h3.2 k (by have := hm.le; omega)
        omega)
      refine ⟨by rw [put_len, put_len]; have := h3.1; rw [if_neg e]; split <;> omega, fun j hj => ?_⟩
      rw [put_len] at hj
      rw [put_getD hk.le, put_getD hm.le]
      by_cases e2 : j = m
      · rw [if_pos e2]
        by_cases e3 : j = k
        · rw [if_pos e3]; exact s1
        · rw [if_neg e3, if_pos (by omega)]; have := hk.pass j (by omega); omega
      · have hj1 : j < r1.length := by split at hj <;> have := hm.le <;> omega
        rw [if_neg e2, if_pos hj1]
        have q1 := h3.2 j hj1
        have q2 := h3.1
        by_cases e3 : j = k
        · rw [if_pos e3, e3]; rw [e3, ← hy] at q1; omega
        · rw [if_neg e3, if_pos (by omega)]; exact q1

theorem TC_row : ∀ {ls : List (List Int)}, TC ls ↔ ∀ i, i < ls.length → 0 < (row ls i).length ∧ SInc (row ls i) ∧ DnW (row ls i) (row ls (i + 1)) := by
  intro ls
  induction ls with
  | nil => simp [TC]
  | cons r t ih =>
    have e0 : row (r :: t) (0 + 1) = t.headD [] := by cases t <;> rfl
    constructor
    · rintro ⟨h1, h2, h3, h4⟩ i hi
      cases i with
      | zero => rw [e0]; exact ⟨h1, h2, h3⟩
      | succ i => exact ih.1 h4 i (by simpa using hi)
    · intro h
      obtain ⟨h1, h2, h3⟩ := h 0 (by simp)
      rw [e0] at h3
      exact ⟨h1, h2, h3, ih.2 (fun i hi => h (i + 1) (by simpa using hi))⟩
theorem TC.shp {ls : List (List Int)} (h : TC ls) : Shp ls := ⟨fun a ha => (TC_row.1 h a ha).1, fun a ha => (TC_row.1 h a (by omega)).2.2.1⟩

theorem row_lt {ls : List (List Int)} {a c : Nat} (h : c < (row ls a).length) : a < ls.length := Nat.lt_of_not_le (fun k => by rw [row_out k] at h; simp at h)
theorem cols_box {ls : List (List Int)} (h : Shp ls) (c a : Nat) : (row (cols ls) c).getD a 0 = (row ls a).getD c 0 := by
  have := cols_g2 h c a
  unfold g2 at this
  simp only [List.getD, this]
theorem cols_len {ls : List (List Int)} (h : Shp ls) (c a : Nat) : a < (row (cols ls) c).length ↔ c < (row ls a).length := by
  have e := cols_g2 h c a
  unfold g2 at e
  constructor
  · intro hl
    rw [List.getElem?_eq_getElem hl] at e
    exact (List.getElem?_eq_some_iff.1 e.symm).1
  · intro hl
    rw [List.getElem?_eq_getElem hl] at e
    exact (List.getElem?_eq_some_iff.1 e).1
theorem T_cols {ls : List (List Int)} (h : T ls) : TC (cols ls) := by
  have hs := h.shp
  refine TC_row.2 (fun c hc => ⟨(cols_shp hs).one c hc, fun a ha => ?_, (cols_shp hs).shorter' (by omega), fun a ha => ?_⟩)
  · rw [cols_box hs, cols_box hs]
    have h2 := (cols_len hs c (a + 1)).1 ha
    exact (T_row.1 h a (by have := row_lt h2; omega)).2.2.2 c h2
  · rw [cols_box hs, cols_box hs]
    have h2 := (cols_len hs (c + 1) a).1 ha
    exact (T_row.1 h a (row_lt h2)).2.1 c h2
theorem TC_cols {ls : List (List Int)} (h : TC ls) : T (cols ls) := by
  have hs := h.shp
  refine T_row.2 (fun c hc => ⟨(cols_shp hs).one c hc, fun a ha => ?_, (cols_shp hs).shorter' (by omega), fun a ha => ?_⟩)
  · rw [cols_box hs, cols_box hs]
    have h2 := (cols_len hs c (a + 1)).1 ha
    exact (TC_row.1 h a (by have := row_lt h2; omega)).2.2.2 c h2
  · rw [cols_box hs, cols_box hs]
    have h2 := (cols_len hs (c + 1) a).1 ha
    exact (TC_row.1 h a (row_lt h2)).2.1 c h2

/-- Insertion by columns. -/
def insL (y : Int) (t : List (List Int)) : List (List Int) := cols (ins true y (cols t))
theorem insL_T {t : List (List Int)} (h : T t) (y : Int) : T (insL y t) ∧ cols (insL y t) = ins true y (cols t) := by
  have h1 : TC (ins true y (cols t)) := insC_TC (T_cols h)
  exact ⟨TC_cols h1, cols_back h1.shp⟩

/-- The word of columns, each from below. -/
def cw (l : List (List Int)) : List Int := (l.map List.reverse).flatten
theorem cw_cons (c : List Int) (l : List (List Int)) : cw (c :: l) = c.reverse ++ cw l := by simp [cw]

def SDec (c : List Int) : Prop := ∀ j, j + 1 < c.length → c.getD (j + 1) 0 < c.getD j 0
theorem SDec.tail {x : Int} {l : List Int} (h : SDec (x :: l)) : SDec l := fun j hj => by have := h (j + 1) (by simpa using hj); simpa using this
theorem rev_getD (c : List Int) {j : Nat} (hj : j < c.length) : c.reverse.getD j 0 = c.getD (c.length - 1 - j) 0 := by
  simp only [List.getD, List.getElem?_reverse hj]
theorem sdec_rev {c : List Int} (h : SInc c) : SDec c.reverse := fun j hj => by
  rw [List.length_reverse] at hj
  rw [rev_getD c (by omega), rev_getD c (by omega)]
  exact h.lt (by omega) (by omega)

theorem pass_down {R : List Int → List Int → Prop} (h : Plac R) (y : Int) : ∀ (l : List Int) (b : Int), SDec (l ++ [b]) → y ≤ b → R (y :: l ++ [b]) (l ++ [y, b]) := by
  intro l
  induction l with
  | nil => intro b _ _; exact h.refl _
  | cons d l ih =>
    intro b hs hy
    obtain ⟨e, m, hem⟩ : ∃ e m, l ++ [b] = e :: m := by cases l with
      | nil => exact ⟨b, [], rfl⟩
      | cons c l => exact ⟨c, l ++ [b], rfl⟩
    have hs' : SDec (d :: e :: m) := by rw [← hem]; simpa using hs
    have hed : e < d := by have := hs' 0 (by simp); simpa using this
    have hye : y ≤ e := by
      have hs2 : SDec (l ++ [b]) := by rw [hem]; exact hs'.tail
      have key : ∀ j, j < (l ++ [b]).length → b ≤ (l ++ [b]).getD j 0 := fun j hj => by
        have hb : (l ++ [b]).getD l.length 0 = b := by rw [getD_app]; simp
        have : ∀ k j, j + k < (l ++ [b]).length → (l ++ [b]).getD (j + k) 0 ≤ (l ++ [b]).getD j 0 := by
          intro k
          induction k with
          | zero => intro j _; exact Int.le_refl _
          | succ k ih => intro j hj; have h1 := ih j (by omega); have h2 := hs2 (j + k) (by omega); rw [show j + (k + 1) = j + k + 1 by omega]; omega
        have h3 := this (l.length - j) j (by rw [List.length_append, List.length_singleton] at hj ⊢; omega)
        rw [List.length_append, List.length_singleton] at hj
        rw [show j + (l.length - j) = l.length by omega, hb] at h3
        exact h3
      have := key 0 (by simp)
      rw [hem] at this
      simp at this; omega
    have h1 : R ([y, d, e] ++ m) ([d, y, e] ++ m) := h.right m (h.k3 (Or.inr ⟨y, e, d, hye, hed, rfl, rfl⟩))
    have h2 := h.left [d] (ih b (by rw [hem]; exact hs'.tail) hy)
    have e1 : y :: d :: l ++ [b] = [y, d, e] ++ m := by simp only [List.cons_append, hem, List.nil_append]
    have e2 : [d] ++ (y :: l ++ [b]) = [d, y, e] ++ m := by simp only [List.cons_append, hem, List.nil_append]
    rw [e1]
    rw [e2] at h2
    exact h.trans h1 (by simpa using h2)
theorem pass_up {R : List Int → List Int → Prop} (h : Plac R) (b : Int) : ∀ (l : List Int) (y : Int), SDec (y :: l) → y ≤ b → R (y :: b :: l) (y :: l ++ [b]) := by
  intro l
  induction l with
  | nil => intro y _ _; exact h.refl _
  | cons a l ih =>
    intro y hs hy
    have hay : a < y := by have := hs 0 (by simp); simpa using this
    have h1 : R ([y, b, a] ++ l) ([y, a, b] ++ l) := h.right l (h.symm (h.k3 (Or.inl ⟨a, y, b, hay, hy, rfl, rfl⟩)))
    have h2 := h.left [y] (ih a hs.tail (by omega))
    exact h.trans (by simpa using h1) (by simpa using h2)

theorem col_word {R : List Int → List Int → Prop} (h : Plac R) {c : List Int} (hs : SInc c) (y : Int) : R (y :: c.reverse) ((put (spot true y c) y c).reverse ++ bump (spot true y c) c) := by
  have hk := spotC_has y c
  obtain ⟨k, ek⟩ : ∃ k, spot true y c = k := ⟨_, rfl⟩
  rw [ek] at hk ⊢
  by_cases e : k = c.length
  · rw [bump_no e]
    unfold put
    rw [if_pos e, List.reverse_append]
    simpa using h.refl (y :: c.reverse)
  · have hkl : k < c.length := by have := hk.le; omega
    have s1 := hk.stop hkl
    obtain ⟨b, hb⟩ : ∃ b, b = c.getD k 0 := ⟨_, rfl⟩
    have ec : c = c.take k ++ b :: c.drop (k + 1) := by
      conv => lhs; rw [← List.take_append_drop k c]
      rw [drop_cons c k hkl, hb]
    rw [bump_yes hkl, ← hb]
    rw [← hb] at s1
    unfold put
    rw [if_neg e, List.set_eq_take_append_cons_drop, if_pos hkl]
    obtain ⟨A, hA⟩ : ∃ A, A = (c.take k).reverse := ⟨_, rfl⟩
    obtain ⟨D, hD⟩ : ∃ D, D = (c.drop (k + 1)).reverse := ⟨_, rfl⟩
    have er : c.reverse = D ++ b :: A := by
      conv => lhs; rw [ec]
      rw [List.reverse_append, List.reverse_cons, ← hA, ← hD]; simp
    have er2 : (c.take k ++ y :: c.drop (k + 1)).reverse = D ++ y :: A := by rw [List.reverse_append, List.reverse_cons, ← hA, ← hD]; simp
    rw [er, er2]
    have hdec := sdec_rev hs
    rw [er] at hdec
    have hdb : SDec (D ++ [b]) := fun j hj => by
      rw [List.length_append, List.length_singleton] at hj
      have := hdec j (by rw [List.length_append, List.length_cons]; omega)
      have q : ∀ m, m < D.length + 1 → (D ++ b :: A).getD m 0 = (D ++ [b]).getD m 0 := fun m hm => by
        simp only [List.getD, List.getElem?_append]
        by_cases p : m < D.length
        · rw [if_pos p, if_pos p]
        · rw [if_neg p, if_neg p, show m - D.length = 0 by omega]; rfl
      rw [q j (by omega), q (j + 1) (by omega)] at this
      exact this
    have hya : SDec (y :: A) := fun j hj => by
      rw [List.length_cons] at hj
      have q : ∀ m, m < A.length → A.getD m 0 = c.getD (k - 1 - m) 0 := fun m hm => by
        rw [hA] at hm ⊢
        rw [List.length_reverse, List.length_take] at hm
        rw [rev_getD _ (by rw [List.length_take]; omega), List.length_take, Nat.min_eq_left (by omega)]
        simp [List.getD, show k - 1 - m < k by omega]
      cases j with
      | zero =>
        show A.getD 0 0 < y
        rw [q 0 (by omega)]
        rw [hA] at hj; simp at hj
        exact hk.pass _ (by omega)
      | succ j =>
        show A.getD (j + 1) 0 < A.getD j 0
        rw [q _ (by omega), q _ (by omega)]
        rw [hA] at hj; simp at hj
        exact hs.lt (by omega) (by omega)
    have h1 := h.right A (pass_down h y D b hdb s1)
    have h2 := h.left D (pass_up h b A y hya s1)
    refine h.trans (by simpa using h1) (by simpa using h2)

theorem cw_ins {R : List Int → List Int → Prop} (h : Plac R) : ∀ (l : List (List Int)) (y : Int), TC l → R (y :: cw l) (cw (ins true y l)) := by
  intro l
  induction l with
  | nil => intro y _; exact h.refl _
  | cons c l ih =>
    intro y hT
    rw [cw_cons, insC_put, cw_cons]
    have h1 := h.right (cw l) (col_word h hT.2.1 y)
    refine h.trans (by simpa using h1) ?_
    refine h.left _ ?_
    unfold bump
    by_cases e : spot true y c = c.length
    · rw [if_pos e, if_pos e]; exact h.refl _
    · rw [if_neg e, if_neg e]; exact ih _ hT.2.2.2

-- The tableau of the word of columns.
theorem rwW_app : ∀ (u v r : List Int), rwW r (u ++ v) = ((rwW (rwW r u).1 v).1, (rwW r u).2 ++ (rwW (rwW r u).1 v).2) := by
  intro u
  induction u with
  | nil => intro v r; rfl
  | cons x u ih => intro v r; simp only [List.cons_append, rwW, ih, List.append_assoc]
theorem rw_down (r : List Int) : ∀ (d : List Int) (e : Int), SDec (e :: d) → (∀ z ∈ e :: d, ∀ j, j < r.length → r.getD j 0 ≤ z) → ∃ (u : List Int) (z : Int), e :: d = u ++ [z] ∧ rwW (r ++ [e]) d = (r ++ [z], u) := by
  intro d
  induction d with
  | nil => intro e _ _; exact ⟨[], e, rfl, rfl⟩
  | cons f d ih =>
    intro e hs hr
    have hfe : f < e := by have := hs 0 (by simp); simpa using this
    obtain ⟨u, z, h1, h2⟩ := ih f hs.tail (fun z hz => hr z (by simp only [List.mem_cons] at hz ⊢; exact Or.inr hz))
    have hsp : spot false f (r ++ [e]) = r.length := Spot.is ⟨by simp, fun j hj => by rw [getD_app, if_pos hj]; exact hr f (by simp) j hj, fun _ => by rw [getD_app, if_neg (by omega), if_pos rfl]; exact hfe⟩
    have hput : put r.length f (r ++ [e]) = r ++ [f] := by unfold put; rw [if_neg (by simp)]; simp
    have hb : bump r.length (r ++ [e]) = [e] := by rw [bump_yes (by simp), getD_app, if_neg (by omega), if_pos rfl]
    refine ⟨e :: u, z, by rw [h1]; rfl, ?_⟩
    simp only [rwW, hsp, hput, hb, h2]
    rfl
theorem rw_col {r u : List Int} {z : Int} (hs : SDec (u ++ [z])) (hr : ∀ y ∈ u ++ [z], ∀ j, j < r.length → r.getD j 0 ≤ y) : rwW r (u ++ [z]) = (r ++ [z], u) := by
  obtain ⟨e, d, hed⟩ : ∃ e d, u ++ [z] = e :: d := by cases u with
    | nil => exact ⟨z, [], rfl⟩
    | cons c l => exact ⟨c, l ++ [z], rfl⟩
  rw [hed] at hs hr ⊢
  obtain ⟨v, y, h1, h2⟩ := rw_down r d e hs hr
  have hsp : spot false e r = r.length := Spot.is ⟨Nat.le_refl _, fun j hj => hr e (by simp) j hj, fun h => by omega⟩
  have hput : put r.length e r = r ++ [e] := if_pos rfl
  simp only [rwW, hsp, hput, h2, bump_no rfl]
  rw [← hed] at h1
  have := List.append_inj' h1 rfl
  rw [this.1, (List.cons.inj this.2).1]
  rfl

theorem colOf_cons (r : List Int) (t : List (List Int)) {c : Nat} (h : c < r.length) : colOf (r :: t) c = r.getD c 0 :: colOf t c := by
  unfold colOf
  rw [List.filterMap_cons]
  simp [List.getElem?_eq_getElem h, List.getD]
theorem sinc_col {t : List (List Int)} (h : T t) (c : Nat) : SInc (colOf t c) := fun a ha => by
  have hs := h.shp
  have h2 := (col_len hs).1 ha
  have h1 : c < (row t a).length := (col_len hs).1 (show a < (colOf t c).length by omega)
  have e : ∀ m, (colOf t c).getD m 0 = (row t m).getD c 0 := fun m => by have := colOf_g2 hs c m; unfold g2 at this; simp only [List.getD, this]
  rw [e, e]
  exact (T_row.1 h a (row_lt h1)).2.2.2 c h2

theorem cw_T : ∀ (t : List (List Int)), T t → insW [] (cw (cols t)) = t := by
  intro t
  induction t with
  | nil => intro _; rfl
  | cons r t ih =>
    intro hT
    have hcol : ∀ c, c < r.length → SInc (r.getD c 0 :: colOf t c) := fun c hc => by rw [← colOf_cons r t hc]; exact sinc_col hT c
    have key : ∀ n, n ≤ r.length → rwW [] (((List.range n).map (fun c => (colOf t c).reverse ++ [r.getD c 0])).flatten) = (r.take n, ((List.range n).map (fun c => (colOf t c).reverse)).flatten) := by
      intro n
      induction n with
      | zero => intro _; rfl
      | succ n ihn =>
        intro hn
        have i1 := ihn (by omega)
        rw [List.range_succ, List.map_append, List.flatten_append, rwW_app, i1]
        simp only [List.map_cons, List.map_nil, List.flatten_cons, List.flatten_nil, List.append_nil]
        have hc := hcol n (by omega)
        have hd : SDec ((colOf t n).reverse ++ [r.getD n 0]) := by have := sdec_rev hc; rw [List.reverse_cons] at this; exact this
        have hr : ∀ y ∈ (colOf t n).reverse ++ [r.getD n 0], ∀ j, j < (r.take n).length → (r.take n).getD j 0 ≤ y := fun y hy j hj => by
          rw [List.length_take] at hj
          have e1 : (r.take n).getD j 0 = r.getD j 0 := by simp [List.getD, show j < n by omega]
          rw [e1]
          have h1 := hT.2.1.le (i := j) (j := n) (by omega) (by omega)
          rw [List.mem_append, List.mem_reverse] at hy
          rcases hy with hy | hy
          · obtain ⟨m, hm, rfl⟩ := List.mem_iff_getElem.1 hy
            have := hc.lt (i := 0) (j := m + 1) (by omega) (by simpa using hm)
            simp [List.getElem?_eq_getElem hm] at this
            have h3 : r.getD n 0 < (colOf t n)[m] := by simpa [List.getD] using this
            omega
          · simp only [List.mem_singleton] at hy; rw [hy]; exact h1
        rw [rw_col hd hr]
        simp only
        rw [take_snoc r n (by omega)]
        simp
    have hw : cw (cols (r :: t)) = ((List.range r.length).map (fun c => (colOf t c).reverse ++ [r.getD c 0])).flatten := by
      unfold cw cols
      rw [show width (r :: t) = r.length from rfl, List.map_map]
      congr 1
      refine List.map_congr_left (fun c hc => ?_)
      simp only [Function.comp]
      rw [colOf_cons r t (List.mem_range.1 hc), List.reverse_cons]
    have hw2 : ((List.range r.length).map (fun c => (colOf t c).reverse)).flatten = cw (cols t) := by
      have hle : width t ≤ r.length := by have := hT.2.2.1.1; cases t with
        | nil => simp [width, row]
        | cons r1 t1 => exact this
      obtain ⟨d, hd⟩ : ∃ d, r.length = width t + d := ⟨r.length - width t, by omega⟩
      rw [hd, List.range_add, List.map_append, List.flatten_append]
      have e2 : ((List.map (fun x => width t + x) (List.range d)).map (fun c => (colOf t c).reverse)).flatten = [] := by
        rw [List.flatten_eq_nil_iff]
        intro l hl
        rw [List.map_map] at hl
        obtain ⟨m, hm, rfl⟩ := List.mem_map.1 hl
        simp only [Function.comp]
        have : (colOf t (width t + m)).length = 0 := Nat.eq_zero_of_not_pos (fun hp => by
          have := (col_len hT.2.2.2.shp).1 hp
          unfold width at this; omega)
        rw [List.eq_nil_of_length_eq_zero this]; rfl
      rw [e2, List.append_nil]
      unfold cw cols
      rw [List.map_map]
      rfl
    have hne : cw (cols (r :: t)) ≠ [] := by
      rw [hw]
      intro e
      have := congrArg List.length e
      obtain ⟨n, hn⟩ : ∃ n, r.length = n + 1 := ⟨r.length - 1, by have := hT.1; omega⟩
      rw [hn, List.range_succ, List.map_append, List.flatten_append] at this
      simp at this
    rw [insW_empty hne, insW_row, hw, key _ (Nat.le_refl _), List.take_length, hw2, ih hT.2.2.2]

/-- Rows and columns are not in each other's way. -/
theorem sides {t : List (List Int)} (h : T t) (x y : Int) : insL y (ins false x t) = ins false x (insL y t) := by
  have hP := plac_P
  have h1 : T (ins false x t) := (ins_T h).1
  obtain ⟨a1, a2⟩ := insL_T h1 y
  obtain ⟨b1, b2⟩ := insL_T h y
  -- the words
  have e1 : insW [] (cw (cols (ins false x t))) = insW [] (cw (cols t) ++ [x]) := by
    rw [cw_T _ h1, insW_app, cw_T _ h]; rfl
  have s1 : SameP (cw (cols (ins false x t))) (cw (cols t) ++ [x]) := by
    have q1 := word_of hP (cw (cols (ins false x t)))
    have q2 := word_of hP (cw (cols t) ++ [x])
    rw [e1] at q1
    exact hP.trans q1 (hP.symm q2)
  have p1 := cw_ins hP (cols (ins false x t)) y (T_cols h1) [] []
  have p2 := cw_ins hP (cols t) y (T_cols h) [] []
  rw [← a2] at p1
  rw [← b2] at p2
  simp only [List.nil_append, List.append_nil] at p1 p2
  rw [cw_T _ a1] at p1
  rw [cw_T _ b1] at p2
  have p3 := s1 [y] []
  simp only [List.append_nil, List.singleton_append] at p3
  rw [← p1, p3, ← List.cons_append, insW_app, p2]
  rfl

end Go.Proofs.Ytpbmcaoomcippad
