/-
  A slide's way from its hole to its end: the word stays as KNUTH'S steps leave it: plain facts.
-/
import Derived.Test.YtpbkidgdpejenaeSSld
namespace Go.Proofs.Ytpbkidgdpejenae

theorem take_getD' (r : List Int) (n j : Nat) (hj : j < n) : (r.take n).getD j 0 = r.getD j 0 := by simp [List.getD, hj]
theorem drop_getD' (r : List Int) (n j : Nat) : (r.drop n).getD j 0 = r.getD (n + j) 0 := by simp [List.getD]
theorem cut_at {r : List Int} {j : Nat} (hj : j < r.length) : r = r.take j ++ r.getD j 0 :: r.drop (j + 1) := by
  conv => lhs; rw [← List.take_append_drop j r]
  rw [drop_cons r j hj]
theorem erase_at (r : List Int) (j : Nat) : r.eraseIdx j = r.take j ++ r.drop (j + 1) := by
  rw [List.eraseIdx_eq_take_drop_succ]
theorem app_getD (u v : List Int) (m : Nat) : (u ++ v).getD m 0 = if m < u.length then u.getD m 0 else v.getD (m - u.length) 0 := by
  by_cases c : m < u.length
  · rw [if_pos c]; simp [List.getD, List.getElem?_append_left c]
  · rw [if_neg c]; simp [List.getD, List.getElem?_append_right (show u.length ≤ m by omega)]

/-- The word, where a letter goes up. -/
theorem er_below {h : Nat → Nat} {s : List (List Int)} {i j : Nat} (k : Sk (one i j) h s) (hj : h i ≤ j) (hr : j < (row s (i + 1)).length) (hright : j + 1 < (row s i).length → box s (i + 1) j ≤ box s i (j + 1)) :
    Eqv (sword h (er s i j)) (sword h (er (sb s i j (box s (i + 1) j)) (i + 1) j)) := by
  have hi1 : i + 1 < s.length := Nat.lt_of_not_le (fun c => by rw [row_out c] at hr; simp at hr)
  have hsh := k.shp.shorter' (a := i) (b := i + 1) (by omega)
  have hm := k.hm i
  obtain ⟨b, hb⟩ : ∃ b, b = box s (i + 1) j := ⟨_, rfl⟩
  rw [← hb]
  have eL : er s i j = (s.set i ((row s i).eraseIdx j)).set (i + 1) (row s (i + 1)) := by
    unfold er
    refine (ext_row (by simp) (fun a ha => ?_)).symm
    simp only [List.length_set] at ha
    rw [set_row]
    by_cases e : a = i + 1
    · subst e; rw [if_pos ⟨rfl, by simpa using ha⟩, set_row, if_neg (fun q => by omega)]
    · rw [if_neg (fun q => e q.1)]
  have eR : er (sb s i j b) (i + 1) j = (s.set i ((row s i).set j b)).set (i + 1) ((row s (i + 1)).eraseIdx j) := by
    unfold er
    rw [sb_row, if_neg (by omega)]
    rfl
  rw [eL, eR, sword2 h hi1, sword2 h hi1]
  refine plac_E.app _ _ ?_
  have hji : j < (row s i).length := by omega
  -- the pieces
  obtain ⟨u, hu⟩ : ∃ u, u = row s i := ⟨_, rfl⟩
  obtain ⟨v, hv⟩ : ∃ v, v = row s (i + 1) := ⟨_, rfl⟩
  rw [← hu, ← hv]
  have hul : u.length = (row s i).length := by rw [hu]
  have hvl : v.length = (row s (i + 1)).length := by rw [hv]
  have bu : ∀ m, u.getD m 0 = box s i m := fun m => by rw [hu]; rfl
  have bv : ∀ m, v.getD m 0 = box s (i + 1) m := fun m => by rw [hv]; rfl
  obtain ⟨D0, hD0⟩ : ∃ D0, D0 = (v.take (h i)).drop (h (i + 1)) := ⟨_, rfl⟩
  obtain ⟨D, hD⟩ : ∃ D, D = (v.take j).drop (h i) := ⟨_, rfl⟩
  obtain ⟨E, hE⟩ : ∃ E, E = v.drop (j + 1) := ⟨_, rfl⟩
  obtain ⟨A, hA⟩ : ∃ A, A = (u.take j).drop (h i) := ⟨_, rfl⟩
  obtain ⟨C, hC⟩ : ∃ C, C = (u.drop (j + 1)).take E.length := ⟨_, rfl⟩
  obtain ⟨C1, hC1⟩ : ∃ C1, C1 = (u.drop (j + 1)).drop E.length := ⟨_, rfl⟩
  have hEl : E.length = v.length - (j + 1) := by rw [hE]; simp
  have hDl : D.length = j - h i := by rw [hD]; simp; omega
  have hAl : A.length = j - h i := by rw [hA]; simp; omega
  have hCl : C.length = E.length := by rw [hC]; simp; omega
  have gD : ∀ m, m < D.length → D.getD m 0 = box s (i + 1) (h i + m) := fun m hm' => by rw [hD, drop_getD', take_getD' _ _ _ (by omega), bv]
  have gA : ∀ m, m < A.length → A.getD m 0 = box s i (h i + m) := fun m hm' => by rw [hA, drop_getD', take_getD' _ _ _ (by omega), bu]
  have gE : ∀ m, E.getD m 0 = box s (i + 1) (j + 1 + m) := fun m => by rw [hE, drop_getD', bv]
  have gC : ∀ m, m < C.length → C.getD m 0 = box s i (j + 1 + m) := fun m hm' => by rw [hC, take_getD' _ _ _ (by omega), drop_getD', bu]
  have no1 : ∀ m, ¬ one i j (i + 1) m := fun m q => by have := q.1; omega
  have hvb : v = v.take j ++ b :: E := by rw [hE, hb, ← bv]; exact cut_at (by omega)
  have e1 : v.drop (h (i + 1)) = D0 ++ (D ++ b :: E) := by
    conv => lhs; rw [hvb]
    rw [List.drop_append_of_le_length (by rw [List.length_take]; omega)]
    rw [← List.append_assoc]
    congr 1
    rw [hD0, hD]
    refine List.ext_getElem? (fun m => ?_)
    by_cases c : m < h i - h (i + 1)
    · rw [List.getElem?_append_left (by simp; omega)]
      simp only [List.getElem?_drop, List.getElem?_take]
      rw [if_pos (by omega), if_pos (by omega)]
    · rw [List.getElem?_append_right (by simp; omega)]
      simp only [List.getElem?_drop, List.getElem?_take, List.length_drop, List.length_take]
      rw [show h i + (m - (min (h i) v.length - h (i + 1))) = h (i + 1) + m by omega]
  have e2 : (u.eraseIdx j).drop (h i) = A ++ (C ++ C1) := by
    rw [erase_at u j, List.drop_append_of_le_length (by rw [List.length_take]; omega), hA, hC, hC1, List.take_append_drop]
  have e3 : (v.eraseIdx j).drop (h (i + 1)) = D0 ++ (D ++ E) := by
    rw [erase_at v j, ← hE, List.drop_append_of_le_length (by rw [List.length_take]; omega)]
    rw [← List.append_assoc]
    congr 1
    rw [hD0, hD]
    refine List.ext_getElem? (fun m => ?_)
    by_cases c : m < h i - h (i + 1)
    · rw [List.getElem?_append_left (by simp; omega)]
      simp only [List.getElem?_drop, List.getElem?_take]
      rw [if_pos (by omega), if_pos (by omega)]
    · rw [List.getElem?_append_right (by simp; omega)]
      simp only [List.getElem?_drop, List.getElem?_take, List.length_drop, List.length_take]
      rw [show h i + (m - (min (h i) v.length - h (i + 1))) = h (i + 1) + m by omega]
  have e4 : (u.set j b).drop (h i) = A ++ b :: (C ++ C1) := by
    rw [List.set_eq_take_append_cons_drop, if_pos (by omega), List.drop_append_of_le_length (by rw [List.length_take]; omega), hA, hC, hC1, List.take_append_drop]
  rw [e1, e2, e3, e4]
  have key : Eqv (D ++ b :: E ++ A ++ C) (D ++ E ++ A ++ b :: C) := by
    refine up_word plac_E ?_ ?_ ?_ (by omega) (by omega) (fun m hm' => ?_) (fun m hm' => ?_)
    · intro m hm'
      simp only [List.length_append, List.length_cons] at hm'
      have q : ∀ n, n < D.length + (E.length + 1) → (D ++ b :: E).getD n 0 = box s (i + 1) (h i + n) := fun n hn => by
        rw [app_getD]
        by_cases c : n < D.length
        · rw [if_pos c, gD n c]
        · rw [if_neg c]
          by_cases c2 : n - D.length = 0
          · rw [c2, show h i + n = j by omega, ← hb]; rfl
          · obtain ⟨p, hp⟩ : ∃ p, n - D.length = p + 1 := ⟨n - D.length - 1, by omega⟩
            rw [hp]
            show E.getD p 0 = _
            rw [gE]; congr 1; omega
      rw [q m (by omega), q (m + 1) (by omega)]
      exact k.along (i + 1) (h i + m) (h i + (m + 1)) (by omega) (by omega) (by omega) (no1 _) (no1 _)
    · intro m hm'
      rw [List.length_append] at hm'
      have q : ∀ n, n < D.length + E.length → (D ++ E).getD n 0 = box s (i + 1) (if n < D.length then h i + n else h i + n + 1) := fun n hn => by
        rw [app_getD]
        by_cases c : n < D.length
        · rw [if_pos c, if_pos c, gD n c]
        · rw [if_neg c, if_neg c, gE]; congr 1; omega
      rw [q m (by omega), q (m + 1) (by omega)]
      refine k.along (i + 1) _ _ ?_ ?_ ?_ (no1 _) (no1 _) <;> (repeat' split) <;> omega
    · intro m hm'
      simp only [List.length_cons] at hm'
      cases m with
      | zero =>
        show b ≤ C.getD 0 0
        rw [gC 0 (by omega), hb]; exact hright (by omega)
      | succ m =>
        show C.getD m 0 ≤ C.getD (m + 1) 0
        rw [gC m (by omega), gC (m + 1) (by omega)]
        exact k.along i _ _ (by omega) (by omega) (by omega) (fun q => by have := q.2; omega) (fun q => by have := q.2; omega)
    · rw [gA m hm', gD m (by omega)]
      exact k.down i (i + 1) _ (by omega) (by omega) (by omega) (fun q => by have := q.2; omega) (no1 _)
    · rw [gC m hm', gE m]
      exact k.down i (i + 1) _ (by omega) (by omega) (by omega) (fun q => by have := q.2; omega) (no1 _)
  have := plac_E.app D0 C1 key
  simpa using this

/-- A hole's way. -/
def mv : Nat → List (List Int) → Nat → Nat → List (List Int) × Nat × Nat
  | 0, s, i, j => (s, i, j)
  | n + 1, s, i, j => if box s (i + 1) j ≠ 0 ∧ (box s i (j + 1) = 0 ∨ box s (i + 1) j ≤ box s i (j + 1)) then mv n (sb s i j (box s (i + 1) j)) (i + 1) j
      else if box s i (j + 1) ≠ 0 then mv n (sb s i j (box s i (j + 1))) i (j + 1) else (s, i, j)
theorem mv_step (n : Nat) (s : List (List Int)) (i j : Nat) : mv (n + 1) s i j = if box s (i + 1) j ≠ 0 ∧ (box s i (j + 1) = 0 ∨ box s (i + 1) j ≤ box s i (j + 1)) then mv n (sb s i j (box s (i + 1) j)) (i + 1) j
      else if box s i (j + 1) ≠ 0 then mv n (sb s i j (box s i (j + 1))) i (j + 1) else (s, i, j) := rfl

/-- Rows with one hole on its way. -/
structure Hol (h : Nat → Nat) (s : List (List Int)) (i j : Nat) : Prop where
  sk : Sk (one i j) h s
  le : h i ≤ j
  lt : j < (row s i).length
def left (s : List (List Int)) (i j : Nat) : Nat := (s.length - i) + ((row s 0).length - j)
theorem Hol.row {h : Nat → Nat} {s : List (List Int)} {i j : Nat} (k : Hol h s i j) : i < s.length := Nat.lt_of_not_le (fun c => by have := k.lt; rw [row_out c] at this; simp at this)
theorem Hol.at {h : Nat → Nat} {s : List (List Int)} {i j : Nat} (k : Hol h s i j) : (box s i (j + 1) ≠ 0 ↔ j + 1 < (Go.Proofs.Ytpbkidgdpejenae.row s i).length) ∧ (box s (i + 1) j ≠ 0 ↔ j < (Go.Proofs.Ytpbkidgdpejenae.row s (i + 1)).length) ∧ 0 ≤ box s i (j + 1) ∧ 0 ≤ box s (i + 1) j := by
  have h1 : j + 1 < (Go.Proofs.Ytpbkidgdpejenae.row s i).length → 1 ≤ box s i (j + 1) := fun c => k.sk.pos i (j + 1) (by have := k.le; omega) c (fun q => by have := q.2; omega)
  have h2 : j < (Go.Proofs.Ytpbkidgdpejenae.row s (i + 1)).length → 1 ≤ box s (i + 1) j := fun c => k.sk.pos (i + 1) j (by have := k.le; have := k.sk.hm i; omega) c (fun q => by have := q.1; omega)
  have h3 : ¬ j + 1 < (Go.Proofs.Ytpbkidgdpejenae.row s i).length → box s i (j + 1) = 0 := fun c => box_out (by omega)
  have h4 : ¬ j < (Go.Proofs.Ytpbkidgdpejenae.row s (i + 1)).length → box s (i + 1) j = 0 := fun c => box_out (by omega)
  by_cases c1 : j + 1 < (Go.Proofs.Ytpbkidgdpejenae.row s i).length <;> by_cases c2 : j < (Go.Proofs.Ytpbkidgdpejenae.row s (i + 1)).length
  · have := h1 c1; have := h2 c2; omega
  · have := h1 c1; have := h4 c2; omega
  · have := h3 c1; have := h2 c2; omega
  · have := h3 c1; have := h4 c2; omega
theorem Hol.wide {h : Nat → Nat} {s : List (List Int)} {i j : Nat} (k : Hol h s i j) : j < (Go.Proofs.Ytpbkidgdpejenae.row s 0).length := by
  have := k.sk.shp.shorter' (a := 0) (b := i) (by omega); have := k.lt; omega
theorem Hol.down {h : Nat → Nat} {s : List (List Int)} {i j : Nat} (k : Hol h s i j) (c : box s (i + 1) j ≠ 0 ∧ (box s i (j + 1) = 0 ∨ box s (i + 1) j ≤ box s i (j + 1))) :
    Hol h (sb s i j (box s (i + 1) j)) (i + 1) j ∧ Eqv (sword h (er s i j)) (sword h (er (sb s i j (box s (i + 1) j)) (i + 1) j)) ∧ left (sb s i j (box s (i + 1) j)) (i + 1) j < left s i j := by
  obtain ⟨h1, h2, h3, h4⟩ := k.at
  have hr := h2.1 c.1
  have hri : j + 1 < (Go.Proofs.Ytpbkidgdpejenae.row s i).length → box s (i + 1) j ≤ box s i (j + 1) := fun q => by have := h1.2 q; rcases c.2 with c2 | c2 <;> omega
  refine ⟨⟨k.sk.below k.le hr hri, by have := k.sk.hm i; have := k.le; omega, by rw [sb_len]; exact hr⟩, er_below k.sk k.le hr hri, ?_⟩
  unfold left
  rw [sb_length, sb_len]
  have : i + 1 < s.length := Nat.lt_of_not_le (fun c => by rw [row_out c] at hr; simp at hr)
  omega
theorem Hol.right {h : Nat → Nat} {s : List (List Int)} {i j : Nat} (k : Hol h s i j) (c : ¬ (box s (i + 1) j ≠ 0 ∧ (box s i (j + 1) = 0 ∨ box s (i + 1) j ≤ box s i (j + 1)))) (c2 : box s i (j + 1) ≠ 0) :
    Hol h (sb s i j (box s i (j + 1))) i (j + 1) ∧ Eqv (sword h (er s i j)) (sword h (er (sb s i j (box s i (j + 1))) i (j + 1))) ∧ left (sb s i j (box s i (j + 1))) i (j + 1) < left s i j := by
  obtain ⟨h1, h2, h3, h4⟩ := k.at
  have hr := h1.1 c2
  refine ⟨⟨k.sk.right k.le hr (fun q => by have := h2.2 q; omega), by have := k.le; omega, by rw [sb_len]; exact hr⟩, Eqv.of (by rw [er_right hr]), ?_⟩
  unfold left
  rw [sb_length, sb_len]
  have := k.wide
  have := k.sk.shp.shorter' (a := 0) (b := i) (by omega)
  omega

/-- Where the way ends. -/
structure Ends (h : Nat → Nat) (s : List (List Int)) (i j : Nat) (s' : List (List Int)) (i' j' : Nat) : Prop where
  hol : Hol h s' i' j'
  len : s'.length = s.length
  lens : ∀ a, (row s' a).length = (row s a).length
  no : box s' i' (j' + 1) = 0 ∧ box s' (i' + 1) j' = 0
  word : Eqv (sword h (er s i j)) (sword h (er s' i' j'))
theorem mv_ends : ∀ (n : Nat) (h : Nat → Nat) (s : List (List Int)) (i j : Nat), Hol h s i j → left s i j ≤ n → Ends h s i j (mv n s i j).1 (mv n s i j).2.1 (mv n s i j).2.2 := by
  intro n
  induction n with
  | zero =>
    intro h s i j k hl
    unfold left at hl
    have := k.wide
    omega
  | succ n ih =>
    intro h s i j k hl
    simp only [mv]
    by_cases c : box s (i + 1) j ≠ 0 ∧ (box s i (j + 1) = 0 ∨ box s (i + 1) j ≤ box s i (j + 1))
    · rw [if_pos c]
      obtain ⟨k1, k2, k3⟩ := k.down c
      have e := ih h _ _ _ k1 (by omega)
      exact ⟨e.hol, by rw [e.len, sb_length], fun a => by rw [e.lens, sb_len], e.no, k2.trans e.word⟩
    · rw [if_neg c]
      by_cases c2 : box s i (j + 1) ≠ 0
      · rw [if_pos c2]
        obtain ⟨k1, k2, k3⟩ := k.right c c2
        have e := ih h _ _ _ k1 (by omega)
        exact ⟨e.hol, by rw [e.len, sb_length], fun a => by rw [e.lens, sb_len], e.no, k2.trans e.word⟩
      · rw [if_neg c2]
        have z1 : box s i (j + 1) = 0 := Decidable.not_not.1 c2
        exact ⟨k, rfl, fun _ => rfl, ⟨z1, Decidable.byContradiction (fun q => c ⟨q, Or.inl z1⟩)⟩, Eqv.refl _⟩
theorem mv_more : ∀ (n : Nat) (h : Nat → Nat) (s : List (List Int)) (i j : Nat), Hol h s i j → left s i j ≤ n → mv (n + 1) s i j = mv n s i j := by
  intro n
  induction n with
  | zero =>
    intro h s i j k hl
    unfold left at hl
    have := k.wide
    omega
  | succ n ih =>
    intro h s i j k hl
    rw [mv_step (n + 1) s i j, mv_step n s i j]
    by_cases c : box s (i + 1) j ≠ 0 ∧ (box s i (j + 1) = 0 ∨ box s (i + 1) j ≤ box s i (j + 1))
    · rw [if_pos c, if_pos c]
      obtain ⟨k1, k2, k3⟩ := k.down c
      exact ih h _ _ _ k1 (by omega)
    · rw [if_neg c, if_neg c]
      by_cases c2 : box s i (j + 1) ≠ 0
      · rw [if_pos c2, if_pos c2]
        obtain ⟨k1, k2, k3⟩ := k.right c c2
        exact ih h _ _ _ k1 (by omega)
      · rw [if_neg c2, if_neg c2]

/-- The end box. -/
theorem Ends.corner {h : Nat → Nat} {s : List (List Int)} {i j : Nat} {s' : List (List Int)} {i' j' : Nat} (e : Ends h s i j s' i' j') : (row s' i').length = j' + 1 ∧ (row s' (i' + 1)).length ≤ j' := by
  obtain ⟨h1, h2, h3, h4⟩ := e.hol.at
  have := e.hol.lt
  refine ⟨Nat.le_antisymm (Nat.le_of_not_lt (fun c => h1.2 c e.no.1)) this, Nat.le_of_not_lt (fun c => h2.2 c e.no.2)⟩
theorem tk_sk {h : Nat → Nat} {s : List (List Int)} {i j : Nat} (k : Hol h s i j) (c1 : (row s i).length = j + 1) (c2 : (row s (i + 1)).length ≤ j) :
    Sk non h (tk s i) ∧ sword h (er s i j) = sword h (tk s i) ∧ ∀ a, row (tk s i) a = if a = i then (row s i).dropLast else row s a := by
  have hr := fun a => tk_row k.sk.shp k.row (by omega) a
  have hlen : ∀ a, (row (tk s i) a).length = if a = i then j else (row s a).length := fun a => by
    rw [hr]
    by_cases e : a = i
    · rw [if_pos e, if_pos e, List.length_dropLast, c1]; rfl
    · rw [if_neg e, if_neg e]
  have hbx : ∀ a b, b < (row (tk s i) a).length → box (tk s i) a b = box s a b := fun a b hb => by
    rw [hlen] at hb
    unfold box
    rw [hr]
    by_cases e : a = i
    · subst e; rw [if_pos rfl] at hb ⊢; rw [getD_drop, if_pos (by omega)]
    · rw [if_neg e]
  have hll : ∀ a, (row (tk s i) a).length ≤ (row s a).length := fun a => by
    rw [hlen]
    by_cases e : a = i
    · rw [if_pos e, e]; omega
    · rw [if_neg e]; exact Nat.le_refl _
  have hin : ∀ a b, b < (row (tk s i) a).length → ¬ one i j a b := fun a b hb q => by rw [hlen, if_pos q.1] at hb; have := q.2; omega
  have hle := k.le
  have hhl : ∀ a, h a ≤ (row (tk s i) a).length := fun a => by
    rw [hlen]
    by_cases e : a = i
    · rw [if_pos e, e]; exact hle
    · rw [if_neg e]; exact k.sk.hl a
  refine ⟨⟨?_, k.sk.hm, hhl, fun a b hb => ?_, fun a b p1 p2 _ => ?_, fun a b c p1 p2 p3 _ _ => ?_, fun a c b p1 p2 p3 _ _ => ?_⟩, ?_, hr⟩
  · refine ⟨fun a ha => ?_, fun a ha => ?_⟩
    · rw [hlen]
      unfold tk at ha
      by_cases q : (row s i).length ≤ 1
      · rw [if_pos q, List.length_take] at ha
        rw [if_neg (by omega)]; exact k.sk.shp.1 a (by omega)
      · rw [if_neg q, List.length_set] at ha
        by_cases e : a = i
        · rw [if_pos e]; omega
        · rw [if_neg e]; exact k.sk.shp.1 a ha
    · rw [hlen, hlen]
      have q := k.sk.shp.shorter' (a := a) (b := a + 1) (by omega)
      by_cases e : a = i
      · subst e; rw [if_pos rfl, if_neg (by omega)]; exact c2
      · rw [if_neg e]
        by_cases e2 : a + 1 = i
        · rw [if_pos e2]; rw [e2] at q; omega
        · rw [if_neg e2]; exact q
  · rw [hbx a b (by have := hhl a; omega)]; exact k.sk.zer a b hb
  · rw [hbx a b p2]; exact k.sk.pos a b p1 (by have := hll a; omega) (hin a b p2)
  · rw [hbx a b (by omega), hbx a c p3]; exact k.sk.along a b c p1 p2 (by have := hll a; omega) (hin a b (by omega)) (hin a c p3)
  · have q : b < (row (tk s i) a).length := by
      have z := k.sk.shp.shorter' (a := a) (b := c) (by omega)
      rw [hlen] at p3 ⊢
      by_cases e : a = i
      · subst e; rw [if_pos rfl]; rw [if_neg (by omega)] at p3
        have := k.sk.shp.shorter' (a := a + 1) (b := c) (by omega)
        omega
      · rw [if_neg e]
        by_cases e2 : c = i
        · subst e2; rw [if_pos rfl] at p3; omega
        · rw [if_neg e2] at p3; omega
    rw [hbx a b q, hbx c b p3]; exact k.sk.down a c b p1 p2 (by have := hll c; omega) (hin a b q) (hin c b p3)
  · have e1 : (row s i).eraseIdx j = (row s i).dropLast := by
      rw [erase_at _ j, List.drop_eq_nil_of_le (by omega), List.append_nil, List.dropLast_eq_take, c1]
      rfl
    unfold er tk
    rw [e1]
    by_cases q : (row s i).length ≤ 1
    · rw [if_pos q]
      have hj : j = 0 := by omega
      have hs : s.length = i + 1 := by
        refine Nat.le_antisymm (Nat.le_of_not_lt (fun c => ?_)) k.row
        have := k.sk.shp.1 (i + 1) c
        omega
      rw [sword1 h k.row]
      rw [List.drop_eq_nil_of_le (by omega)]
      have : (row s i).dropLast = [] := List.eq_nil_of_length_eq_zero (by rw [List.length_dropLast]; omega)
      rw [this]
      simp [sword]
    · rw [if_neg q]

end Go.Proofs.Ytpbkidgdpejenae
