/-
  Insertion by columns, told by the rows: plain facts.
-/
import Derived.Test.YtpbmcaoomcippadIMath
namespace Go.Proofs.Ytpbmcaoomcippad

theorem row_set (ls : List (List Int)) (i : Nat) (r : List Int) (a : Nat) : row (ls.set i r) a = if a = i ∧ i < ls.length then r else row ls a := by
  unfold row
  simp only [List.getD, List.getElem?_set]
  by_cases h : i = a
  · subst h
    by_cases hl : i < ls.length
    · simp [hl]
    · simp [hl]
  · rw [if_neg h, if_neg (fun e => h e.1.symm)]
theorem row_push (ls : List (List Int)) (r : List Int) (a : Nat) : row (ls ++ [r]) a = if a = ls.length then r else row ls a := by
  unfold row
  simp only [List.getD, List.getElem?_append]
  by_cases h : a < ls.length
  · rw [if_pos h, if_neg (by omega)]
  · rw [if_neg h]
    by_cases e : a = ls.length
    · subst e; simp
    · rw [if_neg e, List.getElem?_eq_none (by simp; omega), List.getElem?_eq_none (by omega)]

/-- A letter to the end of row i, which may be the one behind the last. -/
def lng (ls : List (List Int)) (i : Nat) (x : Int) : List (List Int) := if i = ls.length then ls ++ [[x]] else ls.set i (row ls i ++ [x])

theorem lng_row {ls : List (List Int)} {i : Nat} (hi : i ≤ ls.length) (x : Int) (a : Nat) : row (lng ls i x) a = if a = i then row ls i ++ [x] else row ls a := by
  unfold lng
  by_cases h : i = ls.length
  · rw [if_pos h, row_push]
    by_cases e : a = i
    · rw [if_pos (by omega), if_pos e, row_out (by omega)]; rfl
    · rw [if_neg (by omega), if_neg e]
  · rw [if_neg h, row_set]
    by_cases e : a = i
    · rw [if_pos ⟨e, by omega⟩, if_pos e]
    · rw [if_neg (fun h => e h.1), if_neg e]
theorem lng_length (ls : List (List Int)) (i : Nat) (x : Int) : (lng ls i x).length = if i = ls.length then ls.length + 1 else ls.length := by
  unfold lng; split <;> simp
theorem lng_shp {ls : List (List Int)} (h : Shp ls) {i : Nat} (hi : i ≤ ls.length) (x : Int) (hc : 0 < i → (row ls i).length < (row ls (i - 1)).length) : Shp (lng ls i x) := by
  refine ⟨fun a ha => ?_, fun a ha => ?_⟩
  · rw [lng_row hi]
    by_cases e : a = i
    · rw [if_pos e]; simp
    · rw [if_neg e]
      rw [lng_length] at ha
      exact h.one a (by split at ha <;> omega)
  · rw [lng_row hi, lng_row hi]
    by_cases e : a + 1 = i
    · rw [if_pos e, if_neg (by omega)]
      have := hc (by omega)
      rw [show i - 1 = a by omega] at this
      simp; omega
    · rw [if_neg e]
      have := h.shorter' (a := a) (b := a + 1) (by omega)
      by_cases e2 : a = i
      · subst e2; rw [if_pos rfl]; simp; omega
      · rw [if_neg e2]; exact this
theorem g2_set {ls : List (List Int)} {i : Nat} (hi : i < ls.length) (r : List Int) (a c : Nat) : g2 (ls.set i r) a c = if a = i then r[c]? else g2 ls a c := by
  unfold g2
  rw [row_set]
  by_cases e : a = i
  · rw [if_pos ⟨e, hi⟩, if_pos e]
  · rw [if_neg (fun h => e h.1), if_neg e]
theorem lng_g2 {ls : List (List Int)} {i j : Nat} (hi : i ≤ ls.length) (x : Int) (hj : (row ls i).length = j) (a c : Nat) : g2 (lng ls i x) a c = if a = i ∧ c = j then some x else g2 ls a c := by
  unfold g2
  rw [lng_row hi]
  by_cases e : a = i
  · subst e
    rw [if_pos rfl, List.getElem?_append]
    by_cases h : c < (row ls a).length
    · rw [if_pos h, if_neg (by omega)]
    · rw [if_neg h]
      by_cases h2 : c = j
      · rw [if_pos ⟨rfl, h2⟩, show c - (row ls a).length = 0 by omega]; rfl
      · rw [if_neg (fun k => h2 k.2), List.getElem?_eq_none (by simp; omega), List.getElem?_eq_none (by omega)]
  · rw [if_neg e, if_neg (fun k => e k.1)]

theorem set_shp {ls : List (List Int)} (h : Shp ls) {i j : Nat} (x : Int) : Shp (ls.set i ((row ls i).set j x)) := by
  have e : ∀ a, (row (ls.set i ((row ls i).set j x)) a).length = (row ls a).length := fun a => by
    rw [row_set]
    by_cases k : a = i ∧ i < ls.length
    · rw [if_pos k, k.1]; simp
    · rw [if_neg k]
  exact ⟨fun a ha => by rw [e]; exact h.one a (by simpa using ha), fun a ha => by rw [e, e]; exact h.fall a (by simpa using ha)⟩

theorem box_g2 {ls : List (List Int)} {a c : Nat} (h : c < (row ls a).length) : g2 ls a c = some (box ls a c) := by
  unfold g2 box; rw [List.getElem?_eq_getElem h]; simp [List.getD, List.getElem?_eq_getElem h]
theorem g2_box {ls : List (List Int)} {a c : Nat} : box ls a c = (g2 ls a c).getD 0 := by unfold g2 box; rfl
theorem g2_len {ls ms : List (List Int)} {a : Nat} (h : ∀ c, (g2 ls a c).isSome = (g2 ms a c).isSome) : (row ls a).length = (row ms a).length := by
  have k : ∀ {A B : List (List Int)}, (∀ c, (g2 A a c).isSome = (g2 B a c).isSome) → (row A a).length ≤ (row B a).length := fun {A B} h => by
    refine Nat.le_of_not_lt (fun hl => ?_)
    have := h (row B a).length
    rw [box_g2 hl] at this
    unfold g2 at this
    rw [List.getElem?_eq_none (Nat.le_refl _)] at this
    cases this
  exact Nat.le_antisymm (k h) (k (fun c => (h c).symm))

theorem cols_bump {ls : List (List Int)} (h : Shp ls) {i j : Nat} (x : Int) (hj : j < (row ls i).length) : cols (ls.set i ((row ls i).set j x)) = (cols ls).set j ((colOf ls j).set i x) := by
  have hi : i < ls.length := by
    refine Nat.lt_of_not_le (fun k => ?_)
    rw [row_out k] at hj; simp at hj
  have hjw : j < width ls := by have := h.shorter' (a := 0) (b := i) (by omega); unfold width; omega
  refine (cols_of (set_shp h x) (fun a ha => ?_) (fun a c => ?_)).symm
  · rw [List.length_set, cols_length] at ha
    rw [row_set]
    by_cases e : a = j ∧ j < (cols ls).length
    · rw [if_pos e, List.length_set]; exact (col_len h).2 (by rw [← e.1]; exact ha)
    · rw [if_neg e]; exact (cols_shp h).one a (by rw [cols_length]; exact ha)
  · rw [g2_set hi, g2_set (by rw [cols_length]; exact hjw), cols_g2 h]
    by_cases e : a = i
    · subst e
      rw [if_pos rfl, List.getElem?_set]
      by_cases e2 : j = c
      · subst e2
        rw [if_pos rfl, if_pos hj, if_pos rfl, List.getElem?_set, if_pos rfl, if_pos ((col_len h).2 hj)]
      · rw [if_neg e2, if_neg (fun k => e2 k.symm)]; rfl
    · rw [if_neg e]
      by_cases e2 : c = j
      · subst e2
        rw [if_pos rfl, List.getElem?_set, if_neg (fun k => e k.symm), colOf_g2 h]
      · rw [if_neg e2]

theorem cols_grow {ls : List (List Int)} (h : Shp ls) {i j : Nat} (x : Int) (hi : i ≤ ls.length) (hj : (row ls i).length = j) (hc : 0 < i → j < (row ls (i - 1)).length) : Shp (lng ls i x) ∧ cols (lng ls i x) = lng (cols ls) j x := by
  have hs : Shp (lng ls i x) := lng_shp h hi x (fun k => by rw [hj]; exact hc k)
  have hjw : j ≤ (cols ls).length := by rw [cols_length]; have := h.shorter' (a := 0) (b := i) (by omega); unfold width; omega
  have hlc : (row (cols ls) j).length = i := by
    by_cases e : j < width ls
    · rw [cols_row e]
      have h1 : ¬ i < (colOf ls j).length := fun k => by have := (col_len h).1 k; omega
      by_cases h0 : 0 < i
      · have := (col_len h).2 (hc h0); omega
      · have := (col_len h).2 (show j < (row ls 0).length from e)
        omega
    · rw [row_out (by rw [cols_length]; omega)]
      by_cases h0 : 0 < i
      · have := hc h0
        have := h.shorter' (a := 0) (b := i - 1) (by omega)
        unfold width at e; omega
      · simp; omega
  refine ⟨hs, ((cols_of hs (fun a ha => ?_) (fun a c => ?_))).symm⟩
  · rw [lng_row hjw]
    by_cases e : a = j
    · rw [if_pos e]; simp
    · rw [if_neg e]
      rw [lng_length] at ha
      exact (cols_shp h).one a (by split at ha <;> omega)
  · rw [lng_g2 hi x hj, lng_g2 hjw x hlc, cols_g2 h]
    by_cases e : a = i ∧ c = j
    · rw [if_pos e, if_pos ⟨e.2, e.1⟩]
    · rw [if_neg e, if_neg (fun k => e ⟨k.2, k.1⟩)]

/-- Where the loop over the columns stands: at column j, with x. -/
structure ColAt (ls : List (List Int)) (x0 : Int) (ms : List (List Int)) (x : Int) (j : Nat) : Prop where
  shp : Shp ms
  len : ms.length = ls.length
  lens : ∀ a, (row ms a).length = (row ls a).length
  wide : j ≤ width ls
  rest : ∀ a c, j ≤ c → g2 ms a c = g2 ls a c
  low : 0 < j → ∃ a, j - 1 < (row ms a).length ∧ (j < (row ms a).length → x ≤ box ms a j)
  to : ins true x0 (cols ls) = (cols ms).take j ++ ins true x ((cols ms).drop j)
  at_ : insAt true x0 (cols ls) = insAt true x ((cols ms).drop j) + j

theorem ColAt.start {ls : List (List Int)} (h : IsTab ls) (x : Int) : ColAt ls x ls x 0 :=
  ⟨h.shp, rfl, fun _ => rfl, Nat.zero_le _, fun _ _ _ => rfl, fun k => absurd k (by omega), by simp, by simp⟩

theorem ColAt.next {ls ms : List (List Int)} {x0 x : Int} {i j : Nat} (h : ColAt ls x0 ms x j) (ht : IsTab ls) (hj : j < (row ms i).length) (hp : ∀ a, a < i → box ms a j < x) (hx : ¬ box ms i j < x) :
    ColAt ls x0 (ms.set i ((row ms i).set j x)) (box ms i j) (j + 1) := by
  have hi : i < ms.length := by
    refine Nat.lt_of_not_le (fun k => ?_)
    rw [row_out k] at hj; simp at hj
  have hl : ∀ a, (row (ms.set i ((row ms i).set j x)) a).length = (row ms a).length := fun a => by
    rw [row_set]
    by_cases k : a = i ∧ i < ms.length
    · rw [if_pos k, k.1]; simp
    · rw [if_neg k]
  have hw : j < width ls := by unfold width; rw [← h.lens]; have := h.shp.shorter' (a := 0) (b := i) (by omega); omega
  have hwm : j < width ms := by unfold width; rw [h.lens]; exact hw
  have hcol : ∀ a, a < (colOf ms j).length → (colOf ms j).getD a 0 = box ms a j := fun a ha => by
    have e := colOf_g2 h.shp j a
    rw [box_g2 ((col_len h.shp).1 ha)] at e
    simp only [List.getD, e]; rfl
  have hil : i < (colOf ms j).length := (col_len h.shp).2 hj
  have hsp : spot true x (row (cols ms) j) = i := by
    rw [cols_row hwm]
    refine spot_is (by omega) (fun a ha => ?_) (Or.inr ?_)
    · rw [hcol a (by omega)]; simp [passes, hp a ha]
    · rw [hcol i hil]; simp [passes]; omega
  have hjl : j < (cols ms).length := by rw [cols_length]; exact hwm
  have hon := ins_on hjl hsp (by rw [cols_row hwm]; exact hil)
  have hb : box (cols ms) j i = box ms i j := by unfold box; rw [cols_row hwm, hcol i hil]; rfl
  rw [cols_row hwm] at hon
  rw [hb, ← cols_bump h.shp x hj] at hon
  refine ⟨set_shp h.shp x, by rw [List.length_set]; exact h.len, fun a => by rw [hl, h.lens], hw, fun a c hc => ?_, fun _ => ⟨i, by rw [hl]; omega, fun h2 => ?_⟩, h.to.trans hon.1, ?_⟩
  · rw [g2_set hi, ← h.rest a c (by omega)]
    by_cases e : a = i
    · subst e; rw [if_pos rfl, List.getElem?_set, if_neg (by omega)]; rfl
    · rw [if_neg e]
  · rw [hl] at h2
    have e : box (ms.set i ((row ms i).set j x)) i (j + 1) = box ls i (j + 1) := by
      rw [g2_box, g2_set hi, if_pos rfl, List.getElem?_set, if_neg (by omega), g2_box, ← h.rest i (j + 1) (by omega)]; rfl
    rw [e]
    have e2 : box ms i j = box ls i j := by rw [g2_box, g2_box, h.rest i j (by omega)]
    rw [e2]
    exact ht.along (by omega) (by rw [← h.len]; exact hi) (by rw [← h.lens]; exact h2)
  · rw [h.at_, hon.2]; omega

theorem ColAt.stop {ls ms : List (List Int)} {x0 x : Int} {i j : Nat} (h : ColAt ls x0 ms x j) (hi : i ≤ ms.length) (hj : ¬ j < (row ms i).length) (hp : ∀ a, a < i → j < (row ms a).length ∧ box ms a j < x) :
    Shp (lng ms i x) ∧ cols (lng ms i x) = ins true x0 (cols ls) ∧ insAt true x0 (cols ls) = j := by
  have hjr : (row ms i).length = j := by
    rcases Nat.eq_zero_or_pos j with h0 | h0
    · omega
    · obtain ⟨a, h1, h2⟩ := h.low h0
      have hia : i ≤ a := Nat.le_of_not_lt (fun k => by have := hp a k; have := h2 this.1; omega)
      have := h.shp.shorter' hia
      omega
  obtain ⟨h1, h2⟩ := cols_grow h.shp x hi hjr (fun k => (hp (i - 1) (by omega)).1)
  refine ⟨h1, ?_⟩
  rw [h2, h.to, h.at_]
  unfold lng
  have hwm : width ms = width ls := h.lens 0
  by_cases e : j = (cols ms).length
  · rw [if_pos e, e]
    have := ins_over (s := true) (x := x) (ls := cols ms)
    rw [this.1, this.2]; exact ⟨rfl, by omega⟩
  · have hjl : j < (cols ms).length := by rw [cols_length] at e ⊢; have := h.wide; omega
    rw [if_neg e]
    have hjw : j < width ms := by rw [cols_length] at hjl; exact hjl
    have hcl : (colOf ms j).length = i := by
      have h3 : ¬ i < (colOf ms j).length := fun k => hj ((col_len h.shp).1 k)
      by_cases h0 : 0 < i
      · have := (col_len h.shp).2 (hp (i - 1) (by omega)).1; omega
      · have h4 := (col_len h.shp).2 (show j < (row ms 0).length from hjw); omega
    have hsp : spot true x (row (cols ms) j) = (row (cols ms) j).length := by
      rw [cols_row hjw]
      refine spot_is (Nat.le_refl _) (fun a ha => ?_) (Or.inl rfl)
      have e := colOf_g2 h.shp j a
      rw [box_g2 ((col_len h.shp).1 ha)] at e
      have e2 : (colOf ms j).getD a 0 = box ms a j := by simp only [List.getD, e]; rfl
      rw [e2]; simp [passes, (hp a (by omega)).2]
    have := ins_end hjl hsp
    rw [this.1, this.2]; exact ⟨rfl, by omega⟩

end Go.Proofs.Ytpbmcaoomcippad
