/-
  Insertion by rows and by columns, shapes, columns: plain facts.
-/
import Derived.Test.YtpbmcaoomcippadLMathB
namespace Go.Proofs.Ytpbmcaoomcippad

/-- Whether a letter z is passed by x: at most x, or (by columns) below x. -/
def passes (s : Bool) (x z : Int) : Bool := if s then decide (z < x) else decide (z ≤ x)
/-- The first place whose letter is not passed. -/
def spot (s : Bool) (x : Int) : List Int → Nat
  | [] => 0
  | z :: l => if passes s x z = true then spot s x l + 1 else 0
def ins (s : Bool) (x : Int) : List (List Int) → List (List Int)
  | [] => [[x]]
  | r :: t => if spot s x r = r.length then (r ++ [x]) :: t else r.set (spot s x r) x :: ins s (r.getD (spot s x r) 0) t
def insAt (s : Bool) (x : Int) : List (List Int) → Nat
  | [] => 0
  | r :: t => if spot s x r = r.length then 0 else insAt s (r.getD (spot s x r) 0) t + 1

theorem passes_le' {x z : Int} (h : z ≤ x) : passes false x z = true := by simp [passes, h]
theorem passes_no' {x z : Int} (h : x < z) : passes false x z = false := by simp [passes]; omega

theorem spot_le (s : Bool) (x : Int) (r : List Int) : spot s x r ≤ r.length := by
  induction r with
  | nil => simp [spot]
  | cons z r ih => simp only [spot]; split <;> simp <;> omega
theorem spot_pass (s : Bool) (x : Int) (r : List Int) : ∀ k, k < spot s x r → passes s x (r.getD k 0) = true := by
  induction r with
  | nil => intro k h; simp [spot] at h
  | cons z r ih =>
    intro k h
    simp only [spot] at h
    split at h
    · rename_i hz
      cases k with
      | zero => simpa using hz
      | succ k => simpa using ih k (by omega)
    · omega
theorem spot_stop (s : Bool) (x : Int) (r : List Int) (h : spot s x r < r.length) : passes s x (r.getD (spot s x r) 0) = false := by
  induction r with
  | nil => simp [spot] at h
  | cons z r ih =>
    simp only [spot] at h ⊢
    by_cases hz : passes s x z = true
    · rw [if_pos hz] at h ⊢
      simpa using ih (by simp at h; omega)
    · rw [if_neg hz]; simpa using hz
/-- How a loop finds it. -/
theorem spot_is {s : Bool} {x : Int} {r : List Int} {k : Nat} (hk : k ≤ r.length) (h : ∀ j, j < k → passes s x (r.getD j 0) = true) (he : k = r.length ∨ passes s x (r.getD k 0) = false) : spot s x r = k := by
  have h1 := spot_le s x r
  have h2 := spot_pass s x r
  have h3 := spot_stop s x r
  rcases Nat.lt_trichotomy (spot s x r) k with hlt | heq | hgt
  · have := h _ hlt
    rw [h3 (by omega)] at this; cases this
  · exact heq
  · rcases he with he | he
    · omega
    · rw [h2 k hgt] at he; cases he

/-- What is still to be done: rows from i on. -/
theorem ins_end {s : Bool} {x : Int} {ls : List (List Int)} {i : Nat} (hi : i < ls.length) (h : spot s x (row ls i) = (row ls i).length) : ls.take i ++ ins s x (ls.drop i) = ls.set i (row ls i ++ [x]) ∧ insAt s x (ls.drop i) = 0 := by
  have e : ls.drop i = row ls i :: ls.drop (i + 1) := by rw [List.drop_eq_getElem_cons hi]; simp [row, List.getD, List.getElem?_eq_getElem hi]
  rw [e]
  simp only [ins, insAt, if_pos h]
  refine ⟨?_, trivial⟩
  rw [List.set_eq_take_append_cons_drop, if_pos hi]
theorem ins_over {s : Bool} {x : Int} {ls : List (List Int)} : ls.take ls.length ++ ins s x (ls.drop ls.length) = ls ++ [[x]] ∧ insAt s x (ls.drop ls.length) = 0 := by
  simp [ins, insAt]
theorem ins_on {s : Bool} {x : Int} {ls : List (List Int)} {i : Nat} (hi : i < ls.length) {k : Nat} (hk : spot s x (row ls i) = k) (h : k < (row ls i).length) :
    ls.take i ++ ins s x (ls.drop i) = (ls.set i ((row ls i).set k x)).take (i + 1) ++ ins s (box ls i k) ((ls.set i ((row ls i).set k x)).drop (i + 1)) ∧ insAt s x (ls.drop i) = insAt s (box ls i k) ((ls.set i ((row ls i).set k x)).drop (i + 1)) + 1 := by
  have e : ls.drop i = row ls i :: ls.drop (i + 1) := by rw [List.drop_eq_getElem_cons hi]; simp [row, List.getD, List.getElem?_eq_getElem hi]
  have e2 : (ls.set i ((row ls i).set k x)).drop (i + 1) = ls.drop (i + 1) := by rw [List.drop_set_of_lt (by omega)]
  have e3 : (ls.set i ((row ls i).set k x)).take (i + 1) = ls.take i ++ [(row ls i).set k x] := by
    rw [List.set_eq_take_append_cons_drop, if_pos hi, List.take_append]
    simp [List.length_take, Nat.min_eq_left (Nat.le_of_lt hi)]
    rw [List.take_of_length_le (by simp; omega)]
  rw [e, e2, e3]
  simp only [ins, insAt]
  rw [if_neg (by omega), if_neg (by omega), hk]
  exact ⟨by simp [box], rfl⟩

theorem ins_mem {s : Bool} {z : Int} : ∀ {ls : List (List Int)} {x : Int}, z ∈ (ins s x ls).flatten → z = x ∨ z ∈ ls.flatten := by
  intro ls
  induction ls with
  | nil => intro x h; simp [ins] at h; exact Or.inl h
  | cons r t ih =>
    intro x h
    simp only [ins] at h
    split at h
    · simp at h ⊢
      rcases h with h | h | h
      · exact Or.inr (Or.inl h)
      · exact Or.inl h
      · exact Or.inr (Or.inr h)
    · rename_i hs
      have hlt : spot s x r < r.length := by have := spot_le s x r; omega
      rw [List.flatten_cons, List.mem_append] at h
      rw [List.flatten_cons, List.mem_append]
      rcases h with h | h
      · rcases List.mem_or_eq_of_mem_set h with h | h
        · exact Or.inr (Or.inl h)
        · exact Or.inl h
      · rcases ih h with h | h
        · right; left; rw [h]; simp [List.getD, List.getElem?_eq_getElem hlt]
        · exact Or.inr (Or.inr h)
theorem ins_count {s : Bool} : ∀ {ls : List (List Int)} {x : Int}, (ins s x ls).flatten.length = ls.flatten.length + 1 := by
  intro ls
  induction ls with
  | nil => intro x; simp [ins]
  | cons r t ih =>
    intro x
    simp only [ins]
    split
    · simp; omega
    · rw [List.flatten_cons, List.length_append, ih, List.flatten_cons, List.length_append]; simp; omega
theorem ins_pos {s : Bool} : ∀ {ls : List (List Int)} {x : Int}, (∀ r ∈ ls, 0 < r.length) → ∀ r ∈ ins s x ls, 0 < r.length := by
  intro ls
  induction ls with
  | nil => intro x _ r hr; simp [ins] at hr; subst hr; simp
  | cons r t ih =>
    intro x h q hq
    simp only [ins] at hq
    split at hq
    · rcases List.mem_cons.1 hq with e | e
      · subst e; simp
      · exact h q (by simp [e])
    · rcases List.mem_cons.1 hq with e | e
      · subst e; have := h r (by simp); simpa using this
      · exact ih (fun r hr => h r (by simp [hr])) q e
theorem insAt_le {s : Bool} : ∀ {ls : List (List Int)} {x : Int}, insAt s x ls ≤ ls.length := by
  intro ls
  induction ls with
  | nil => intro x; simp [insAt]
  | cons r t ih =>
    intro x
    simp only [insAt]
    split
    · omega
    · have := @ih (r.getD (spot s x r) 0); rw [List.length_cons]; omega

/-- Rows that are no longer than the one above, none empty. -/
structure Shp (ls : List (List Int)) : Prop where
  one : ∀ a, a < ls.length → 0 < (row ls a).length
  fall : ∀ a, a + 1 < ls.length → (row ls (a + 1)).length ≤ (row ls a).length

theorem IsTab.shp {ls : List (List Int)} (h : IsTab ls) : Shp ls := ⟨fun a ha => (h.ok a ha).one, fun a ha => h.shorter (by omega) ha⟩
theorem Shp.shorter {ls : List (List Int)} (h : Shp ls) {a b : Nat} (hab : a ≤ b) (hb : b < ls.length) : (row ls b).length ≤ (row ls a).length := by
  induction b with
  | zero => obtain rfl : a = 0 := by omega
            exact Nat.le_refl _
  | succ b ih =>
    by_cases e : a = b + 1
    · subst e; exact Nat.le_refl _
    · have := ih (by omega) (by omega)
      have := h.fall b hb
      omega
theorem Shp.shorter' {ls : List (List Int)} (h : Shp ls) {a b : Nat} (hab : a ≤ b) : (row ls b).length ≤ (row ls a).length := by
  by_cases hb : b < ls.length
  · exact h.shorter hab hb
  · rw [row_out (by omega)]; simp

/-- The letter at row a, column c. -/
def g2 (ls : List (List Int)) (a c : Nat) : Option Int := (row ls a)[c]?

theorem ext_g2 {ls ms : List (List Int)} (h1 : ∀ a, a < ls.length → 0 < (row ls a).length) (h2 : ∀ a, a < ms.length → 0 < (row ms a).length) (h : ∀ a c, g2 ls a c = g2 ms a c) : ls = ms := by
  have hrow : ∀ a, row ls a = row ms a := fun a => List.ext_getElem? (fun c => h a c)
  have key : ∀ {A B : List (List Int)}, (∀ a, a < A.length → 0 < (row A a).length) → (∀ a, row A a = row B a) → A.length ≤ B.length := fun {A B} hA hr => by
    rcases Nat.eq_zero_or_pos A.length with h0 | h0
    · omega
    · by_cases hlt : A.length ≤ B.length
      · exact hlt
      · have h1 := hA (A.length - 1) (by omega)
        rw [hr, row_out (by omega)] at h1
        simp at h1
  exact ext_row (Nat.le_antisymm (key h1 hrow) (key h2 (fun a => (hrow a).symm))) (fun a _ => hrow a)

theorem colOf_sh {ls : List (List Int)} (h : Shp ls) (c : Nat) : ∀ k, k ≤ ls.length → ∀ a, (colOf (ls.take k) c)[a]? = if a < k then (row ls a)[c]? else none := by
  intro k
  induction k with
  | zero => intro _ a; rw [colOf_zero]; simp
  | succ k ih =>
    intro hk a
    have ih := ih (by omega)
    rw [colOf_take (by omega)]
    by_cases hc : c < (row ls k).length
    · rw [if_pos hc]
      have hlen : (colOf (ls.take k) c).length = k := by
        have h1 := colOf_le (ls.take k) c
        rw [List.length_take] at h1
        rcases Nat.eq_zero_or_pos k with h0 | h0
        · omega
        · have h2 := ih (k - 1)
          rw [if_pos (by omega)] at h2
          have h3 : c < (row ls (k - 1)).length := by have := h.shorter (a := k - 1) (b := k) (by omega) (by omega); omega
          rw [List.getElem?_eq_getElem h3] at h2
          have := (List.getElem?_eq_some_iff.1 h2).1
          omega
      rw [List.getElem?_append]
      by_cases h1 : a < k
      · rw [if_pos (by omega), ih a, if_pos h1, if_pos (by omega)]
      · rw [if_neg (by omega), hlen]
        by_cases h2 : a = k
        · subst h2
          rw [if_pos (by omega), Nat.sub_self, List.getElem?_eq_getElem hc]
          simp [box, List.getD, List.getElem?_eq_getElem hc]
        · rw [if_neg (by omega), List.getElem?_eq_none (by simp; omega)]
    · rw [if_neg hc, List.append_nil, ih a]
      by_cases h1 : a < k
      · rw [if_pos h1, if_pos (by omega)]
      · rw [if_neg h1]
        by_cases h2 : a = k
        · subst h2; rw [if_pos (by omega), List.getElem?_eq_none (by omega)]
        · rw [if_neg (by omega)]
theorem colOf_g2 {ls : List (List Int)} (h : Shp ls) (c a : Nat) : (colOf ls c)[a]? = g2 ls a c := by
  have := colOf_sh h c ls.length (Nat.le_refl _) a
  rw [List.take_length] at this
  rw [this]; unfold g2
  by_cases ha : a < ls.length
  · rw [if_pos ha]
  · rw [if_neg ha, row_out (by omega)]; simp
theorem colOf_stop {ls : List (List Int)} (h : Shp ls) {k c : Nat} (hk : k < ls.length) (hc : (row ls k).length ≤ c) : colOf (ls.take k) c = colOf ls c := by
  refine List.ext_getElem? (fun a => ?_)
  rw [colOf_sh h c k (by omega), colOf_g2 h]
  by_cases ha : a < k
  · rw [if_pos ha]; rfl
  · rw [if_neg ha, g2, List.getElem?_eq_none]
    by_cases hb : a < ls.length
    · have := h.shorter (a := k) (b := a) (by omega) hb; omega
    · rw [row_out (by omega)]; simp
theorem cols_g2 {ls : List (List Int)} (h : Shp ls) (c a : Nat) : g2 (cols ls) c a = g2 ls a c := by
  by_cases hc : c < width ls
  · rw [g2, cols_row hc, colOf_g2 h]
  · rw [g2, row_out (by rw [cols_length]; omega), g2, List.getElem?_eq_none (l := row ls a)]
    · simp
    · have := h.shorter' (a := 0) (b := a) (by omega); unfold width at hc; omega
theorem col_len {ls : List (List Int)} (h : Shp ls) {c a : Nat} : a < (colOf ls c).length ↔ c < (row ls a).length := by
  have e := colOf_g2 h c a
  unfold g2 at e
  constructor
  · intro hl
    rw [List.getElem?_eq_getElem hl] at e
    exact (List.getElem?_eq_some_iff.1 e.symm).1
  · intro hl
    rw [List.getElem?_eq_getElem hl] at e
    exact (List.getElem?_eq_some_iff.1 e).1
theorem cols_shp {ls : List (List Int)} (h : Shp ls) : Shp (cols ls) := by
  refine ⟨fun c hc => ?_, fun c hc => ?_⟩
  · rw [cols_length] at hc
    rw [cols_row hc]
    exact (col_len h).2 hc
  · rw [cols_length] at hc
    rw [cols_row hc, cols_row (by omega)]
    refine Nat.le_of_not_lt (fun hl => ?_)
    have h1 := (col_len h).1 hl
    have h2 : c < (row ls (colOf ls c).length).length := by omega
    have := (col_len h).2 h2
    omega
theorem cols_back {ls : List (List Int)} (h : Shp ls) : cols (cols ls) = ls :=
  ext_g2 (cols_shp (cols_shp h)).one h.one (fun a c => by rw [cols_g2 (cols_shp h), cols_g2 h])
theorem cols_of {ls ms : List (List Int)} (h : Shp ls) (hm : ∀ a, a < ms.length → 0 < (row ms a).length) (e : ∀ a c, g2 ls a c = g2 ms c a) : ms = cols ls :=
  ext_g2 hm (cols_shp h).one (fun a c => by rw [cols_g2 h, e])

end Go.Proofs.Ytpbmcaoomcippad
