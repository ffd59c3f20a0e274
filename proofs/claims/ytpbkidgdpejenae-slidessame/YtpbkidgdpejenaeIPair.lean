/-
  Pairs put in and taken out again: KNUTH'S there and back: plain facts.
-/
import Derived.Test.YtpbkidgdpejenaeIUn
namespace Go.Proofs.Ytpbkidgdpejenae

/-- The uppermost row at whose end the greatest letter stands. -/
structure IsTop (q : List (List Int)) (i : Nat) : Prop where
  lt : i < q.length
  most : ∀ a, a < q.length → lastOf (row q a) ≤ lastOf (row q i)
  first : ∀ a, a < i → lastOf (row q a) < lastOf (row q i)
theorem IsTop.uniq {q : List (List Int)} {i j : Nat} (h : IsTop q i) (h' : IsTop q j) : i = j := by
  rcases Nat.lt_trichotomy i j with c | c | c
  · have := h'.first i c; have := h.most j h'.lt; omega
  · exact c
  · have := h.first j c; have := h'.most i h.lt; omega
def top : List (List Int) → Nat
  | [] => 0
  | r :: t => if t = [] then 0 else if lastOf (row t (top t)) ≤ lastOf r then 0 else top t + 1
theorem top_is : ∀ {q : List (List Int)}, 0 < q.length → IsTop q (top q) := by
  intro q
  induction q with
  | nil => intro h; simp at h
  | cons r t ih =>
    intro _
    simp only [top]
    by_cases e : t = []
    · rw [if_pos e]; subst e
      exact ⟨by simp, fun a ha => by simp at ha; subst ha; exact Int.le_refl _, fun a ha => by omega⟩
    · rw [if_neg e]
      have ih := ih (List.length_pos_iff.2 e)
      by_cases h : lastOf (row t (top t)) ≤ lastOf r
      · rw [if_pos h]
        refine ⟨by simp, fun a ha => ?_, fun a ha => by omega⟩
        cases a with
        | zero => exact Int.le_refl _
        | succ a => exact Int.le_trans (ih.most a (by simpa using ha)) h
      · rw [if_neg h]
        have e2 : row (r :: t) (top t + 1) = row t (top t) := rfl
        refine ⟨by have := ih.lt; simpa using this, fun a ha => ?_, fun a ha => ?_⟩
        · rw [e2]
          cases a with
          | zero => exact Int.le_of_lt (Int.not_le.1 h)
          | succ a => exact ih.most a (by simpa using ha)
        · rw [e2]
          cases a with
          | zero => exact Int.not_le.1 h
          | succ a => exact ih.first a (by omega)

/-- One pair more. -/
def put1 (s : List (List Int) × List (List Int)) (c : Int × Int) : List (List Int) × List (List Int) := (ins false c.2 s.1, lng s.2 (insAt false c.2 s.1) c.1)
def mk (l : List (Int × Int)) : List (List Int) × List (List Int) := l.foldl put1 ([], [])
theorem mk_snoc (l : List (Int × Int)) (c : Int × Int) : mk (l ++ [c]) = put1 (mk l) c := by simp [mk]
def undo : Nat → List (List Int) → List (List Int) → List (Int × Int)
  | 0, _, _ => []
  | n + 1, p, q => undo n (un (top q) p).2 (tk q (top q)) ++ [(lastOf (row q (top q)), (un (top q) p).1)]
theorem undo_length : ∀ (n : Nat) (p q : List (List Int)), (undo n p q).length = n := by
  intro n
  induction n with
  | zero => intro p q; rfl
  | succ n ih => intro p q; simp [undo, ih]

/-- In order, by A, then by B. -/
def Ord2 (c d : Int × Int) : Prop := c.1 < d.1 ∨ c.1 = d.1 ∧ c.2 ≤ d.2

-- Tableaux row by row, and by their rows.
theorem T_row : ∀ {ls : List (List Int)}, T ls ↔ ∀ i, i < ls.length → 0 < (row ls i).length ∧ Srt (row ls i) ∧ Dn (row ls i) (row ls (i + 1)) := by
  intro ls
  induction ls with
  | nil => simp [T]
  | cons r t ih =>
    have e0 : row (r :: t) (0 + 1) = t.headD [] := by cases t <;> rfl
    constructor
    · rintro ⟨h1, h2, h3, h4⟩ i hi
      cases i with
      | zero => rw [e0]; exact ⟨h1, h2, h3⟩
      | succ i => exact ih.1 h4 i (by simpa using hi)
    · intro h
      obtain ⟨h1, h2, h3⟩ := h 0 (by simp)
      rw [e0] at h3
      exact ⟨h1, h2, h3, ih.2 (fun i hi => h (i + 1) (by simpa using hi))⟩
theorem T.shp {ls : List (List Int)} (h : T ls) : Shp ls := ⟨fun a ha => (T_row.1 h a ha).1, fun a ha => (T_row.1 h a (by omega)).2.2.1⟩
theorem IsTab.T {ls : List (List Int)} (h : IsTab ls) : T ls := by
  refine T_row.2 (fun i hi => ⟨(h.ok i hi).one, fun j hj => (h.ok i hi).rise j hj, ?_⟩)
  by_cases hn : i + 1 < ls.length
  · exact ⟨h.shorter (by omega) hn, fun j hj => h.column (by omega) hn hj⟩
  · rw [row_out (a := i + 1) (by omega)]; exact dn_nil _
theorem T.isTab {ls : List (List Int)} (h : T ls) (hf : ls.flatten.length ≤ 40) (hl : ∀ z ∈ ls.flatten, 1 ≤ z ∧ z ≤ 99) : IsTab ls := by
  refine ⟨hf, fun i hi => ⟨(T_row.1 h i hi).1, fun h0 => ?_, fun j hj => hl _ (box_mem hi hj), fun j hj => (T_row.1 h i hi).2.1 j hj, fun h0 j hj => ?_⟩⟩
  · obtain ⟨k, rfl⟩ : ∃ k, i = k + 1 := ⟨i - 1, by omega⟩
    rw [upOf_succ]; exact (T_row.1 h k (by omega)).2.2.1
  · obtain ⟨k, rfl⟩ : ∃ k, i = k + 1 := ⟨i - 1, by omega⟩
    rw [upOf_succ]; exact (T_row.1 h k (by omega)).2.2.2 j hj

theorem corner_top {q : List (List Int)} (h : T q) (h0 : 0 < q.length) : (row q (top q + 1)).length < (row q (top q)).length := by
  have hq := top_is h0
  refine Nat.lt_of_not_le (fun hle => ?_)
  have t1 := (T_row.1 h (top q) hq.lt)
  have t2 : top q + 1 < q.length := Nat.lt_of_not_le (fun hh => by rw [row_out (a := top q + 1) hh] at hle; have := t1.1; rw [List.length_nil] at hle; omega)
  have t3 := t1.2.2.1
  have t4 := t1.2.2.2 ((row q (top q)).length - 1) (by have := t1.1; omega)
  have t5 := hq.most _ t2
  have t6 : (row q (top q + 1)).length = (row q (top q)).length := by omega
  unfold lastOf at t5
  rw [t6] at t5
  omega

/-- Where a box comes the row is shorter than the one above. -/
theorem at_corner : ∀ {ls : List (List Int)} {x : Int}, T ls → (∀ i, (row (ins false x ls) i).length = (row ls i).length + if i = insAt false x ls then 1 else 0) := by
  intro ls
  induction ls with
  | nil =>
    intro x _ i
    cases i with
    | zero => simp [ins, insAt, row]
    | succ i => simp [ins, insAt, row]
  | cons r t ih =>
    intro x hT i
    obtain ⟨h1, h2, h3, h4⟩ := hT
    by_cases e : spot false x r = r.length
    · have e1 : ins false x (r :: t) = (r ++ [x]) :: t := by simp only [ins]; rw [if_pos e]
      have e2 : insAt false x (r :: t) = 0 := by simp only [insAt]; rw [if_pos e]
      rw [e1, e2]
      cases i with
      | zero => simp [row]
      | succ i => simp [row]
    · have e1 : ins false x (r :: t) = r.set (spot false x r) x :: ins false (r.getD (spot false x r) 0) t := by simp only [ins]; rw [if_neg e]
      have e2 : insAt false x (r :: t) = insAt false (r.getD (spot false x r) 0) t + 1 := by simp only [insAt]; rw [if_neg e]
      rw [e1, e2]
      cases i with
      | zero => simp [row]
      | succ i =>
        have := @ih (r.getD (spot false x r) 0) h4 i
        rw [show row (r.set (spot false x r) x :: ins false (r.getD (spot false x r) 0) t) (i + 1) = row (ins false (r.getD (spot false x r) 0) t) i from rfl, show row (r :: t) (i + 1) = row t i from rfl, this]
        congr 1
        by_cases e2 : i = insAt false (r.getD (spot false x r) 0) t
        · rw [if_pos e2, if_pos (by omega)]
        · rw [if_neg e2, if_neg (by omega)]

theorem lastOf_app (r : List Int) (x : Int) : lastOf (r ++ [x]) = x := by unfold lastOf; rw [getD_app]; simp
theorem row_le_last {r : List Int} (h : Srt r) {j : Nat} (hj : j < r.length) : r.getD j 0 ≤ lastOf r := h.le (by omega) (by omega)
theorem tk_lng {ls : List (List Int)} (h : ∀ r ∈ ls, 0 < r.length) {i : Nat} (hi : i ≤ ls.length) (x : Int) : tk (lng ls i x) i = ls := by
  unfold tk
  rw [lng_row hi, if_pos rfl]
  by_cases e : i = ls.length
  · rw [row_out (by omega)]
    unfold lng
    rw [if_pos e]
    simp [e]
  · have hp : 0 < (row ls i).length := h _ (row_mem (by omega))
    rw [if_neg (by rw [List.length_append, List.length_singleton]; omega)]
    unfold lng
    rw [if_neg e, List.set_set]
    simp only [List.dropLast_concat]
    refine ext_row (by simp) (fun a _ => ?_)
    rw [row_set]
    by_cases k : a = i ∧ i < ls.length
    · rw [if_pos k, k.1]
    · rw [if_neg k]

/-- What holds of the pairs that were put in. -/
structure Made (l : List (Int × Int)) (p q : List (List Int)) : Prop where
  tp : T p
  tq : T q
  lens : ∀ i, (row p i).length = (row q i).length
  len : p.length = q.length
  most : ∀ c, l.getLast? = some c → ∀ z ∈ q.flatten, z ≤ c.1
  up : ∀ c, l.getLast? = some c → ∀ i, i < q.length → lastOf (row q i) = c.1 → insAt false c.2 (un (top q) p).2 ≤ i
  back : undo l.length p q = l
  cnt : q.flatten.length = l.length

theorem flat_sum (ls : List (List Int)) : ls.flatten.length = S ls.length (fun a => (row ls a).length) := by
  have : ∀ k, k ≤ ls.length → S k (fun a => (row ls a).length) = (ls.take k).flatten.length := by
    intro k
    induction k with
    | zero => intro _; simp [S]
    | succ k ih => intro hk; rw [S, ih (by omega), flat_take ls k (by omega), List.length_append]
  rw [this ls.length (Nat.le_refl _), List.take_length]
theorem lng_flat {ls : List (List Int)} {i : Nat} (hi : i ≤ ls.length) (x : Int) : (lng ls i x).flatten.length = ls.flatten.length + 1 ∧ ∀ z ∈ (lng ls i x).flatten, z = x ∨ z ∈ ls.flatten := by
  unfold lng
  by_cases e : i = ls.length
  · rw [if_pos e]
    refine ⟨by simp, fun z hz => ?_⟩
    rw [List.flatten_append, List.mem_append] at hz
    rcases hz with hz | hz
    · exact Or.inr hz
    · left; simpa using hz
  · rw [if_neg e, List.set_eq_take_append_cons_drop, if_pos (by omega)]
    have e2 : ls = ls.take i ++ row ls i :: ls.drop (i + 1) := by
      conv => lhs; rw [← List.take_append_drop i ls]
      rw [List.drop_eq_getElem_cons (by omega)]; simp [row, List.getD, List.getElem?_eq_getElem (show i < ls.length by omega)]
    refine ⟨?_, fun z hz => ?_⟩
    · conv => rhs; rw [e2]
      simp only [List.flatten_append, List.flatten_cons, List.length_append, List.length_singleton]; omega
    · rw [List.flatten_append, List.flatten_cons, List.mem_append, List.mem_append, List.mem_append] at hz
      rw [e2, List.flatten_append, List.flatten_cons, List.mem_append, List.mem_append]
      rcases hz with hz | (hz | hz) | hz
      · exact Or.inr (Or.inl hz)
      · exact Or.inr (Or.inr (Or.inl hz))
      · left; simpa using hz
      · exact Or.inr (Or.inr (Or.inr hz))

theorem made_nil : Made [] [] [] := ⟨trivial, trivial, fun _ => rfl, rfl, fun c h => by simp at h, fun c h => by simp at h, rfl, rfl⟩

theorem Made.snoc {l : List (Int × Int)} {p q : List (List Int)} (h : Made l p q) (c : Int × Int) (hc : ∀ d, l.getLast? = some d → Ord2 d c) (h1 : l = [] → q = []) (hl : l ≠ [] → ins false (un (top q) p).1 (un (top q) p).2 = p ∧ ∀ d, l.getLast? = some d → d.2 = (un (top q) p).1) :
    Made (l ++ [c]) (ins false c.2 p) (lng q (insAt false c.2 p) c.1) := by
  obtain ⟨a, b⟩ := c
  simp only at *
  obtain ⟨hT, hU⟩ := ins_T (x := b) h.tp
  have hle : insAt false b p ≤ q.length := by rw [← h.len]; exact insAt_le
  have hcor := at_corner (x := b) h.tp
  obtain ⟨i, hi⟩ : ∃ i, i = insAt false b p := ⟨_, rfl⟩
  rw [← hi] at hU hle hcor ⊢
  -- all letters of q are at most a; rows above i do not end with a
  have hmost : ∀ z ∈ q.flatten, z ≤ a := fun z hz => by
    cases e : l.getLast? with
    | none =>
      rw [List.getLast?_eq_none_iff] at e
      rw [h1 e] at hz; simp at hz
    | some d =>
      have k1 := h.most d e z hz
      have := hc d e
      unfold Ord2 at this; simp only at this; omega
  have hup : ∀ k, k < q.length → lastOf (row q k) = a → i ≤ k := fun k hk ha => by
    cases e : l.getLast? with
    | none =>
      rw [List.getLast?_eq_none_iff] at e
      rw [h1 e] at hk; simp at hk
    | some d =>
      have hne : l ≠ [] := fun e2 => by rw [e2] at e; simp at e
      obtain ⟨g1, g2⟩ := hl hne
      have g2 := g2 d e
      have hrow : 0 < (row q k).length := (T_row.1 h.tq k hk).1
      have hmem : lastOf (row q k) ∈ q.flatten := box_mem hk (show (row q k).length - 1 < (row q k).length by omega)
      have k1 := h.most d e _ hmem
      have k2 := hc d e
      unfold Ord2 at k2; simp only at k2
      have k3 : d.1 = a := by omega
      have k4 : d.2 ≤ b := by omega
      have k5 := h.up d e k hk (by omega)
      have hTu : T (un (top q) p).2 := by
        have hq := top_is (q := q) (by omega)
        refine (un_T h.tp (by rw [h.len]; exact hq.lt) ?_).1
        rw [h.lens, h.lens]
        exact corner_top h.tq (by omega)
      have k6 := at_le (ls := (un (top q) p).2) (x := d.2) (y := b) hTu k4
      rw [g2] at k6
      rw [g1, ← hi] at k6
      rw [← g2] at k6
      omega
  have hrow : ∀ k, row (lng q i a) k = if k = i then row q i ++ [a] else row q k := lng_row hle a
  have hlen : ∀ k, (row (ins false b p) k).length = (row (lng q i a) k).length := fun k => by
    rw [hcor k, h.lens, hrow]
    by_cases e : k = i
    · rw [if_pos e, if_pos e, e]; simp
    · rw [if_neg e, if_neg e]; simp
  have hsame : (ins false b p).length = (lng q i a).length := by
    have o1 := hT.shp.one
    have f1 : ∀ {A B : List (List Int)}, (∀ k, k < A.length → 0 < (row A k).length) → (∀ k, (row A k).length = (row B k).length) → A.length ≤ B.length := fun {A B} hA hAB => by
      refine Nat.le_of_not_lt (fun hlt => ?_)
      have := hA B.length hlt
      rw [hAB, row_out (Nat.le_refl _)] at this; simp at this
    refine Nat.le_antisymm (f1 o1 hlen) (f1 (fun k hk => ?_) (fun k => (hlen k).symm))
    rw [hrow]
    by_cases e : k = i
    · rw [if_pos e]; simp
    · rw [if_neg e]
      rw [lng_length] at hk
      exact h.tq.shp.one k (by split at hk <;> omega)
  have hq1 : ∀ k, k < q.length → ∀ j, j < (row q k).length → (row q k).getD j 0 ≤ a := fun k hk j hj => hmost _ (box_mem hk hj)
  have hshort : ∀ k, k + 1 = i → (row q i).length < (row q k).length := fun k hk => by
    have s1 := hT.shp.shorter' (a := k) (b := i) (by omega)
    rw [hcor, hcor, if_pos rfl, if_neg (by omega), h.lens, h.lens] at s1
    omega
  have htq : T (lng q i a) := by
    refine T_row.2 (fun k hk => ?_)
    have hk' : k ≠ i → k < q.length := fun e => by rw [lng_length] at hk; split at hk <;> omega
    rw [hrow, hrow]
    by_cases e : k = i
    · rw [if_pos e, if_neg (by omega)]
      subst e
      by_cases hkq : k < q.length
      · obtain ⟨r1, r2, r3⟩ := T_row.1 h.tq k hkq
        refine ⟨by simp, srt_app r2 (fun j hj => hq1 k hkq j hj), ⟨by have := r3.1; rw [List.length_append]; omega, fun j hj => ?_⟩⟩
        have := r3.1
        rw [getD_app, if_pos (by omega)]; exact r3.2 j hj
      · rw [row_out (a := k) (by omega), row_out (a := k + 1) (by omega)]
        exact ⟨by simp, fun j hj => absurd hj (by simp), dn_nil _⟩
    · rw [if_neg e]
      obtain ⟨r1, r2, r3⟩ := T_row.1 h.tq k (hk' e)
      refine ⟨r1, r2, ?_⟩
      by_cases e2 : k + 1 = i
      · rw [if_pos e2]
        have hs := hshort k e2
        refine ⟨by rw [List.length_append, List.length_singleton]; omega, fun j hj => ?_⟩
        rw [List.length_append, List.length_singleton] at hj
        rw [getD_app]
        by_cases e3 : j < (row q i).length
        · rw [if_pos e3, ← e2]; rw [← e2] at e3; exact r3.2 j e3
        · rw [if_neg e3, if_pos (by omega)]
          -- the letter above is not a
          have a1 := row_le_last r2 (j := j) (by omega)
          have a2 := hq1 k (hk' e) ((row q k).length - 1) (by omega)
          have a3 : lastOf (row q k) ≠ a := fun ea => by have := hup k (hk' e) ea; omega
          unfold lastOf at a1 a3
          omega
      · rw [if_neg e2]; exact r3
  have htop : IsTop (lng q i a) i := by
    refine ⟨by rw [lng_length]; split <;> omega, fun k hk => ?_, fun k hk => ?_⟩
    · rw [hrow, hrow, if_pos rfl, lastOf_app]
      by_cases e : k = i
      · rw [if_pos e, lastOf_app]; exact Int.le_refl _
      · rw [if_neg e]
        have hk' : k < q.length := by rw [lng_length] at hk; split at hk <;> omega
        exact hq1 k hk' _ (by have := h.tq.shp.one k hk'; omega)
    · rw [hrow, hrow, if_pos rfl, lastOf_app, if_neg (by omega)]
      have hk' : k < q.length := by omega
      have b1 := hq1 k hk' ((row q k).length - 1) (by have := h.tq.shp.one k hk'; omega)
      have b2 : lastOf (row q k) ≠ a := fun ea => by have := hup k hk' ea; omega
      unfold lastOf at b2 ⊢
      omega
  have etop : top (lng q i a) = i := (top_is (by have := htop.lt; omega)).uniq htop
  have hlast : (l ++ [(a, b)]).getLast? = some (a, b) := by simp
  refine ⟨hT, htq, hlen, hsame, fun d hd z hz => ?_, fun d hd k hk hk2 => ?_, ?_, ?_⟩
  · rw [hlast] at hd; cases hd
    rcases (lng_flat hle a).2 z hz with e | e
    · simp only; omega
    · exact hmost z e
  · rw [hlast] at hd; cases hd
    simp only at hk2 ⊢
    rw [etop, hU]
    simp only
    rw [← hi]
    by_cases e : k = i
    · omega
    · rw [hrow, if_neg e] at hk2
      have hk' : k < q.length := by rw [lng_length] at hk; split at hk <;> omega
      exact hup k hk' hk2
  · rw [List.length_append, List.length_singleton]
    simp only [undo]
    rw [etop, hU, hrow, if_pos rfl, lastOf_app, tk_lng (fun r hr => ?_) hle]
    · rw [h.back]
    · obtain ⟨k, hk, rfl⟩ := mem_row hr
      exact h.tq.shp.one k hk
  · rw [(lng_flat hle a).1, h.cnt]; simp

/-- In order, all of them. -/
def Ordered (l : List (Int × Int)) : Prop := ∀ i, i + 1 < l.length → Ord2 (l.getD i (0, 0)) (l.getD (i + 1) (0, 0))

theorem ordered_front {l : List (Int × Int)} {c : Int × Int} (h : Ordered (l ++ [c])) : Ordered l ∧ ∀ d, l.getLast? = some d → Ord2 d c := by
  refine ⟨fun i hi => ?_, fun d hd => ?_⟩
  · have := h i (by simp; omega)
    simp only [List.getD, List.getElem?_append] at this ⊢
    rw [if_pos (by omega), if_pos (by omega)] at this
    exact this
  · have hne : l ≠ [] := fun e => by rw [e] at hd; simp at hd
    have hp : 0 < l.length := List.length_pos_iff.2 hne
    have := h (l.length - 1) (by simp; omega)
    simp only [List.getD, List.getElem?_append] at this
    rw [if_pos (by omega), if_neg (by omega), show l.length - 1 + 1 - l.length = 0 by omega] at this
    rw [List.getLast?_eq_getElem?] at hd
    rw [hd] at this
    simpa using this

theorem mk_made : ∀ (n : Nat) (l : List (Int × Int)), l.length = n → Ordered l → Made l (mk l).1 (mk l).2 ∧ (l = [] → (mk l).2 = []) ∧ (l ≠ [] → ins false (un (top (mk l).2) (mk l).1).1 (un (top (mk l).2) (mk l).1).2 = (mk l).1 ∧ ∀ d, l.getLast? = some d → d.2 = (un (top (mk l).2) (mk l).1).1) := by
  intro n
  induction n with
  | zero =>
    intro l hl _
    have : l = [] := List.eq_nil_of_length_eq_zero hl
    subst this
    exact ⟨made_nil, fun _ => rfl, fun h => absurd rfl h⟩
  | succ n ih =>
    intro l hl ho
    have hne : l ≠ [] := fun e => by rw [e] at hl; simp at hl
    obtain ⟨f, c, rfl⟩ : ∃ f c, l = f ++ [c] := ⟨l.dropLast, l.getLast hne, (List.dropLast_concat_getLast hne).symm⟩
    obtain ⟨o1, o2⟩ := ordered_front ho
    obtain ⟨m1, m2, m3⟩ := ih f (by simpa using hl) o1
    have hm := m1.snoc c o2 m2 m3
    rw [mk_snoc]
    refine ⟨hm, fun e => by simp at e, fun _ => ?_⟩
    have hb := hm.back
    rw [List.length_append, List.length_singleton] at hb
    simp only [undo] at hb
    have hq : 0 < (lng (mk f).2 (insAt false c.2 (mk f).1) c.1).length := by
      have := hm.cnt
      refine Nat.pos_of_ne_zero (fun e => ?_)
      rw [List.eq_nil_of_length_eq_zero e] at this; simp at this
    have ht := top_is hq
    have hcor : (row (ins false c.2 (mk f).1) (top (lng (mk f).2 (insAt false c.2 (mk f).1) c.1) + 1)).length < (row (ins false c.2 (mk f).1) (top (lng (mk f).2 (insAt false c.2 (mk f).1) c.1))).length := by
      rw [hm.lens, hm.lens]
      exact corner_top hm.tq hq
    have hu := un_T hm.tp (by rw [hm.len]; exact ht.lt) hcor
    refine ⟨hu.2.1, fun d hd => ?_⟩
    have : d = c := by simpa using hd.symm
    subst this
    have e2 := (List.append_inj_right' hb rfl)
    simp only [List.cons.injEq, and_true] at e2
    show d.2 = _
    have e3 := congrArg Prod.snd e2
    simp only at e3
    exact e3.symm

end Go.Proofs.Ytpbkidgdpejenae
