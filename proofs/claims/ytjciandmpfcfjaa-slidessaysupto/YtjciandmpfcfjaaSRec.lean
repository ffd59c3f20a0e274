/-
  Skew tableaux, slides from their corners, what is left when no hole is: plain facts.
-/
import Derived.Test.YtjciandmpfcfjaaSStd
namespace Go.Proofs.Ytjciandmpfcfjaa

/-- The holes at the beginning of a row. -/
def hol : List Int → Nat
  | [] => 0
  | x :: r => if x = 0 then hol r + 1 else 0
theorem hol_le : ∀ (r : List Int), hol r ≤ r.length := by
  intro r
  induction r with
  | nil => exact Nat.le_refl _
  | cons x r ih => simp only [hol]; split <;> simp <;> omega
theorem hol_zero : ∀ (r : List Int) (j : Nat), j < hol r → r.getD j 0 = 0 := by
  intro r
  induction r with
  | nil => intro j h; simp [hol] at h
  | cons x r ih =>
    intro j h
    simp only [hol] at h
    by_cases c : x = 0
    · rw [if_pos c] at h
      cases j with
      | zero => simpa using c
      | succ j => simpa using ih j (by omega)
    · rw [if_neg c] at h; omega
theorem hol_stop : ∀ (r : List Int), hol r < r.length → r.getD (hol r) 0 ≠ 0 := by
  intro r
  induction r with
  | nil => intro h; simp [hol] at h
  | cons x r ih =>
    intro h
    simp only [hol] at h ⊢
    by_cases c : x = 0
    · rw [if_pos c] at h ⊢; simpa using ih (by simpa using h)
    · rw [if_neg c]; simpa using c
theorem hol_is {r : List Int} {k : Nat} (hk : k ≤ r.length) (h : ∀ j, j < k → r.getD j 0 = 0) (hs : k < r.length → r.getD k 0 ≠ 0) : hol r = k := by
  rcases Nat.lt_trichotomy (hol r) k with c | c | c
  · exact absurd (h _ c) (hol_stop r (by omega))
  · exact c
  · exact absurd (hol_zero r k c) (hs (by have := hol_le r; omega))
def H (s : List (List Int)) (a : Nat) : Nat := hol (row s a)

/-- Letters, none less than the one ahead. -/
def letB (r : List Int) : Bool := (List.range r.length).all fun j => decide (1 ≤ r.getD j 0) && decide (r.getD j 0 ≤ 99) && (decide (j = 0) || decide (r.getD (j - 1) 0 ≤ r.getD j 0))
theorem letB_is (r : List Int) : letB r = risesB r := rfl
/-- A row under another one. -/
def lieB (r up : List Int) : Bool := decide (r.length ≤ up.length) && decide (hol r ≤ hol up) && (List.range r.length).all fun j => decide (j < hol up) || decide (up.getD j 0 < r.getD j 0)
def skB (i : Nat) (up r : List Int) : Bool := decide (0 < r.length) && risesB (r.drop (hol r)) && (decide (i = 0) || lieB r up)
def okSk (s : List (List Int)) : Bool := (List.range s.length).all fun i => skB i (upOf s i) (row s i)
def schk (s : List (List Int)) : Int := if 40 < s.flatten.length then 2 else if okSk s = true then 0 else 1

structure SkRow (i : Nat) (up r : List Int) : Prop where
  one : 0 < r.length
  low : ∀ j, hol r ≤ j → j < r.length → 1 ≤ r.getD j 0 ∧ r.getD j 0 ≤ 99
  along : ∀ j, hol r ≤ j → j + 1 < r.length → r.getD j 0 ≤ r.getD (j + 1) 0
  len : 0 < i → r.length ≤ up.length
  hol : 0 < i → hol r ≤ hol up
  over : 0 < i → ∀ j, Go.Proofs.Ytjciandmpfcfjaa.hol up ≤ j → j < r.length → up.getD j 0 < r.getD j 0
theorem lieB_iff {r up : List Int} : lieB r up = true ↔ r.length ≤ up.length ∧ hol r ≤ hol up ∧ ∀ j, hol up ≤ j → j < r.length → up.getD j 0 < r.getD j 0 := by
  unfold lieB
  rw [Bool.and_eq_true, Bool.and_eq_true, decide_eq_true_eq, decide_eq_true_eq, List.all_eq_true, and_assoc]
  refine and_congr Iff.rfl (and_congr Iff.rfl ⟨fun h j h1 h2 => ?_, fun h j hj => ?_⟩)
  · have := h j (List.mem_range.2 h2)
    rw [Bool.or_eq_true, decide_eq_true_eq, decide_eq_true_eq] at this
    rcases this with q | q
    · omega
    · exact q
  · rw [Bool.or_eq_true, decide_eq_true_eq, decide_eq_true_eq]
    rcases Nat.lt_or_ge j (hol up) with c | c
    · exact Or.inl c
    · exact Or.inr (h j c (List.mem_range.1 hj))
theorem skB_iff {i : Nat} {up r : List Int} : skB i up r = true ↔ SkRow i up r := by
  unfold skB
  rw [Bool.and_eq_true, Bool.and_eq_true, Bool.or_eq_true, decide_eq_true_eq, decide_eq_true_eq, risesB_iff, lieB_iff]
  constructor
  · rintro ⟨⟨h1, h2⟩, h3⟩
    have g : ∀ j, hol r ≤ j → j < r.length → (r.drop (hol r)).getD (j - hol r) 0 = r.getD j 0 := fun j q _ => by rw [drop_getD']; congr 1; omega
    refine ⟨h1, fun j q1 q2 => ?_, fun j q1 q2 => ?_, fun q => ?_, fun q => ?_, fun q => ?_⟩
    · have := h2 (j - hol r) (by rw [List.length_drop]; omega)
      rw [g j q1 q2] at this
      exact ⟨this.1, this.2.1⟩
    · have := (h2 (j + 1 - hol r) (by rw [List.length_drop]; omega)).2.2 (by omega)
      rw [g (j + 1) (by omega) q2, show j + 1 - hol r - 1 = j - hol r by omega, g j q1 (by omega)] at this
      exact this
    · rcases h3 with z | z
      · omega
      · exact z.1
    · rcases h3 with z | z
      · omega
      · exact z.2.1
    · rcases h3 with z | z
      · omega
      · exact z.2.2
  · intro h
    refine ⟨⟨h.one, fun j hj => ?_⟩, ?_⟩
    · rw [List.length_drop] at hj
      rw [drop_getD']
      refine ⟨(h.low (hol r + j) (by omega) (by omega)).1, (h.low (hol r + j) (by omega) (by omega)).2, fun q => ?_⟩
      rw [drop_getD']
      have := h.along (hol r + (j - 1)) (by omega) (by omega)
      rw [show hol r + (j - 1) + 1 = hol r + j by omega] at this
      exact this
    · rcases Nat.eq_zero_or_pos i with c | c
      · exact Or.inl c
      · exact Or.inr ⟨h.len c, h.hol c, h.over c⟩
structure IsSk (s : List (List Int)) : Prop where
  few : s.flatten.length ≤ 40
  ok : ∀ i, i < s.length → SkRow i (upOf s i) (row s i)
theorem okSk_iff {s : List (List Int)} : okSk s = true ↔ ∀ i, i < s.length → SkRow i (upOf s i) (row s i) := by
  unfold okSk
  rw [List.all_eq_true]
  exact ⟨fun h i hi => skB_iff.1 (h i (List.mem_range.2 hi)), fun h i hi => skB_iff.2 (h i (List.mem_range.1 hi))⟩
theorem schk_ok {s : List (List Int)} : schk s = 0 ↔ IsSk s := by
  unfold schk
  by_cases c : 40 < s.flatten.length
  · rw [if_pos c]; exact ⟨fun h => by omega, fun h => by have := h.few; omega⟩
  · rw [if_neg c]
    by_cases c2 : okSk s = true
    · rw [if_pos c2]; exact ⟨fun _ => ⟨by omega, okSk_iff.1 c2⟩, fun _ => rfl⟩
    · rw [if_neg c2]; exact ⟨fun h => by omega, fun h => absurd (okSk_iff.2 h.ok) c2⟩
theorem schk_range (s : List (List Int)) : schk s = 0 ∨ schk s = 1 ∨ schk s = 2 := by
  unfold schk
  split
  · exact Or.inr (Or.inr rfl)
  · split
    · exact Or.inl rfl
    · exact Or.inr (Or.inl rfl)
theorem okSk_no {s : List (List Int)} {i : Nat} (hi : i < s.length) (h : skB i (upOf s i) (row s i) = false) : okSk s = false := by
  cases e : okSk s with
  | false => rfl
  | true => have := skB_iff.2 (okSk_iff.1 e i hi); rw [h] at this; cases this

theorem IsSk.sk {s : List (List Int)} (h : IsSk s) : Sk non (H s) s := by
  have hr := h.ok
  have hshp : Shp s := ⟨fun a ha => (hr a ha).one, fun a ha => by have := (hr (a + 1) ha).len (by omega); rw [upOf_succ] at this; exact this⟩
  have hm : ∀ a, H s (a + 1) ≤ H s a := fun a => by
    rcases Nat.lt_or_ge (a + 1) s.length with c | c
    · have := (hr (a + 1) c).hol (by omega); rw [upOf_succ] at this; exact this
    · unfold H; rw [row_out c]; simp [hol]
  have hal : ∀ a, a < s.length → ∀ b d, H s a ≤ b → b + d < (row s a).length → box s a b ≤ box s a (b + d) := by
    intro a ha b d h1
    induction d with
    | zero => intro _; exact Int.le_refl _
    | succ d ih =>
      intro h2
      have q1 := ih (by omega)
      have q2 := (hr a ha).along (b + d) (by unfold H at h1; omega) (by omega)
      unfold box at q1 ⊢
      rw [show b + (d + 1) = b + d + 1 by omega]; omega
  have hmo : ∀ a d, H s (a + d) ≤ H s a := by
    intro a d
    induction d with
    | zero => exact Nat.le_refl _
    | succ d ih => exact Nat.le_trans (hm (a + d)) ih
  have hdn : ∀ a b d, H s a ≤ b → b < (row s (a + d + 1)).length → box s a b < box s (a + d + 1) b := by
    intro a b d h1
    induction d with
    | zero =>
      intro h2
      have := (hr (a + 1) (row_lt h2)).over (by omega) b
      rw [upOf_succ] at this
      exact this h1 h2
    | succ d ih =>
      intro h2
      have q := hshp.shorter' (a := a + d + 1) (b := a + (d + 1) + 1) (by omega)
      have q1 := ih (by omega)
      have q2 := (hr (a + (d + 1) + 1) (row_lt h2)).over (by omega) b
      rw [upOf_succ] at q2
      have q3 := q2 (by have := hmo a (d + 1); unfold H at this h1; omega) h2
      unfold box at q1 ⊢
      rw [show a + d + 1 = a + (d + 1) by omega] at q1
      omega
  refine ⟨hshp, hm, fun a => hol_le _, fun a b hb => hol_zero _ b hb, fun a b h1 h2 _ => ((hr a (row_lt h2)).low b h1 h2).1, fun a b c h1 h2 h3 _ _ => ?_, fun a c b h1 h2 h3 _ _ => ?_⟩
  · have := hal a (row_lt h3) b (c - b) h1 (by omega)
    rw [show b + (c - b) = c by omega] at this; exact this
  · have := hdn a b (c - a - 1) h2 (by rw [show a + (c - a - 1) + 1 = c by omega]; exact h3)
    rw [show a + (c - a - 1) + 1 = c by omega] at this; exact this
theorem Sk.hol {h : Nat → Nat} {s : List (List Int)} (k : Sk non h s) (a : Nat) : Go.Proofs.Ytjciandmpfcfjaa.hol (row s a) = h a :=
  hol_is (k.hl a) (fun j hj => k.zer a j hj) (fun hj => by have := k.pos a (h a) (Nat.le_refl _) hj (fun q => q); unfold box at this; omega)
theorem Sk.isSk {h : Nat → Nat} {s : List (List Int)} (k : Sk non h s) (h40 : s.flatten.length ≤ 40) (h99 : ∀ z ∈ sword h s, z ≤ 99) (hbx : ∀ a b, h a ≤ b → b < (row s a).length → box s a b ∈ sword h s) : IsSk s := by
  refine ⟨h40, fun i hi => ⟨k.shp.1 i hi, fun j h1 h2 => ?_, fun j h1 h2 => ?_, fun q => ?_, fun q => ?_, fun q j h1 h2 => ?_⟩⟩
  · rw [k.hol] at h1; exact ⟨k.pos i j h1 h2 (fun q => q), h99 _ (hbx i j h1 h2)⟩
  · rw [k.hol] at h1; exact k.along i j (j + 1) h1 (by omega) h2 (fun q => q) (fun q => q)
  · obtain ⟨i, rfl⟩ : ∃ m, i = m + 1 := ⟨i - 1, by omega⟩
    rw [upOf_succ]; exact k.shp.shorter' (by omega)
  · obtain ⟨i, rfl⟩ : ∃ m, i = m + 1 := ⟨i - 1, by omega⟩
    rw [upOf_succ, k.hol, k.hol]; exact k.hm i
  · obtain ⟨i, rfl⟩ : ∃ m, i = m + 1 := ⟨i - 1, by omega⟩
    rw [upOf_succ] at h1 ⊢
    rw [k.hol] at h1
    exact k.down i (i + 1) j (by omega) h1 h2 (fun q => q) (fun q => q)
theorem mem_sword : ∀ (s : List (List Int)) (h : Nat → Nat) (a b : Nat), h a ≤ b → b < (row s a).length → box s a b ∈ sword h s := by
  intro s
  induction s with
  | nil => intro h a b _ hb; simp [row] at hb
  | cons r s ih =>
    intro h a b h1 h2
    simp only [sword]
    cases a with
    | zero =>
      refine List.mem_append.2 (Or.inr ?_)
      have h2' : b < r.length := h2
      have : box (r :: s) 0 b = (r.drop (h 0)).getD (b - h 0) 0 := by rw [drop_getD']; show r.getD b 0 = _; congr 1; omega
      rw [this]; exact getD_mem (by rw [List.length_drop]; omega)
    | succ a => exact List.mem_append.2 (Or.inl (ih (fun a => h (a + 1)) a b h1 h2))

/-- One hole less. -/
def less (h : Nat → Nat) (i : Nat) : Nat → Nat := fun a => if a = i then h i - 1 else h a
theorem sword_congr : ∀ (s : List (List Int)) (h h' : Nat → Nat), (∀ a, a < s.length → h a = h' a) → sword h s = sword h' s := by
  intro s
  induction s with
  | nil => intro h h' _; rfl
  | cons r s ih => intro h h' e; simp only [sword]; rw [ih _ _ (fun a ha => e (a + 1) (by simpa using ha)), e 0 (by simp)]
theorem corner_hol {h : Nat → Nat} {s : List (List Int)} (k : Sk non h s) {i : Nat} (hc : h (i + 1) < h i) : Hol (less h i) s i (h i - 1) ∧ sword (less h i) (er s i (h i - 1)) = sword h s := by
  have hi : ∀ a b, less h i a ≤ b → ¬ one i (h i - 1) a b → h a ≤ b := fun a b h1 h2 => by
    unfold less at h1
    by_cases e : a = i
    · rw [if_pos e] at h1
      have : b ≠ h i - 1 := fun q => h2 ⟨e, q⟩
      rw [e]; omega
    · rw [if_neg e] at h1; exact h1
  have hl := k.hl i
  refine ⟨⟨⟨k.shp, fun a => ?_, fun a => ?_, fun a b hb => k.zer a b ?_, fun a b h1 h2 hx => k.pos a b (hi a b h1 hx) h2 (fun q => q), fun a b c h1 h2 h3 hx hy => k.along a b c (hi a b h1 hx) h2 h3 (fun q => q) (fun q => q), fun a c b h1 h2 h3 hx hy => k.down a c b h1 (hi a b h2 hx) h3 (fun q => q) (fun q => q)⟩, by unfold less; rw [if_pos rfl]; exact Nat.le_refl _, by omega⟩, ?_⟩
  · have := k.hm a
    unfold less
    by_cases e : a = i
    · subst e; rw [if_neg (by omega), if_pos rfl]; omega
    · rw [if_neg e]
      by_cases e2 : a + 1 = i
      · rw [if_pos e2, ← e2]; omega
      · rw [if_neg e2]; exact this
  · have := k.hl a
    unfold less
    by_cases e : a = i
    · rw [if_pos e, ← e]; omega
    · rw [if_neg e]; exact this
  · unfold less at hb
    by_cases e : a = i
    · rw [if_pos e] at hb; rw [e]; omega
    · rw [if_neg e] at hb; exact hb
  · have hir : i < s.length := row_lt (c := h i - 1) (by omega)
    unfold er
    rw [sword1 _ hir]
    have e0 : s.set i (row s i) = s := by
      refine ext_row (by simp) (fun a _ => ?_)
      rw [set_row]
      by_cases q : a = i ∧ i < s.length
      · rw [if_pos q, q.1]
      · rw [if_neg q]
    have := sword1 h hir (row s i)
    rw [e0] at this
    rw [this]
    congr 1
    · congr 1
      · exact sword_congr _ _ _ (fun a _ => by unfold less; rw [if_neg (by omega)])
      · unfold less
        rw [if_pos rfl, erase_at, List.drop_append_of_le_length (by rw [List.length_take]; omega)]
        rw [show h i - 1 + 1 = h i by omega, List.drop_eq_nil_of_le (by rw [List.length_take]; omega), List.nil_append]
    · exact sword_congr _ _ _ (fun a ha => by rw [List.length_take] at ha; unfold less; rw [if_neg (by omega)])

/-- The slide from the last hole of a row. -/
def slR (s : List (List Int)) (i : Nat) : List (List Int) × Nat :=
  (tk (mv (left s i (hol (row s i) - 1)) s i (hol (row s i) - 1)).1 (mv (left s i (hol (row s i) - 1)) s i (hol (row s i) - 1)).2.1, (mv (left s i (hol (row s i) - 1)) s i (hol (row s i) - 1)).2.1)
theorem slR_ok {h : Nat → Nat} {s : List (List Int)} (k : Sk non h s) {i : Nat} (hc : h (i + 1) < h i) : Sk non (less h i) (slR s i).1 ∧ Eqv (sword h s) (sword (less h i) (slR s i).1) ∧ (slR s i).1.flatten.length + 1 = s.flatten.length := by
  obtain ⟨k1, k2⟩ := corner_hol k hc
  have hh := k.hol i
  have e := mv_ends _ _ s i (h i - 1) k1 (Nat.le_refl _)
  obtain ⟨c1, c2⟩ := e.corner
  obtain ⟨g1, g2, g3⟩ := tk_sk e.hol c1 c2
  unfold slR
  rw [hh]
  refine ⟨g1, ?_, ?_⟩
  · rw [← k2, ← g2]; exact e.word
  · have hi' := e.hol.row
    simp only
    generalize mv (left s i (h i - 1)) s i (h i - 1) = m at *
    rw [flat_sum, flat_sum s]
    have hlen : ∀ a, (row (tk m.1 m.2.1) a).length = if a = m.2.1 then m.2.2 else (row s a).length := fun a => by
      rw [g3]
      by_cases q : a = m.2.1
      · rw [if_pos q, if_pos q, List.length_dropLast, c1]; rfl
      · rw [if_neg q, if_neg q, e.lens]
    have hS : S (tk m.1 m.2.1).length (fun a => (row (tk m.1 m.2.1) a).length) = S s.length (fun a => (row (tk m.1 m.2.1) a).length) := by
      have hle : (tk m.1 m.2.1).length ≤ s.length := by
        unfold tk
        have := e.len
        split
        · rw [List.length_take]; omega
        · rw [List.length_set]; omega
      exact (S_cut hle (fun a h1 _ => by rw [row_out h1]; rfl)).symm
    rw [hS, S_congr (fun a _ => hlen a)]
    have hi2 : m.2.1 < s.length := by rw [← e.len]; exact hi'
    have e2 : S s.length (fun a => (row s a).length) = S s.length (fun a => (if a = m.2.1 then m.2.2 else (row s a).length) + ind (a = m.2.1)) := S_congr (fun a _ => by
      by_cases q : a = m.2.1
      · subst q
        rw [if_pos rfl, ← e.lens, c1]; simp [ind]
      · rw [if_neg q]; simp [ind, q])
    rw [e2, S_add, S_just (p := fun a => a = m.2.1) hi2 rfl (fun i _ q => q)]

/-- The rows of the holes, the first ones first. -/
def Lat (rows : List Nat) : Prop := ∀ k a, (rows.take k).count (a + 1) ≤ (rows.take k).count a
def recS : List Nat → List (List Int) → List (List Int)
  | [], s => s
  | i :: l, s => recS l (slR s i).1
theorem rec_ok : ∀ (n : Nat) (rows : List Nat) (s : List (List Int)) (h : Nat → Nat), rows.length = n → Lat rows → Sk non h s → (∀ a, h a = rows.count a) → Sk non (fun _ => 0) (recS rows.reverse s) ∧ Eqv (sword h s) (wrd (recS rows.reverse s)) := by
  intro n
  induction n with
  | zero =>
    intro rows s h hn _ k e
    have : rows = [] := List.eq_nil_of_length_eq_zero hn
    subst this
    have e' : h = fun _ => 0 := funext (fun a => by rw [e]; rfl)
    subst e'
    exact ⟨k, by rw [sword_zero]; exact Eqv.refl _⟩
  | succ n ih =>
    intro rows s h hn hL k e
    obtain ⟨l, i, rfl⟩ : ∃ l i, rows = l ++ [i] := by
      have : rows ≠ [] := fun q => by rw [q] at hn; simp at hn
      exact ⟨rows.dropLast, rows.getLast this, (List.dropLast_concat_getLast this).symm⟩
    rw [List.reverse_append]
    show Sk non (fun _ => 0) (recS l.reverse (slR s i).1) ∧ Eqv (sword h s) (wrd (recS l.reverse (slR s i).1))
    have hl : l.length = n := by simpa using hn
    have hc : h (i + 1) < h i := by
      have := hL l.length i
      rw [List.take_left] at this
      rw [e, e, List.count_append, List.count_append, List.count_singleton_self]
      have : List.count (i + 1) [i] = 0 := by simp
      omega
    obtain ⟨k1, k2, _⟩ := slR_ok k hc
    have hL' : Lat l := fun m a => by
      by_cases c : m ≤ l.length
      · have := hL m a
        rw [List.take_append_of_le_length c] at this
        exact this
      · have := hL l.length a
        rw [List.take_left] at this
        rw [List.take_of_length_le (by omega)]
        exact this
    obtain ⟨g1, g2⟩ := ih l _ _ hl hL' k1 (fun a => by
      unfold less
      by_cases q : a = i
      · rw [if_pos q, e, q, List.count_append, List.count_singleton_self]; omega
      · rw [if_neg q, e, List.count_append]
        have : List.count a [i] = 0 := by rw [List.count_eq_zero]; simp; exact q
        omega)
    exact ⟨g1, k2.trans g2⟩
theorem rec_is {rows : List Nat} {s : List (List Int)} {h : Nat → Nat} (hL : Lat rows) (k : Sk non h s) (e : ∀ a, h a = rows.count a) : recS rows.reverse s = insW [] (sword h s) := by
  obtain ⟨g1, g2⟩ := rec_ok _ rows s h rfl hL k e
  rw [g2.P, wrd_T _ (sk_T g1)]

end Go.Proofs.Ytjciandmpfcfjaa
