/-
  Sums of the first n values of a function; permutations as lists of numbers: plain facts.
  Tableaux as lists of rows: plain facts.
  The contracts of parts.Check, parts.columns, parts.Conjugate.
-/
import Derived.Test.YtheebpjkjclgbaaBOwn
import Derived.Test.YtheebpjkjclgbaaBApp
namespace Go.Proofs.Ytheebpjkjclgbaa

/-- f 0 + .. + f (n - 1). -/
def S : Nat → (Nat → Nat) → Nat
  | 0, _ => 0
  | n + 1, f => S n f + f n

theorem S_congr : ∀ {n : Nat} {f g : Nat → Nat}, (∀ i, i < n → f i = g i) → S n f = S n g := by
  intro n
  induction n with
  | zero => intro _ _ _; rfl
  | succ n ih => intro f g h; rw [S, S, ih (fun i hi => h i (by omega)), h n (by omega)]
theorem S_add : ∀ (n : Nat) (f g : Nat → Nat), S n (fun i => f i + g i) = S n f + S n g := by
  intro n
  induction n with
  | zero => intro _ _; rfl
  | succ n ih => intro f g; simp only [S, ih]; omega
theorem S_zero : ∀ (n : Nat), S n (fun _ => 0) = 0 := by
  intro n; induction n with
  | zero => rfl
  | succ n ih => rw [S, ih]
theorem S_one : ∀ (n : Nat), S n (fun _ => 1) = n := by
  intro n; induction n with
  | zero => rfl
  | succ n ih => rw [S, ih]
theorem S_swap : ∀ (n m : Nat) (f : Nat → Nat → Nat), S n (fun i => S m (fun j => f i j)) = S m (fun j => S n (fun i => f i j)) := by
  intro n
  induction n with
  | zero => intro m f; simp only [S]; rw [S_zero]
  | succ n ih => intro m f; simp only [S, S_add, ih]
theorem S_le : ∀ {n : Nat} {f g : Nat → Nat}, (∀ i, i < n → f i ≤ g i) → S n f ≤ S n g := by
  intro n
  induction n with
  | zero => intro _ _ _; exact Nat.le_refl _
  | succ n ih => intro f g h; have := ih (fun i hi => h i (by omega)); have := h n (by omega); simp only [S]; omega

/-- 1 where it is so, else 0. -/
def ind (p : Prop) [Decidable p] : Nat := if p then 1 else 0
theorem ind_pos {p : Prop} [Decidable p] (h : p) : ind p = 1 := if_pos h
theorem ind_neg {p : Prop} [Decidable p] (h : ¬ p) : ind p = 0 := if_neg h
theorem ind_le (p : Prop) [Decidable p] : ind p ≤ 1 := by unfold ind; split <;> omega
theorem ind_iff {p q : Prop} [Decidable p] [Decidable q] (h : p ↔ q) : ind p = ind q := by
  by_cases hp : p
  · rw [ind_pos hp, ind_pos (h.1 hp)]
  · rw [ind_neg hp, ind_neg (fun hq => hp (h.2 hq))]

theorem S_none {n : Nat} {p : Nat → Prop} [DecidablePred p] (h : ∀ i, i < n → ¬ p i) : S n (fun i => ind (p i)) = 0 := by
  rw [S_congr (g := fun _ => 0) (fun i hi => ind_neg (h i hi)), S_zero]
/-- Just one place has it. -/
theorem S_just : ∀ {n k : Nat} {p : Nat → Prop} [DecidablePred p], k < n → p k → (∀ i, i < n → p i → i = k) → S n (fun i => ind (p i)) = 1 := by
  intro n
  induction n with
  | zero => intro k p _ h; omega
  | succ n ih =>
    intro k p _ hk hp hu
    rw [S]
    by_cases e : k = n
    · subst e
      rw [S_none (fun i hi hpi => by have := hu i (by omega) hpi; omega), ind_pos hp]
    · rw [ih (by omega) hp (fun i hi => hu i (by omega)), ind_neg (fun h => e (hu n (by omega) h).symm)]

theorem S_below {n i : Nat} (h : i ≤ n) : S n (fun t => ind (t < i)) = i := by
  induction n with
  | zero => simp [S]; omega
  | succ n ih =>
    rw [S]
    by_cases e : i = n + 1
    · subst e
      rw [S_congr (g := fun _ => 1) (fun t ht => ind_pos (by omega)), S_one, ind_pos (by omega)]
    · rw [ih (by omega), ind_neg (by omega)]; rfl

/-- A sum up to n of what is 0 from k on. -/
theorem S_cut : ∀ {n k : Nat} {f : Nat → Nat}, k ≤ n → (∀ i, k ≤ i → i < n → f i = 0) → S n f = S k f := by
  intro n
  induction n with
  | zero => intro k f h _; have : k = 0 := by omega
            subst this; rfl
  | succ n ih =>
    intro k f h h0
    by_cases e : k = n + 1
    · subst e; rfl
    · rw [S, ih (by omega) (fun i h1 h2 => h0 i h1 (by omega)), h0 n (by omega) (by omega)]; omega

/-- A count over a list, as a sum over its places. -/
theorem count_S : ∀ (l : List Int) (p : Int → Bool) (i : Nat), i ≤ l.length → (l.take i).countP p = S i (fun j => ind (p (l.getD j 0) = true)) := by
  intro l p i
  induction i with
  | zero => intro _; simp [S]
  | succ i ih =>
    intro h
    have e : l.take (i + 1) = l.take i ++ [l.getD i 0] := by
      rw [List.take_add_one, List.getD_eq_getElem?_getD, List.getElem?_eq_getElem (by omega)]; rfl
    rw [e, List.countP_append, ih (by omega), S, List.countP_cons]
    simp [ind]

/-- A permutation: the numbers 1 to n, each once; at most 40. -/
structure IsPerm (zs : List Int) : Prop where
  len : zs.length ≤ 40
  low : ∀ z ∈ zs, 1 ≤ z
  high : ∀ z ∈ zs, z ≤ zs.length
  once : zs.Nodup

theorem pmem {l : List Int} {j : Nat} (h : j < l.length) : l.getD j 0 ∈ l := by
  rw [List.getD_eq_getElem?_getD, List.getElem?_eq_getElem h]; simp

theorem IsPerm.bounds {zs : List Int} (h : IsPerm zs) {j : Nat} (hj : j < zs.length) : 1 ≤ zs.getD j 0 ∧ zs.getD j 0 ≤ zs.length := ⟨h.low _ (pmem hj), h.high _ (pmem hj)⟩

theorem nodup_inj {l : List Int} (h : l.Nodup) {i j : Nat} (hi : i < l.length) (hj : j < l.length) (e : l.getD i 0 = l.getD j 0) : i = j := by
  rw [List.getD_eq_getElem?_getD, List.getD_eq_getElem?_getD, List.getElem?_eq_getElem hi, List.getElem?_eq_getElem hj] at e
  have hp := List.pairwise_iff_getElem.1 h
  simp only [Option.getD_some] at e
  rcases Nat.lt_trichotomy i j with hl | he | hl
  · exact absurd e (hp i j hi hj hl)
  · exact he
  · exact absurd e.symm (hp j i hj hi hl)

theorem IsPerm.inj {zs : List Int} (h : IsPerm zs) {i j : Nat} (hi : i < zs.length) (hj : j < zs.length) (e : zs.getD i 0 = zs.getD j 0) : i = j := nodup_inj h.once hi hj e

/-- How often the numbers 1 to n stand in a list of such: as many as it is long. -/
theorem S_counts (n : Nat) : ∀ (l : List Int), (∀ z ∈ l, 1 ≤ z ∧ z ≤ n) → S n (fun v => l.countP (fun z => decide (z = (v : Int) + 1))) = l.length := by
  intro l
  induction l with
  | nil => intro _; exact S_zero n
  | cons y l ih =>
    intro h
    have hy := h y (by simp)
    have e : ∀ v, v < n → (y :: l).countP (fun z => decide (z = (v : Int) + 1)) = l.countP (fun z => decide (z = (v : Int) + 1)) + ind (y = (v : Int) + 1) := by
      intro v _; rw [List.countP_cons]; simp [ind]
    rw [S_congr e, S_add, ih (fun z hz => h z (by simp [hz])), S_just (k := (y - 1).toNat) (by omega) (by omega) (fun i _ hi => by omega)]
    rfl

theorem nodup_count {l : List Int} (h : l.Nodup) (a : Int) : l.countP (fun z => decide (z = a)) ≤ 1 := by
  induction l with
  | nil => simp
  | cons y l ih =>
    rw [List.nodup_cons] at h
    rw [List.countP_cons]
    by_cases e : y = a
    · subst e
      have : l.countP (fun z => decide (z = y)) = 0 := by
        rw [List.countP_eq_zero]; intro z hz; simp; intro e; subst e; exact h.1 hz
      simp [this]
    · have := ih h.2; simp [e, this]

/-- Pigeons: a list of n different numbers from 1 to n has them all. -/
theorem IsPerm.all {zs : List Int} (h : IsPerm zs) {v : Int} (h1 : 1 ≤ v) (h2 : v ≤ zs.length) : v ∈ zs := by
  have hs := S_counts zs.length zs (fun z hz => ⟨h.low z hz, h.high z hz⟩)
  have hle : ∀ n, n ≤ zs.length → S n (fun v => zs.countP (fun z => decide (z = (v : Int) + 1))) ≤ n := by
    intro n _
    have := S_le (n := n) (f := fun v => zs.countP (fun z => decide (z = (v : Int) + 1))) (g := fun _ => 1) (fun i _ => nodup_count h.once _)
    rw [S_one] at this; exact this
  have key : ∀ n, n ≤ zs.length → ∀ m, m ≤ n → S n (fun v => zs.countP (fun z => decide (z = (v : Int) + 1))) ≤ S m (fun v => zs.countP (fun z => decide (z = (v : Int) + 1))) + (n - m) := by
    intro n hn
    induction n with
    | zero => intro m hm; have : m = 0 := by omega
              subst this; simp
    | succ n ih =>
      intro m hm
      by_cases e : m = n + 1
      · subst e; simp
      · have := ih (by omega) m (by omega)
        have := nodup_count h.once ((n : Int) + 1)
        simp only [S]; omega
  obtain ⟨k, hk⟩ : ∃ k : Nat, v = (k : Int) + 1 := ⟨(v - 1).toNat, by omega⟩
  have hk1 : k + 1 ≤ zs.length := by omega
  have h3 := key zs.length (Nat.le_refl _) (k + 1) hk1
  have h4 := hle k (by omega)
  have h5 : S (k + 1) (fun v => zs.countP (fun z => decide (z = (v : Int) + 1))) = S k (fun v => zs.countP (fun z => decide (z = (v : Int) + 1))) + zs.countP (fun z => decide (z = (k : Int) + 1)) := rfl
  have h6 : 0 < zs.countP (fun z => decide (z = (k : Int) + 1)) := by omega
  obtain ⟨z, hz, hz2⟩ := List.countP_pos_iff.1 h6
  have : z = v := by rw [hk]; simpa using hz2
  rw [← this]; exact hz

theorem IsPerm.place {zs : List Int} (h : IsPerm zs) {v : Nat} (hv : v < zs.length) : ∃ j, j < zs.length ∧ zs.getD j 0 = (v : Int) + 1 := by
  obtain ⟨j, hj, he⟩ := List.mem_iff_getElem.1 (h.all (v := (v : Int) + 1) (by omega) (by omega))
  exact ⟨j, hj, by rw [List.getD_eq_getElem?_getD, List.getElem?_eq_getElem hj, he]; rfl⟩

/-- What Check says. -/
def okPerm (zs : List Int) : Bool := decide ((∀ z ∈ zs, 1 ≤ z ∧ z ≤ zs.length) ∧ zs.Nodup)
def pchk (zs : List Int) : Int := if 40 < zs.length then 2 else if okPerm zs = true then 0 else 1

theorem pchk_ok {zs : List Int} : pchk zs = 0 ↔ IsPerm zs := by
  unfold pchk okPerm
  constructor
  · intro h
    by_cases h1 : 40 < zs.length
    · rw [if_pos h1] at h; omega
    · rw [if_neg h1] at h
      split at h
      · rename_i h2
        simp only [decide_eq_true_eq] at h2
        exact ⟨by omega, fun z hz => (h2.1 z hz).1, fun z hz => (h2.1 z hz).2, h2.2⟩
      · omega
  · intro h
    have := h.len
    rw [if_neg (by omega), if_pos (by simp only [decide_eq_true_eq]; exact ⟨fun z hz => ⟨h.low z hz, h.high z hz⟩, h.once⟩)]

end Go.Proofs.Ytheebpjkjclgbaa

namespace Go.Proofs.Ytheebpjkjclgbaa

/-- The row a, the box (a, b). -/
def row (ls : List (List Int)) (a : Nat) : List Int := ls.getD a []
def box (ls : List (List Int)) (a b : Nat) : Int := (row ls a).getD b 0
/-- The row ahead of row a: none ahead of the first. -/
def upOf (ls : List (List Int)) (a : Nat) : List Int := if a = 0 then [] else row ls (a - 1)

theorem row_mem {ls : List (List Int)} {a : Nat} (h : a < ls.length) : row ls a ∈ ls := by simp [row, List.getD, List.getElem?_eq_getElem h]
theorem mem_row {ls : List (List Int)} {r : List Int} (h : r ∈ ls) : ∃ a, a < ls.length ∧ row ls a = r := by
  obtain ⟨a, ha, rfl⟩ := List.mem_iff_getElem.1 h
  exact ⟨a, ha, by simp [row, List.getD, List.getElem?_eq_getElem ha]⟩
theorem row_out {ls : List (List Int)} {a : Nat} (h : ls.length ≤ a) : row ls a = [] := by simp [row, List.getD, List.getElem?_eq_none h]
theorem ext_row {ls ms : List (List Int)} (hl : ls.length = ms.length) (h : ∀ a, a < ls.length → row ls a = row ms a) : ls = ms := by
  refine List.ext_getElem hl (fun j h1 h2 => ?_)
  simpa [row, List.getD, List.getElem?_eq_getElem h1, List.getElem?_eq_getElem h2] using h j h1

/-- Along the row letters, none less than the one ahead. -/
def risesB (r : List Int) : Bool := (List.range r.length).all fun j => decide (1 ≤ r.getD j 0) && decide (r.getD j 0 ≤ 99) && (decide (j = 0) || decide (r.getD (j - 1) 0 ≤ r.getD j 0))
/-- Each letter, where the row above has one, is above that one. -/
def underB (r up : List Int) : Bool := (List.range (min r.length up.length)).all fun j => decide (up.getD j 0 < r.getD j 0)
def rowB (i : Nat) (up r : List Int) : Bool := decide (0 < r.length) && (decide (i = 0) || decide (r.length ≤ up.length)) && risesB r && underB r up
def okTab (ls : List (List Int)) : Bool := (List.range ls.length).all fun i => rowB i (upOf ls i) (row ls i)
/-- What Check says. -/
def tchk (ls : List (List Int)) : Int := if 40 < ls.flatten.length then 2 else if okTab ls = true then 0 else 1

theorem risesB_iff {r : List Int} : risesB r = true ↔ ∀ j, j < r.length → 1 ≤ r.getD j 0 ∧ r.getD j 0 ≤ 99 ∧ (0 < j → r.getD (j - 1) 0 ≤ r.getD j 0) := by
  simp only [risesB, List.all_eq_true, List.mem_range, Bool.and_eq_true, Bool.or_eq_true, decide_eq_true_eq]
  constructor
  · intro h j hj
    obtain ⟨⟨h1, h2⟩, h3⟩ := h j hj
    exact ⟨h1, h2, fun h0 => by rcases h3 with h3 | h3; omega; exact h3⟩
  · intro h j hj
    obtain ⟨h1, h2, h3⟩ := h j hj
    refine ⟨⟨h1, h2⟩, ?_⟩
    rcases Nat.eq_zero_or_pos j with h0 | h0
    · exact Or.inl h0
    · exact Or.inr (h3 h0)
theorem underB_iff {r up : List Int} : underB r up = true ↔ ∀ j, j < r.length → j < up.length → up.getD j 0 < r.getD j 0 := by
  simp only [underB, List.all_eq_true, List.mem_range, decide_eq_true_eq]
  exact ⟨fun h j h1 h2 => h j (by omega), fun h j hj => h j (by omega) (by omega)⟩

structure RowOk (i : Nat) (up r : List Int) : Prop where
  one : 0 < r.length
  len : 0 < i → r.length ≤ up.length
  low : ∀ j, j < r.length → 1 ≤ r.getD j 0 ∧ r.getD j 0 ≤ 99
  rise : ∀ j, j + 1 < r.length → r.getD j 0 ≤ r.getD (j + 1) 0
  down : 0 < i → ∀ j, j < r.length → up.getD j 0 < r.getD j 0

theorem rowB_iff {i : Nat} {up r : List Int} (h0 : i = 0 → up = []) : rowB i up r = true ↔ RowOk i up r := by
  simp only [rowB, Bool.and_eq_true, Bool.or_eq_true, decide_eq_true_eq, risesB_iff, underB_iff]
  constructor
  · rintro ⟨⟨⟨h1, h2⟩, h3⟩, h4⟩
    have hl : 0 < i → r.length ≤ up.length := fun hi => by rcases h2 with h2 | h2; omega; exact h2
    exact ⟨h1, hl, fun j hj => ⟨(h3 j hj).1, (h3 j hj).2.1⟩, fun j hj => (h3 (j + 1) hj).2.2 (by omega), fun hi j hj => h4 j hj (by have := hl hi; omega)⟩
  · intro h
    refine ⟨⟨⟨h.one, ?_⟩, fun j hj => ⟨(h.low j hj).1, (h.low j hj).2, fun hp => ?_⟩⟩, fun j h1 h2 => ?_⟩
    · rcases Nat.eq_zero_or_pos i with hi | hi
      · exact Or.inl hi
      · exact Or.inr (h.len hi)
    · have := h.rise (j - 1) (by omega)
      rw [show j - 1 + 1 = j by omega] at this; exact this
    · rcases Nat.eq_zero_or_pos i with hi | hi
      · rw [h0 hi] at h2; simp at h2
      · exact h.down hi j h1

theorem upOf_zero (ls : List (List Int)) (i : Nat) (h : i = 0) : upOf ls i = [] := by rw [upOf, if_pos h]
theorem upOf_succ (ls : List (List Int)) (i : Nat) : upOf ls (i + 1) = row ls i := by simp [upOf]

structure IsTab (ls : List (List Int)) : Prop where
  few : ls.flatten.length ≤ 40
  ok : ∀ i, i < ls.length → RowOk i (upOf ls i) (row ls i)

theorem okTab_iff {ls : List (List Int)} : okTab ls = true ↔ ∀ i, i < ls.length → RowOk i (upOf ls i) (row ls i) := by
  simp only [okTab, List.all_eq_true, List.mem_range]
  exact ⟨fun h i hi => (rowB_iff (upOf_zero ls i)).1 (h i hi), fun h i hi => (rowB_iff (upOf_zero ls i)).2 (h i hi)⟩
theorem okTab_no {ls : List (List Int)} {i : Nat} (hi : i < ls.length) (h : rowB i (upOf ls i) (row ls i) = false) : okTab ls = false := by
  cases e : okTab ls with
  | false => rfl
  | true =>
    simp only [okTab, List.all_eq_true, List.mem_range] at e
    rw [e i hi] at h; cases h
theorem okTab_yes {ls : List (List Int)} (h : ∀ i, i < ls.length → rowB i (upOf ls i) (row ls i) = true) : okTab ls = true := by
  simp only [okTab, List.all_eq_true, List.mem_range]; exact h
theorem tchk_ok {ls : List (List Int)} : tchk ls = 0 ↔ IsTab ls := by
  unfold tchk
  constructor
  · intro h
    by_cases h1 : 40 < ls.flatten.length
    · rw [if_pos h1] at h; omega
    · rw [if_neg h1] at h
      by_cases h2 : okTab ls = true
      · exact ⟨by omega, okTab_iff.1 h2⟩
      · rw [if_neg h2] at h; omega
  · intro h
    rw [if_neg (by have := h.few; omega), if_pos (okTab_iff.2 h.ok)]
theorem tchk_range (ls : List (List Int)) : tchk ls = 0 ∨ tchk ls = 1 ∨ tchk ls = 2 := by
  unfold tchk; split
  · simp
  · split <;> simp

-- Lengths of parts.
theorem flat_take (ls : List (List Int)) (k : Nat) (hk : k < ls.length) : (ls.take (k + 1)).flatten = (ls.take k).flatten ++ row ls k := by
  rw [List.take_succ_eq_append_getElem hk, List.flatten_append]
  simp [row, List.getD, List.getElem?_eq_getElem hk]
theorem flat_take_le (ls : List (List Int)) (k : Nat) : (ls.take k).flatten.length ≤ ls.flatten.length := by
  conv => rhs; rw [← List.take_append_drop k ls]
  rw [List.flatten_append, List.length_append]; omega
theorem row_le_flat {ls : List (List Int)} {a : Nat} (h : a < ls.length) : (row ls a).length ≤ ls.flatten.length := by
  have := flat_take_le ls (a + 1)
  rw [flat_take ls a h, List.length_append] at this; omega
theorem len_le_flat {ls : List (List Int)} (h : ∀ a, a < ls.length → 0 < (row ls a).length) : ls.length ≤ ls.flatten.length := by
  have key : ∀ k, k ≤ ls.length → k ≤ (ls.take k).flatten.length := by
    intro k
    induction k with
    | zero => intro _; omega
    | succ k ih =>
      intro hk
      have := ih (by omega)
      have h1 := h k (by omega)
      rw [flat_take ls k (by omega), List.length_append]; omega
  have := key ls.length (Nat.le_refl _)
  rwa [List.take_length] at this
theorem flat_mem {ls : List (List Int)} {z : Int} (h : z ∈ ls.flatten) : ∃ a b, a < ls.length ∧ b < (row ls a).length ∧ box ls a b = z := by
  obtain ⟨r, hr, hz⟩ := List.mem_flatten.1 h
  obtain ⟨a, ha, rfl⟩ := mem_row hr
  obtain ⟨b, hb, rfl⟩ := List.mem_iff_getElem.1 hz
  exact ⟨a, b, ha, hb, by simp [box, List.getD, List.getElem?_eq_getElem hb]⟩
theorem box_mem {ls : List (List Int)} {a b : Nat} (ha : a < ls.length) (hb : b < (row ls a).length) : box ls a b ∈ ls.flatten :=
  List.mem_flatten.2 ⟨row ls a, row_mem ha, by simp [box, List.getD, List.getElem?_eq_getElem hb]⟩

theorem IsTab.letters {ls : List (List Int)} (h : IsTab ls) {a b : Nat} (ha : a < ls.length) (hb : b < (row ls a).length) : 1 ≤ box ls a b ∧ box ls a b ≤ 99 := (h.ok a ha).low b hb
theorem IsTab.mem {ls : List (List Int)} (h : IsTab ls) {z : Int} (hz : z ∈ ls.flatten) : 1 ≤ z ∧ z ≤ 99 := by
  obtain ⟨a, b, ha, hb, rfl⟩ := flat_mem hz
  exact h.letters ha hb
theorem IsTab.rows {ls : List (List Int)} (h : IsTab ls) : ls.length ≤ 40 := Nat.le_trans (len_le_flat (fun a ha => (h.ok a ha).one)) h.few
theorem IsTab.width {ls : List (List Int)} (h : IsTab ls) {a : Nat} (ha : a < ls.length) : (row ls a).length ≤ 40 := Nat.le_trans (row_le_flat ha) h.few
theorem IsTab.shorter {ls : List (List Int)} (h : IsTab ls) {a b : Nat} (hab : a ≤ b) (hb : b < ls.length) : (row ls b).length ≤ (row ls a).length := by
  induction b with
  | zero => have : a = 0 := by omega
            subst this; exact Nat.le_refl _
  | succ b ih =>
    by_cases e : a = b + 1
    · subst e; exact Nat.le_refl _
    · have h1 := (h.ok (b + 1) hb).len (by omega)
      rw [upOf_succ] at h1
      exact Nat.le_trans h1 (ih (by omega) (by omega))
theorem IsTab.column {ls : List (List Int)} (h : IsTab ls) {a c j : Nat} (hac : a < c) (hc : c < ls.length) (hj : j < (row ls c).length) : box ls a j < box ls c j := by
  induction c with
  | zero => omega
  | succ c ih =>
    have h1 := (h.ok (c + 1) hc).down (by omega) j hj
    rw [upOf_succ] at h1
    have h2 : box ls c j < box ls (c + 1) j := h1
    by_cases e : a = c
    · subst e; exact h2
    · have hs := h.shorter (a := c) (b := c + 1) (by omega) hc
      exact Int.lt_trans (ih (by omega) (by omega) (by omega)) h2
theorem IsTab.along {ls : List (List Int)} (h : IsTab ls) {a i j : Nat} (hij : i ≤ j) (ha : a < ls.length) (hj : j < (row ls a).length) : box ls a i ≤ box ls a j := by
  induction j with
  | zero => have : i = 0 := by omega
            subst this; exact Int.le_refl _
  | succ j ih =>
    by_cases e : i = j + 1
    · subst e; exact Int.le_refl _
    · exact Int.le_trans (ih (by omega) (by omega)) ((h.ok a ha).rise j hj)

-- How often each letter is there.
/-- The greatest of them, as a number that counts from 0. -/
def mx : List Int → Nat
  | [] => 0
  | z :: l => max z.toNat (mx l)
theorem mx_snoc (l : List Int) (z : Int) : mx (l ++ [z]) = max (mx l) z.toNat := by
  induction l with
  | nil => simp [mx]
  | cons y l ih => simp only [List.cons_append, mx, ih]; omega
theorem mx_ge {l : List Int} {z : Int} (h : z ∈ l) : z.toNat ≤ mx l := by
  induction l with
  | nil => cases h
  | cons y l ih =>
    rcases List.mem_cons.1 h with rfl | h
    · simp only [mx]; omega
    · have := ih h; simp only [mx]; omega
theorem mx_le {l : List Int} {n : Nat} (h : ∀ z ∈ l, z ≤ n) : mx l ≤ n := by
  induction l with
  | nil => simp [mx]
  | cons y l ih =>
    have h1 := ih (fun z hz => h z (by simp [hz]))
    have h2 := h y (by simp)
    simp only [mx]; omega
theorem mx_in {l : List Int} (h : ∀ z ∈ l, 1 ≤ z) (h0 : l ≠ []) : ((mx l : Nat) : Int) ∈ l := by
  induction l with
  | nil => exact absurd rfl h0
  | cons y l ih =>
    have hy := h y (by simp)
    by_cases e : l = []
    · subst e; simp only [mx]; rw [show ((max y.toNat 0 : Nat) : Int) = y by omega]; simp
    · have := ih (fun z hz => h z (by simp [hz])) e
      simp only [mx]
      rcases Nat.le_total (mx l) y.toNat with h1 | h1
      · rw [Nat.max_eq_left h1, show ((y.toNat : Nat) : Int) = y by omega]; simp
      · rw [Nat.max_eq_right h1]; exact List.mem_cons_of_mem _ this

def cnt (l : List Int) (k : Nat) : Int := (l.count ((k : Int) + 1) : Nat)
theorem cnt_snoc (l : List Int) (z : Int) (k : Nat) : cnt (l ++ [z]) k = cnt l k + if z = (k : Int) + 1 then 1 else 0 := by
  unfold cnt
  rw [List.count_append, List.count_singleton]
  by_cases h : z = (k : Int) + 1
  · rw [if_pos (by simp [h]), if_pos h]; simp
  · rw [if_neg (by simpa using h), if_neg h]; simp
theorem cnt_high {l : List Int} {k : Nat} (h : mx l ≤ k) : cnt l k = 0 := by
  unfold cnt
  rw [List.count_eq_zero.2 (fun hm => by have := mx_ge hm; omega)]; rfl
theorem cnt_bd (l : List Int) (k : Nat) : 0 ≤ cnt l k ∧ cnt l k ≤ l.length := by
  unfold cnt
  have := List.count_le_length (a := (k : Int) + 1) (l := l)
  omega
/-- The content. -/
def had (l : List Int) : List Int := tab (mx l) (cnt l)
theorem had_length (l : List Int) : (had l).length = mx l := tab_length _ _
theorem had_nil : had [] = [] := rfl
theorem tab_eq {n m : Nat} {f g : Nat → Int} (h : n = m) (h2 : ∀ j, j < n → f j = g j) : tab n f = tab m g := by subst h; exact tab_congr h2

end Go.Proofs.Ytheebpjkjclgbaa

namespace Go.Proofs.Ytheebpjkjclgbaa
open Go.RowKit

/-- What roomLeft answers. -/
def ptRoom : Int → List Int → Int
  | r, [] => r
  | r, n :: l => if r < n then -1 else ptRoom (r - n) l

theorem ptRoom_drop (r : Int) (zs : List Int) (k : Nat) (hk : k < zs.length) (z : Int) (hz : z = zs.getD k 0) : ptRoom r (zs.drop k) = if r < z then -1 else ptRoom (r - z) (zs.drop (k + 1)) := by
  have e : zs.drop k = z :: zs.drop (k + 1) := by
    rw [List.drop_eq_getElem_cons hk]; simp [hz, List.getD, List.getElem?_eq_getElem hk]
  rw [e, ptRoom]

theorem ptRoom_le (zs : List Int) : ∀ r : Int, (∀ z ∈ zs, 0 ≤ z) → -1 ≤ r → -1 ≤ ptRoom r zs ∧ ptRoom r zs ≤ r := by
  induction zs with
  | nil => intro r _ h; simp [ptRoom, h]
  | cons n l ih =>
    intro r hz h
    have h0 := hz n (by simp)
    rw [ptRoom]; split
    · omega
    · have := ih (r - n) (fun z hzz => hz z (by simp [hzz])) (by omega); omega

def ptStep (m d : Int) (zs : List Int) (j : Nat) : Prop := m ≤ zs.getD j 0 ∧ (0 < j → zs.getD j 0 + d ≤ zs.getD (j - 1) 0)
def PtGoes (m d : Int) (zs : List Int) : Prop := ∀ j, j < zs.length → ptStep m d zs j
def ptGoB (m d : Int) (zs : List Int) : Bool := (List.range zs.length).all fun j => decide (m ≤ zs.getD j 0) && (decide (j = 0) || decide (zs.getD j 0 + d ≤ zs.getD (j - 1) 0))

theorem ptGoB_iff {m d : Int} {zs : List Int} : ptGoB m d zs = true ↔ PtGoes m d zs := by
  unfold ptGoB PtGoes ptStep
  rw [List.all_eq_true]
  constructor
  · intro h j hj
    have := h j (List.mem_range.2 hj)
    simp only [Bool.and_eq_true, Bool.or_eq_true, decide_eq_true_eq] at this
    exact ⟨this.1, fun h0 => this.2.resolve_left (by omega)⟩
  · intro h j hj
    have := h j (List.mem_range.1 hj)
    simp only [Bool.and_eq_true, Bool.or_eq_true, decide_eq_true_eq]
    refine ⟨this.1, ?_⟩
    by_cases h0 : j = 0
    · exact Or.inl h0
    · exact Or.inr (this.2 (by omega))
theorem ptGoB_pos {m d : Int} {zs : List Int} (h : PtGoes m d zs) : ptGoB m d zs = true := ptGoB_iff.2 h
theorem ptGoB_neg {m d : Int} {zs : List Int} (h : ¬ PtGoes m d zs) : ptGoB m d zs = false := by
  cases e : ptGoB m d zs with
  | false => rfl
  | true => exact absurd (ptGoB_iff.1 e) h
/-- A partition of at most 40. -/
structure IsPt (zs : List Int) : Prop where
  goes : PtGoes 1 0 zs
  fits : 0 ≤ ptRoom 40 zs
  range : ∀ z ∈ zs, 1 ≤ z ∧ z ≤ 40
  len : zs.length ≤ 40
set_option maxHeartbeats 400000 in
theorem roomLeft_any (r : Int) (a : Option Addr) (cap : Nat) (zs : List Int) (w : World) (hs : Shows w a zs) (h0 : ∀ z ∈ zs, 0 ≤ z) (hr0 : -9223372036854775808 ≤ r) (hr : r ≤ 9223372036854775807) :
    Calls Try.prog 41 #[.int .i64 r, .slice a zs.length cap] w fun e w' => e = .returned (.int .i64 (ptRoom r zs)) ∧ w' = w := by
  have hl := hs.len
  go_enter Try.func41, Try.ntmps41
  go_wp2
  go_loop [0, 9] (fun q i => ∃ (k : Nat) (x : Int), k ≤ zs.length ∧ i = .int .i64 k ∧ q = .int .i64 x ∧ x ≤ r ∧ (x = r ∨ 0 ≤ x) ∧ ptRoom x (zs.drop k) = ptRoom r zs) (fun _ i => zs.length - (intOf i).toNat)
  case atStart => exact ⟨0, r, Nat.zero_le _, rfl, rfl, Int.le_refl _, Or.inl rfl, by simp⟩
  case round =>
    obtain ⟨k, x, hk, rfl, rfl, hxr, hx0, hroom⟩ := hrel
    have HR := show Hid (ptRoom x (zs.drop k) = ptRoom r zs) from hroom
    clear hroom
    by_cases hlt : k < zs.length
    · obtain ⟨b, off, z, rfl, HZ, hz1, hz2, hc⟩ := hs.elem hlt
      have hz0 : 0 ≤ z := h0 z (by rw [HZ.out]; simp [List.getD, List.getElem?_eq_getElem hlt])
      have HD : Hid (_ = _) := ptRoom_drop x zs k hlt z HZ.out
      by_cases hxz : x < z
      · go_wp2
        go_ret
        exact ⟨ret_int (by rw [← HR.out, HD.out, if_pos hxz]), rfl⟩
      · have hx0' : Hid (x = r ∨ 0 ≤ x) := hx0
        clear hx0
        have hx1 : -9223372036854775808 ≤ x := by rcases hx0'.out with h | h <;> omega
        go_wp2
        go_round
        case rel => exact ⟨k + 1, x - z, by omega, by go_num, by go_num, by omega, by omega, by rw [← HR.out, HD.out, if_neg hxz]⟩
        case measure => simp [intOf]; omega
    · go_wp2
      go_ret
      exact ⟨ret_int (by rw [← HR.out, List.drop_of_length_le (by omega), ptRoom]), rfl⟩

/-- What Check answers. -/
def ptC (zs : List Int) : Int := if ptGoB 1 0 zs = true then (if ptRoom 40 zs < 0 then 2 else 0) else 1

set_option maxHeartbeats 1000000 in
theorem PaCheck_any (a : Option Addr) (cap : Nat) (zs : List Int) (w : World) (hs : Shows w a zs) :
    Calls Try.prog 25 #[.slice a zs.length cap] w fun e w' => e = .returned (.int .i64 (ptC zs)) ∧ w' = w := by
  have hl := hs.len
  go_enter Try.func25, Try.ntmps25
  go_wp2
  go_loop [7] (fun i => ∃ k : Nat, k ≤ zs.length ∧ i = .int .i64 k ∧ Hid (∀ j, j < k → ptStep 1 0 zs j)) (fun i => zs.length - (intOf i).toNat)
  case atStart => exact ⟨0, Nat.zero_le _, rfl, fun j hj => by omega⟩
  case round =>
    obtain ⟨k, hk, rfl, HR⟩ := hrel
    by_cases hlt : k < zs.length
    · rcases Nat.eq_zero_or_pos k with rfl | hpos
      · obtain ⟨b, off, z, rfl, HZ, hz1, hz2, hc⟩ := hs.elem hlt
        rw [Nat.add_zero] at hc
        by_cases h1 : z < 1
        · go_wp2
          go_ret
          exact ⟨ret_int (by rw [ptC, ptGoB_neg (fun h => by have := (h 0 hlt).1; rw [← HZ.out] at this; omega)]; rfl), rfl⟩
        · go_wp2
          go_round
          case rel => exact ⟨1, by omega, by go_num, fun j hj => by obtain rfl : j = 0 := (by omega); exact ⟨by rw [← HZ.out]; omega, fun h => by omega⟩⟩
          case measure => simp [intOf]; omega
      · obtain ⟨m, rfl⟩ : ∃ m, k = m + 1 := ⟨k - 1, by omega⟩
        obtain ⟨b, off, z, y, rfl, HZ, HY, hz1, hz2, hy1, hy2, hc, hcy⟩ := hs.elem2 hlt (show m < zs.length by omega)
        by_cases h1 : z < 1
        · go_wp2
          go_ret
          exact ⟨ret_int (by rw [ptC, ptGoB_neg (fun h => by have := (h (m + 1) hlt).1; rw [← HZ.out] at this; omega)]; rfl), rfl⟩
        · by_cases h2 : y < z
          · go_wp2
            go_ret
            exact ⟨ret_int (by rw [ptC, ptGoB_neg (fun h => by have := (h (m + 1) hlt).2 (by omega); rw [← HZ.out, Nat.add_sub_cancel, ← HY.out] at this; omega)]; rfl), rfl⟩
          · go_wp2
            go_round
            case rel => exact ⟨m + 2, by omega, by go_num, fun j hj => by
                          by_cases hj' : j < m + 1
                          · exact HR.out j hj'
                          · obtain rfl : j = m + 1 := by omega
                            exact ⟨by rw [← HZ.out]; omega, fun h => by rw [← HZ.out, Nat.add_sub_cancel, ← HY.out]; omega⟩⟩
            case measure => simp [intOf]; omega
    · have hg : Hid (PtGoes 1 0 zs) := fun j hj => HR.out j (by omega)
      have h0 : Hid (∀ z ∈ zs, 0 ≤ z) := fun z hz => by
        obtain ⟨j, hj, rfl⟩ := List.getElem_of_mem hz
        have := (hg j hj).1
        simp [List.getD, List.getElem?_eq_getElem hj] at this
        omega
      have hrl := ptRoom_le zs 40 h0.out (by omega)
      by_cases hneg : ptRoom 40 zs < 0
      · go_wp2_with (go_at_call 41; refine (roomLeft_any _ _ _ _ _ hs h0.out (by omega) (by omega)).mono ?_; rintro e w' ⟨rfl, rfl⟩)
        go_ret
        exact ⟨ret_int (by rw [ptC, ptGoB_pos hg.out]; simp [hneg]), rfl⟩
      · go_wp2_with (go_at_call 41; refine (roomLeft_any _ _ _ _ _ hs h0.out (by omega) (by omega)).mono ?_; rintro e w' ⟨rfl, rfl⟩)
        go_ret
        exact ⟨ret_int (by rw [ptC, ptGoB_pos hg.out]; simp [hneg]), rfl⟩

/-- d more at each of the first k places. -/
def ptBump (k : Nat) (d : Int) (zs : List Int) : List Int := (zs.take k).map (· + d) ++ zs.drop k
theorem ptBump_zero (d : Int) (zs : List Int) : ptBump 0 d zs = zs := by simp [ptBump]
theorem ptBump_length (k : Nat) (d : Int) (zs : List Int) : (ptBump k d zs).length = zs.length := by simp [ptBump]; omega
theorem ptBump_getD (k : Nat) (d : Int) (zs : List Int) (j : Nat) (hj : j < zs.length) : (ptBump k d zs).getD j 0 = zs.getD j 0 + if j < k then d else 0 := by
  unfold ptBump
  by_cases h : j < k
  · rw [if_pos h]
    simp only [List.getD]
    rw [List.getElem?_append_left (by simp; omega)]
    simp [h, List.getElem?_eq_getElem hj]
  · rw [if_neg h]
    simp only [List.getD]
    rw [List.getElem?_append_right (by simp; omega)]
    simp only [List.length_map, List.length_take, List.getElem?_drop]
    rw [show k + (j - min k zs.length) = j by omega]; simp
theorem ptBump_succ (k : Nat) (d : Int) (zs : List Int) (hk : k < zs.length) : ptBump (k + 1) d zs = (ptBump k d zs).set k (zs.getD k 0 + d) := by
  refine ext_getD (by simp [ptBump_length]) (fun j hj => ?_)
  rw [ptBump_length] at hj
  rw [ptBump_getD _ _ _ _ hj, set_getD _ _ _ _ (by rw [ptBump_length]; exact hj), ptBump_getD _ _ _ _ hj]
  by_cases h1 : j = k
  · subst h1; simp
  · by_cases h2 : j < k
    · rw [if_pos (by omega), if_neg h1, if_pos h2]
    · rw [if_neg (by omega), if_neg h1, if_neg h2]

theorem ptBump_step {w : World} {base g cap n k : Nat} {d x : Int} {zs : List Int} (h : Owns w base (.slice (some ⟨g, 0, none⟩) n cap) (ptBump k d zs)) (hn : n = zs.length) (hk : k < zs.length) (hx : x = zs.getD k 0) :
    Owns (w.setCell ⟨g, k, none⟩ (.int .i64 (x + d))) base (.slice (some ⟨g, 0, none⟩) n cap) (ptBump (k + 1) d zs) := by
  rw [ptBump_succ k d zs hk, hx]
  exact h.store (by rw [ptBump_length]; exact hn) k _
def ptCol (zs : List Int) (j : Nat) : Int := ((zs.countP fun z => decide ((j : Int) < z) : Nat) : Int)
def ptConj (zs : List Int) : List Int := tab (zs.getD 0 0).toNat (ptCol zs)
theorem ptCol_nonneg (zs : List Int) (j : Nat) : 0 ≤ ptCol zs j := by unfold ptCol; omega
theorem ptCol_le (zs : List Int) (j : Nat) : ptCol zs j ≤ zs.length := by
  unfold ptCol; have := List.countP_le_length (p := fun z => decide ((j : Int) < z)) (l := zs); omega
theorem ptCol_snoc (zs : List Int) (z : Int) (j : Nat) : ptCol (zs ++ [z]) j = ptCol zs j + if (j : Int) < z then 1 else 0 := by
  unfold ptCol
  rw [List.countP_append]
  by_cases h : (j : Int) < z <;> simp [h]
theorem ptRow_step (n : Nat) (zs : List Int) (z : Int) (hz0 : 0 ≤ z) : ptBump z.toNat 1 (tab n (ptCol zs)) = tab n (ptCol (zs ++ [z])) := by
  refine ext_getD (by simp [ptBump_length, tab_length]) (fun j hj => ?_)
  rw [ptBump_length, tab_length] at hj
  rw [ptBump_getD _ _ _ _ (by rw [tab_length]; exact hj), tab_getD _ _ _ hj, tab_getD _ _ _ hj, ptCol_snoc]
  by_cases h : (j : Int) < z
  · rw [if_pos (by omega), if_pos h]
  · rw [if_neg (by omega), if_neg h]

theorem IsPt.first {zs : List Int} (h : IsPt zs) {k : Nat} (hk : k < zs.length) : zs.getD k 0 ≤ zs.getD 0 0 := by
  have : ∀ n, n < zs.length → zs.getD n 0 ≤ zs.getD 0 0 := by
    intro n
    induction n with
    | zero => intro _; exact Int.le_refl _
    | succ n ih =>
      intro hn
      have h1 := ih (by omega)
      have h2 := (h.goes (n + 1) hn).2 (by omega)
      rw [Nat.add_sub_cancel] at h2; omega
  exact this k hk
set_option maxHeartbeats 2000000 in
theorem columns_any (a : Option Addr) (cap : Nat) (zs : List Int) (w : World) (hs : Shows w a zs) (hp : IsPt zs) :
    Calls Try.prog 45 #[.slice a zs.length cap] w fun e w' => ∃ v, e = .returned v ∧ Owns w' w.heap.size v (ptConj zs) ∧ Below w.heap.size w w' := by
  have hl := hp.len
  by_cases hne : 0 < zs.length
  · obtain ⟨i0, hi, hz0, hz1, hz2⟩ := info_parts Try.info3
    obtain ⟨b, off, x, rfl, HX, -, -, hc⟩ := hs.elem hne
    rw [Nat.add_zero] at hc
    have hx : 1 ≤ x ∧ x ≤ 40 := by rw [HX.out]; exact hp.range _ (getD_mem hne)
    obtain ⟨n, rfl⟩ : ∃ n : Nat, x = n := ⟨x.toNat, by omega⟩
    have hn1 : 1 ≤ n := by omega
    have hn2 : n ≤ 40 := by omega
    have hb0 : ((zs.length : Int) == 0) = false := beq_eq_false_iff_ne.2 (by omega)
    have hpos : (0 : Int) < (zs.length : Int) := by omega
    clear hx
    go_enter Try.func45, Try.ntmps45
    go_wp2_with (at_make; refine wpList_make_full _ rfl _ _ 22 rfl w.heap.size 3 i0 (.int .i64 0) 1 Try.underlying22 hi hz0 hz1 _ _ _ _ n rfl rfl rfl rfl ?b1 ?b2 ?b3 ?_)
    case b1 => rw [hz2]; omega
    case b2 => unfold maxLen; omega
    case b3 => exact Nat.le_refl _
    intro w1 hown hgrow
    have HB1 : Hid (Below w.heap.size w w1) := (Below.refl _ _).grown hgrow (Nat.le_refl _) (fun k h => by cases h)
    have HO1 : Hid (Owns w1 w.heap.size (.slice (some ⟨w.heap.size, 0, none⟩) n n) (tab n (ptCol []))) := by
      show Owns _ _ _ _
      unfold Owns
      rw [tab_length]
      have e : (tab n (ptCol [])).map (Value.int .i64) = (madeCells #[Value.int .i64 0] n).toList := by
        rw [toList_madeCells_one]
        simp only [tab, List.map_map]
        rw [List.eq_replicate_iff]
        refine ⟨by simp, fun v hv => ?_⟩
        obtain ⟨j, _, rfl⟩ := List.mem_map.1 hv
        rfl
      rw [e]; exact hown
    clear hown hgrow
    go_wp2
    go_loopw [16] (fun i wr => ∃ k : Nat, k ≤ zs.length ∧ i = .int .i64 k ∧ Hid (Owns wr w.heap.size (.slice (some ⟨w.heap.size, 0, none⟩) n n) (tab n (ptCol (zs.take k)))) ∧ Hid (Below w.heap.size w wr)) (fun i _ => zs.length - (intOf i).toNat)
    case atStart => exact ⟨0, Nat.zero_le _, rfl, HO1, HB1⟩
    case round =>
      obtain ⟨k, hk, rfl, HK, HBk⟩ := hrel
      by_cases hlt : k < zs.length
      · obtain ⟨b', off', z, hbo, HZ, -, -, hcz⟩ := (hs.below HBk.out).elem hlt
        simp only [Option.some.injEq, Addr.mk.injEq, and_true] at hbo
        obtain ⟨rfl, rfl⟩ := hbo
        have hz : 1 ≤ z ∧ z ≤ n := by
          rw [HZ.out, HX.out]; exact ⟨(hp.range _ (getD_mem hlt)).1, hp.first hlt⟩
        obtain ⟨hz3, hz4⟩ := hz
        go_wp2
        go_loopw [21] (fun i wq => ∃ m : Nat, (m : Int) ≤ z ∧ i = .int .i64 m ∧ Hid (Owns wq w.heap.size (.slice (some ⟨w.heap.size, 0, none⟩) n n) (ptBump m 1 (tab n (ptCol (zs.take k))))) ∧ Hid (Below w.heap.size w wq)) (fun i _ => (z - intOf i).toNat)
        case atStart => exact ⟨0, by omega, rfl, by rw [ptBump_zero]; exact HK, HBk⟩
        case round =>
          obtain ⟨m, hm, rfl, HM, HBm⟩ := hrel
          by_cases hml : (m : Int) < z
          · have hmn : m < (tab n (ptCol (zs.take k))).length := by rw [tab_length]; omega
            obtain ⟨-, hfz, hcl⟩ := HM.out.at (by rw [ptBump_length, tab_length])
            have hck := hcl m (by rw [ptBump_length]; exact hmn)
            rw [ptBump_getD _ _ _ _ hmn, if_neg (Nat.lt_irrefl _), Int.add_zero] at hck
            obtain ⟨y, HY⟩ : ∃ y, Hid (y = (tab n (ptCol (zs.take k))).getD m 0) := ⟨_, rfl⟩
            rw [← HY.out] at hck
            have hy0 : 0 ≤ y ∧ y ≤ 40 := by
              rw [HY.out, tab_getD _ _ _ (by omega)]
              have h1 := ptCol_le (zs.take k) m
              have h2 := ptCol_nonneg (zs.take k) m
              rw [List.length_take] at h1; omega
            obtain ⟨hy1, hy2⟩ := hy0
            have hfk := hfz m
            have HS' : Hid _ := ptBump_step HM.out (by rw [tab_length]) hmn HY.out
            have hmn' : m < n := by omega
            clear hcl hfz
            go_wp2
            go_roundw
            case rel => exact ⟨m + 1, by omega, by go_num, HS', HBm.out.setCell (Nat.le_refl _) _⟩
            case measure => simp [intOf]; omega
          · obtain rfl : z = m := by omega
            have HS : Hid (Owns wr w.heap.size (.slice (some ⟨w.heap.size, 0, none⟩) n n) (tab n (ptCol (zs.take (k + 1))))) := by
              show Owns _ _ _ _
              rw [take_snoc zs k hlt, ← HZ.out, ← ptRow_step n _ _ (by omega), Int.toNat_natCast]
              exact HM.out
            go_wp2
            go_roundw
            case rel => exact ⟨k + 1, by omega, by go_num, HS, HBm⟩
            case measure => simp [intOf]; omega
      · obtain rfl : k = zs.length := by omega
        rw [List.take_length] at HK
        go_wp2
        go_ret
        refine ⟨_, rfl, ?_, HBk.out⟩
        unfold ptConj
        rw [← HX.out, Int.toNat_natCast]; exact HK.out
  · obtain rfl : zs = [] := List.eq_nil_of_length_eq_zero (by omega)
    simp only [List.length_nil]
    go_enter Try.func45, Try.ntmps45
    go_wp2
    go_ret
    exact ⟨_, rfl, World.ownsRow_nil _ _ _ _, Below.refl _ _⟩

set_option maxHeartbeats 1000000 in
theorem Conjugate_ok (a : Option Addr) (n cap : Nat) (zs : List Int) (w : World) (hs : Shows w a zs) (hn : n = zs.length) (hp : IsPt zs) :
    Calls Try.prog 35 #[.slice a n cap] w fun e w' => ∃ v, e = .returned (.tuple #[v, .int .i64 0]) ∧ Owns w' w.heap.size v (ptConj zs) ∧ Below w.heap.size w w' := by
  subst hn
  have HS : Hid (Shows w a zs) := hs
  have HP : Hid (IsPt zs) := hp
  have HC : Hid (ptC zs = 0) := by show _ = _; unfold ptC; rw [if_pos (ptGoB_pos hp.goes), if_neg (by have := hp.fits; omega)]
  clear hs hp
  go_enter Try.func35, Try.ntmps35
  go_wp2_with fail
  refine (PaCheck_any a cap zs w HS.out).mono ?_
  rintro e w1 ⟨rfl, hw1⟩
  obtain rfl : w = w1 := hw1.symm
  clear hw1
  rw [HC.out]
  go_wp2_with fail
  refine (columns_any a cap zs w HS.out HP.out).mono ?_
  rintro e w2 ⟨v, rfl, hO, hb⟩
  have HO : Hid (Owns w2 w.heap.size v (ptConj zs)) := hO
  have HB : Hid (Below w.heap.size w w2) := hb
  clear hO hb
  go_wp2
  go_ret2
  exact ⟨_, rfl, HO.out, HB.out⟩

end Go.Proofs.Ytheebpjkjclgbaa
