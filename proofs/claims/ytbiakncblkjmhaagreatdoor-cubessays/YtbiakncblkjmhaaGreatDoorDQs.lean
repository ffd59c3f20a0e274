/-
  A quotient of products, lowered factor by factor.
  Sums of the first n values of a function; permutations as lists of numbers: plain facts.
  Rows and boxes of tables: plain facts (split off LMath).
  Tableaux as lists of rows: plain facts.
  Piles of cubes: plain mathematics. A pile as a function of row and column; turned, mirrored, the rest, its edges and back.
  Sums, products and determinants of whole numbers, as functions of their places.
  Products of differences: by determinants, and by what lies between.
  Hooks: what they come to, times all differences.
  Right fillings as the search finds them: plain.
  How many there can be: plain.
  Right fillings letter by letter: tables, words and what stays of them: plain.
  All tableaux with letters up to M, letter by letter: as many as the numbers between tell.
  Just the tableaux with letters up to M are listed, each once.
  All piles of a room, place by place: plain mathematics. They are as many as the tableaux of a rectangle (MACMAHON, by STANLEY'S formula).
  MACMAHON: as many piles as the product tells.
  MACMAHON'S number however the room lies; piles of few cubes.
  Fractions in lowest terms; MACMAHON'S product of them, cube by cube: plain.
  All piles of a room, row by row, are all piles place by place: plain.
  The numbers of piles by their cubes, by sums of squares of divisors: plain; both ways agree up to 60 cubes (by the kernel).
-/
import Derived.Test.YtbiakncblkjmhaaGreatDoorBOwn
namespace Go.Proofs.YtbiakncblkjmhaaGreatDoor

def pL : List Nat → Nat
  | [] => 1
  | a :: l => a * pL l
theorem pL_app (l m : List Nat) : pL (l ++ m) = pL l * pL m := by
  induction l with
  | nil => simp [pL]
  | cons a l ih => rw [List.cons_append, pL, pL, ih, Nat.mul_assoc]
theorem pL_pos {l : List Nat} (h : ∀ a ∈ l, 0 < a) : 0 < pL l := by
  induction l with
  | nil => exact Nat.one_pos
  | cons a l ih => exact Nat.mul_pos (h a (by simp)) (ih fun b hb => h b (by simp [hb]))
/-- What d has in common with the numbers, one behind the other, is taken out of both. -/
def lwd : Nat → List Nat → List Nat × Nat
  | d, [] => ([], d)
  | d, f :: l => (f / Nat.gcd f d :: (lwd (d / Nat.gcd f d) l).1, (lwd (d / Nat.gcd f d) l).2)
theorem lwd_dvd : ∀ (l : List Nat) (d : Nat), (lwd d l).2 ∣ d
  | [], d => Nat.dvd_refl _
  | f :: l, d => by rw [lwd]; exact Nat.dvd_trans (lwd_dvd l _) (Nat.div_dvd_of_dvd (Nat.gcd_dvd_right f d))
theorem lwd_pos : ∀ (l : List Nat) (d : Nat), 0 < d → 0 < (lwd d l).2 := fun l _ h => Nat.pos_of_dvd_of_pos (lwd_dvd l _) h
theorem lwd_len : ∀ (l : List Nat) (d : Nat), (lwd d l).1.length = l.length
  | [], _ => rfl
  | f :: l, d => by rw [lwd, List.length_cons, List.length_cons, lwd_len l]
theorem lwd_prod : ∀ (l : List Nat) (d : Nat), 0 < d → pL (lwd d l).1 * d = pL l * (lwd d l).2
  | [], d, _ => by simp [pL, lwd]
  | f :: l, d, h => by
    have hg : 0 < Nat.gcd f d := Nat.gcd_pos_of_pos_right _ h
    have h1 := Nat.div_mul_cancel (Nat.gcd_dvd_left f d)
    have h2 := Nat.div_mul_cancel (Nat.gcd_dvd_right f d)
    have ih := lwd_prod l (d / Nat.gcd f d) (Nat.div_pos (Nat.le_of_dvd h (Nat.gcd_dvd_right f d)) hg)
    rw [lwd]
    show (f / Nat.gcd f d) * pL (lwd (d / Nat.gcd f d) l).1 * d = f * pL l * (lwd (d / Nat.gcd f d) l).2
    generalize hG : Nat.gcd f d = g at *
    calc f / g * pL (lwd (d / g) l).1 * d = f / g * pL (lwd (d / g) l).1 * (d / g * g) := by rw [h2]
      _ = (f / g * g) * (pL (lwd (d / g) l).1 * (d / g)) := by ac_rfl
      _ = f * pL l * (lwd (d / g) l).2 := by rw [h1, ih]; ac_rfl
theorem lwd_cop : ∀ (l : List Nat) (d : Nat), 0 < d → ∀ f ∈ (lwd d l).1, Nat.Coprime f (lwd d l).2
  | [], _, _, f, hf => by cases hf
  | a :: l, d, h, f, hf => by
    have hg : 0 < Nat.gcd a d := Nat.gcd_pos_of_pos_right _ h
    rw [lwd] at hf ⊢
    rcases List.mem_cons.1 hf with rfl | hf
    · exact Nat.Coprime.coprime_dvd_right (lwd_dvd l _) (Nat.coprime_div_gcd_div_gcd hg)
    · exact lwd_cop l _ (Nat.div_pos (Nat.le_of_dvd h (Nat.gcd_dvd_right a d)) hg) f hf
theorem cop_one : ∀ (l : List Nat) (d : Nat), (∀ f ∈ l, Nat.Coprime f d) → d ∣ pL l → d = 1
  | [], d, _, h => Nat.dvd_one.1 h
  | f :: l, d, h1, h2 => by
    refine cop_one l d (fun g hg => h1 g (by simp [hg])) ?_
    exact Nat.Coprime.dvd_of_dvd_mul_left (h1 f (by simp)).symm h2
/-- Where nothing is left over, it goes whole. -/
theorem lwd_exact {l : List Nat} {d R : Nat} (h : 0 < d) (hR : d * R ∣ pL l) : pL (lwd d l).1 * d = pL l ∧ R ∣ pL (lwd d l).1 := by
  have h1 := lwd_prod l d h
  have h2 := lwd_dvd l d
  obtain ⟨r, hr⟩ := h2
  have hp := lwd_pos l d h
  have h3 : pL (lwd d l).1 * r = pL l := by
    refine Nat.eq_of_mul_eq_mul_right hp ?_
    rw [← h1, Nat.mul_assoc, Nat.mul_comm r, ← hr]
  have hr0 : 0 < r := Nat.pos_of_ne_zero fun e => by rw [e, Nat.mul_zero] at hr; omega
  have h4 : (lwd d l).2 * R ∣ pL (lwd d l).1 := by
    rw [← h3] at hR
    refine Nat.dvd_of_mul_dvd_mul_right hr0 ?_
    rw [show (lwd d l).2 * R * r = (lwd d l).2 * r * R by ac_rfl, ← hr]
    exact hR
  have e := cop_one _ _ (lwd_cop l d h) (Nat.dvd_trans ⟨R, rfl⟩ h4)
  rw [e, Nat.mul_one] at h1
  refine ⟨h1, ?_⟩
  rw [e, Nat.one_mul] at h4
  exact h4
def lows : List Nat → List Nat → List Nat
  | [], l => l
  | d :: ds, l => lows ds (lwd d l).1
theorem lows_prod : ∀ (ds l : List Nat), (∀ d ∈ ds, 0 < d) → pL ds ∣ pL l → pL (lows ds l) * pL ds = pL l
  | [], l, _, _ => by simp [lows, pL]
  | d :: ds, l, h, hd => by
    obtain ⟨h1, h2⟩ := lwd_exact (h d (by simp)) hd
    have ih := lows_prod ds (lwd d l).1 (fun e he => h e (by simp [he])) h2
    rw [lows, pL, ← h1, ← ih]
    ac_rfl
theorem lwd_le : ∀ (l : List Nat) (d b : Nat), (∀ f ∈ l, f ≤ b) → ∀ f ∈ (lwd d l).1, f ≤ b
  | [], _, _, _, f, hf => by cases hf
  | a :: l, d, b, h, f, hf => by
    rw [lwd] at hf
    rcases List.mem_cons.1 hf with rfl | hf
    · exact Nat.le_trans (Nat.div_le_self _ _) (h a (by simp))
    · exact lwd_le l _ b (fun g hg => h g (by simp [hg])) f hf
theorem lows_le : ∀ (ds l : List Nat) (b : Nat), (∀ f ∈ l, f ≤ b) → ∀ f ∈ lows ds l, f ≤ b
  | [], _, _, h => h
  | d :: ds, l, b, h => lows_le ds _ b (lwd_le l d b h)
theorem lows_len : ∀ (ds l : List Nat), (lows ds l).length = l.length
  | [], _ => rfl
  | d :: ds, l => by rw [lows, lows_len ds, lwd_len]
/-- The first k done. -/
theorem lwd_app : ∀ (l m : List Nat) (d : Nat), lwd d (l ++ m) = ((lwd d l).1 ++ (lwd (lwd d l).2 m).1, (lwd (lwd d l).2 m).2)
  | [], _, _ => rfl
  | f :: l, m, d => by rw [List.cons_append, lwd, lwd_app l m]; rfl
theorem lows_app : ∀ (ds es l : List Nat), lows (ds ++ es) l = lows es (lows ds l)
  | [], _, _ => rfl
  | _ :: ds, es, _ => lows_app ds es _

end Go.Proofs.YtbiakncblkjmhaaGreatDoor

namespace Go.Proofs.YtbiakncblkjmhaaGreatDoor

/-- f 0 + .. + f (n - 1). -/
def S : Nat → (Nat → Nat) → Nat
  | 0, _ => 0
  | n + 1, f => S n f + f n

theorem S_congr : ∀ {n : Nat} {f g : Nat → Nat}, (∀ i, i < n → f i = g i) → S n f = S n g := by
  intro n
  induction n with
  | zero => intro _ _ _; rfl
  | succ n ih => intro f g h; rw [S, S, ih (fun i hi => h i (by omega)), h n (by omega)]
theorem S_add : ∀ (n : Nat) (f g : Nat → Nat), S n (fun i => f i + g i) = S n f + S n g := by
  intro n
  induction n with
  | zero => intro _ _; rfl
  | succ n ih => intro f g; simp only [S, ih]; omega
theorem S_zero : ∀ (n : Nat), S n (fun _ => 0) = 0 := by
  intro n; induction n with
  | zero => rfl
  | succ n ih => rw [S, ih]
theorem S_one : ∀ (n : Nat), S n (fun _ => 1) = n := by
  intro n; induction n with
  | zero => rfl
  | succ n ih => rw [S, ih]
theorem S_swap : ∀ (n m : Nat) (f : Nat → Nat → Nat), S n (fun i => S m (fun j => f i j)) = S m (fun j => S n (fun i => f i j)) := by
  intro n
  induction n with
  | zero => intro m f; simp only [S]; rw [S_zero]
  | succ n ih => intro m f; simp only [S, S_add, ih]
theorem S_le : ∀ {n : Nat} {f g : Nat → Nat}, (∀ i, i < n → f i ≤ g i) → S n f ≤ S n g := by
  intro n
  induction n with
  | zero => intro _ _ _; exact Nat.le_refl _
  | succ n ih => intro f g h; have := ih (fun i hi => h i (by omega)); have := h n (by omega); simp only [S]; omega

/-- 1 where it is so, else 0. -/
def ind (p : Prop) [Decidable p] : Nat := if p then 1 else 0
theorem ind_pos {p : Prop} [Decidable p] (h : p) : ind p = 1 := if_pos h
theorem ind_neg {p : Prop} [Decidable p] (h : ¬ p) : ind p = 0 := if_neg h
theorem ind_le (p : Prop) [Decidable p] : ind p ≤ 1 := by unfold ind; split <;> omega
theorem ind_iff {p q : Prop} [Decidable p] [Decidable q] (h : p ↔ q) : ind p = ind q := by
  by_cases hp : p
  · rw [ind_pos hp, ind_pos (h.1 hp)]
  · rw [ind_neg hp, ind_neg (fun hq => hp (h.2 hq))]

theorem S_none {n : Nat} {p : Nat → Prop} [DecidablePred p] (h : ∀ i, i < n → ¬ p i) : S n (fun i => ind (p i)) = 0 := by
  rw [S_congr (g := fun _ => 0) (fun i hi => ind_neg (h i hi)), S_zero]
/-- Just one place has it. -/
theorem S_just : ∀ {n k : Nat} {p : Nat → Prop} [DecidablePred p], k < n → p k → (∀ i, i < n → p i → i = k) → S n (fun i => ind (p i)) = 1 := by
  intro n
  induction n with
  | zero => intro k p _ h; omega
  | succ n ih =>
    intro k p _ hk hp hu
    rw [S]
    by_cases e : k = n
    · subst e
      rw [S_none (fun i hi hpi => by have := hu i (by omega) hpi; omega), ind_pos hp]
    · rw [ih (by omega) hp (fun i hi => hu i (by omega)), ind_neg (fun h => e (hu n (by omega) h).symm)]

theorem S_below {n i : Nat} (h : i ≤ n) : S n (fun t => ind (t < i)) = i := by
  induction n with
  | zero => simp [S]; omega
  | succ n ih =>
    rw [S]
    by_cases e : i = n + 1
    · subst e
      rw [S_congr (g := fun _ => 1) (fun t ht => ind_pos (by omega)), S_one, ind_pos (by omega)]
    · rw [ih (by omega), ind_neg (by omega)]; rfl

/-- A sum up to n of what is 0 from k on. -/
theorem S_cut : ∀ {n k : Nat} {f : Nat → Nat}, k ≤ n → (∀ i, k ≤ i → i < n → f i = 0) → S n f = S k f := by
  intro n
  induction n with
  | zero => intro k f h _; have : k = 0 := by omega
            subst this; rfl
  | succ n ih =>
    intro k f h h0
    by_cases e : k = n + 1
    · subst e; rfl
    · rw [S, ih (by omega) (fun i h1 h2 => h0 i h1 (by omega)), h0 n (by omega) (by omega)]; omega

/-- A count over a list, as a sum over its places. -/
theorem count_S : ∀ (l : List Int) (p : Int → Bool) (i : Nat), i ≤ l.length → (l.take i).countP p = S i (fun j => ind (p (l.getD j 0) = true)) := by
  intro l p i
  induction i with
  | zero => intro _; simp [S]
  | succ i ih =>
    intro h
    have e : l.take (i + 1) = l.take i ++ [l.getD i 0] := by
      rw [List.take_add_one, List.getD_eq_getElem?_getD, List.getElem?_eq_getElem (by omega)]; rfl
    rw [e, List.countP_append, ih (by omega), S, List.countP_cons]
    simp [ind]

/-- A permutation: the numbers 1 to n, each once; at most 40. -/
structure IsPerm (zs : List Int) : Prop where
  len : zs.length ≤ 40
  low : ∀ z ∈ zs, 1 ≤ z
  high : ∀ z ∈ zs, z ≤ zs.length
  once : zs.Nodup

theorem pmem {l : List Int} {j : Nat} (h : j < l.length) : l.getD j 0 ∈ l := by
  rw [List.getD_eq_getElem?_getD, List.getElem?_eq_getElem h]; simp

theorem IsPerm.bounds {zs : List Int} (h : IsPerm zs) {j : Nat} (hj : j < zs.length) : 1 ≤ zs.getD j 0 ∧ zs.getD j 0 ≤ zs.length := ⟨h.low _ (pmem hj), h.high _ (pmem hj)⟩

theorem nodup_inj {l : List Int} (h : l.Nodup) {i j : Nat} (hi : i < l.length) (hj : j < l.length) (e : l.getD i 0 = l.getD j 0) : i = j := by
  rw [List.getD_eq_getElem?_getD, List.getD_eq_getElem?_getD, List.getElem?_eq_getElem hi, List.getElem?_eq_getElem hj] at e
  have hp := List.pairwise_iff_getElem.1 h
  simp only [Option.getD_some] at e
  rcases Nat.lt_trichotomy i j with hl | he | hl
  · exact absurd e (hp i j hi hj hl)
  · exact he
  · exact absurd e.symm (hp j i hj hi hl)

theorem IsPerm.inj {zs : List Int} (h : IsPerm zs) {i j : Nat} (hi : i < zs.length) (hj : j < zs.length) (e : zs.getD i 0 = zs.getD j 0) : i = j := nodup_inj h.once hi hj e

/-- How often the numbers 1 to n stand in a list of such: as many as it is long. -/
theorem S_counts (n : Nat) : ∀ (l : List Int), (∀ z ∈ l, 1 ≤ z ∧ z ≤ n) → S n (fun v => l.countP (fun z => decide (z = (v : Int) + 1))) = l.length := by
  intro l
  induction l with
  | nil => intro _; exact S_zero n
  | cons y l ih =>
    intro h
    have hy := h y (by simp)
    have e : ∀ v, v < n → (y :: l).countP (fun z => decide (z = (v : Int) + 1)) = l.countP (fun z => decide (z = (v : Int) + 1)) + ind (y = (v : Int) + 1) := by
      intro v _; rw [List.countP_cons]; simp [ind]
    rw [S_congr e, S_add, ih (fun z hz => h z (by simp [hz])), S_just (k := (y - 1).toNat) (by omega) (by omega) (fun i _ hi => by omega)]
    rfl

theorem nodup_count {l : List Int} (h : l.Nodup) (a : Int) : l.countP (fun z => decide (z = a)) ≤ 1 := by
  induction l with
  | nil => simp
  | cons y l ih =>
    rw [List.nodup_cons] at h
    rw [List.countP_cons]
    by_cases e : y = a
    · subst e
      have : l.countP (fun z => decide (z = y)) = 0 := by
        rw [List.countP_eq_zero]; intro z hz; simp; intro e; subst e; exact h.1 hz
      simp [this]
    · have := ih h.2; simp [e, this]

/-- Pigeons: a list of n different numbers from 1 to n has them all. -/
theorem IsPerm.all {zs : List Int} (h : IsPerm zs) {v : Int} (h1 : 1 ≤ v) (h2 : v ≤ zs.length) : v ∈ zs := by
  have hs := S_counts zs.length zs (fun z hz => ⟨h.low z hz, h.high z hz⟩)
  have hle : ∀ n, n ≤ zs.length → S n (fun v => zs.countP (fun z => decide (z = (v : Int) + 1))) ≤ n := by
    intro n _
    have := S_le (n := n) (f := fun v => zs.countP (fun z => decide (z = (v : Int) + 1))) (g := fun _ => 1) (fun i _ => nodup_count h.once _)
    rw [S_one] at this; exact this
  have key : ∀ n, n ≤ zs.length → ∀ m, m ≤ n → S n (fun v => zs.countP (fun z => decide (z = (v : Int) + 1))) ≤ S m (fun v => zs.countP (fun z => decide (z = (v : Int) + 1))) + (n - m) := by
    intro n hn
    induction n with
    | zero => intro m hm; have : m = 0 := by omega
              subst this; simp
    | succ n ih =>
      intro m hm
      by_cases e : m = n + 1
      · subst e; simp
      · have := ih (by omega) m (by omega)
        have := nodup_count h.once ((n : Int) + 1)
        simp only [S]; omega
  obtain ⟨k, hk⟩ : ∃ k : Nat, v = (k : Int) + 1 := ⟨(v - 1).toNat, by omega⟩
  have hk1 : k + 1 ≤ zs.length := by omega
  have h3 := key zs.length (Nat.le_refl _) (k + 1) hk1
  have h4 := hle k (by omega)
  have h5 : S (k + 1) (fun v => zs.countP (fun z => decide (z = (v : Int) + 1))) = S k (fun v => zs.countP (fun z => decide (z = (v : Int) + 1))) + zs.countP (fun z => decide (z = (k : Int) + 1)) := rfl
  have h6 : 0 < zs.countP (fun z => decide (z = (k : Int) + 1)) := by omega
  obtain ⟨z, hz, hz2⟩ := List.countP_pos_iff.1 h6
  have : z = v := by rw [hk]; simpa using hz2
  rw [← this]; exact hz

theorem IsPerm.place {zs : List Int} (h : IsPerm zs) {v : Nat} (hv : v < zs.length) : ∃ j, j < zs.length ∧ zs.getD j 0 = (v : Int) + 1 := by
  obtain ⟨j, hj, he⟩ := List.mem_iff_getElem.1 (h.all (v := (v : Int) + 1) (by omega) (by omega))
  exact ⟨j, hj, by rw [List.getD_eq_getElem?_getD, List.getElem?_eq_getElem hj, he]; rfl⟩

/-- What Check says. -/
def okPerm (zs : List Int) : Bool := decide ((∀ z ∈ zs, 1 ≤ z ∧ z ≤ zs.length) ∧ zs.Nodup)
def pchk (zs : List Int) : Int := if 40 < zs.length then 2 else if okPerm zs = true then 0 else 1

theorem pchk_ok {zs : List Int} : pchk zs = 0 ↔ IsPerm zs := by
  unfold pchk okPerm
  constructor
  · intro h
    by_cases h1 : 40 < zs.length
    · rw [if_pos h1] at h; omega
    · rw [if_neg h1] at h
      split at h
      · rename_i h2
        simp only [decide_eq_true_eq] at h2
        exact ⟨by omega, fun z hz => (h2.1 z hz).1, fun z hz => (h2.1 z hz).2, h2.2⟩
      · omega
  · intro h
    have := h.len
    rw [if_neg (by omega), if_pos (by simp only [decide_eq_true_eq]; exact ⟨fun z hz => ⟨h.low z hz, h.high z hz⟩, h.once⟩)]

end Go.Proofs.YtbiakncblkjmhaaGreatDoor

namespace Go.Proofs.YtbiakncblkjmhaaGreatDoor

/-- The row a, the box (a, b). -/
def row (ls : List (List Int)) (a : Nat) : List Int := ls.getD a []
def box (ls : List (List Int)) (a b : Nat) : Int := (row ls a).getD b 0
theorem row_mem {ls : List (List Int)} {a : Nat} (h : a < ls.length) : row ls a ∈ ls := by simp [row, List.getD, List.getElem?_eq_getElem h]
theorem mem_row {ls : List (List Int)} {r : List Int} (h : r ∈ ls) : ∃ a, a < ls.length ∧ row ls a = r := by
  obtain ⟨a, ha, rfl⟩ := List.mem_iff_getElem.1 h
  exact ⟨a, ha, by simp [row, List.getD, List.getElem?_eq_getElem ha]⟩
theorem row_out {ls : List (List Int)} {a : Nat} (h : ls.length ≤ a) : row ls a = [] := by simp [row, List.getD, List.getElem?_eq_none h]
theorem ext_row {ls ms : List (List Int)} (hl : ls.length = ms.length) (h : ∀ a, a < ls.length → row ls a = row ms a) : ls = ms := by
  refine List.ext_getElem hl (fun j h1 h2 => ?_)
  simpa [row, List.getD, List.getElem?_eq_getElem h1, List.getElem?_eq_getElem h2] using h j h1

end Go.Proofs.YtbiakncblkjmhaaGreatDoor

namespace Go.Proofs.YtbiakncblkjmhaaGreatDoor

/-- The row ahead of row a: none ahead of the first. -/
def upOf (ls : List (List Int)) (a : Nat) : List Int := if a = 0 then [] else row ls (a - 1)


/-- Along the row letters, none less than the one ahead. -/
def risesB (r : List Int) : Bool := (List.range r.length).all fun j => decide (1 ≤ r.getD j 0) && decide (r.getD j 0 ≤ 99) && (decide (j = 0) || decide (r.getD (j - 1) 0 ≤ r.getD j 0))
/-- Each letter, where the row above has one, is above that one. -/
def underB (r up : List Int) : Bool := (List.range (min r.length up.length)).all fun j => decide (up.getD j 0 < r.getD j 0)
def rowB (i : Nat) (up r : List Int) : Bool := decide (0 < r.length) && (decide (i = 0) || decide (r.length ≤ up.length)) && risesB r && underB r up
def okTab (ls : List (List Int)) : Bool := (List.range ls.length).all fun i => rowB i (upOf ls i) (row ls i)
/-- What Check says. -/
def tchk (ls : List (List Int)) : Int := if 40 < ls.flatten.length then 2 else if okTab ls = true then 0 else 1

theorem risesB_iff {r : List Int} : risesB r = true ↔ ∀ j, j < r.length → 1 ≤ r.getD j 0 ∧ r.getD j 0 ≤ 99 ∧ (0 < j → r.getD (j - 1) 0 ≤ r.getD j 0) := by
  simp only [risesB, List.all_eq_true, List.mem_range, Bool.and_eq_true, Bool.or_eq_true, decide_eq_true_eq]
  constructor
  · intro h j hj
    obtain ⟨⟨h1, h2⟩, h3⟩ := h j hj
    exact ⟨h1, h2, fun h0 => by rcases h3 with h3 | h3; omega; exact h3⟩
  · intro h j hj
    obtain ⟨h1, h2, h3⟩ := h j hj
    refine ⟨⟨h1, h2⟩, ?_⟩
    rcases Nat.eq_zero_or_pos j with h0 | h0
    · exact Or.inl h0
    · exact Or.inr (h3 h0)
theorem underB_iff {r up : List Int} : underB r up = true ↔ ∀ j, j < r.length → j < up.length → up.getD j 0 < r.getD j 0 := by
  simp only [underB, List.all_eq_true, List.mem_range, decide_eq_true_eq]
  exact ⟨fun h j h1 h2 => h j (by omega), fun h j hj => h j (by omega) (by omega)⟩

structure RowOk (i : Nat) (up r : List Int) : Prop where
  one : 0 < r.length
  len : 0 < i → r.length ≤ up.length
  low : ∀ j, j < r.length → 1 ≤ r.getD j 0 ∧ r.getD j 0 ≤ 99
  rise : ∀ j, j + 1 < r.length → r.getD j 0 ≤ r.getD (j + 1) 0
  down : 0 < i → ∀ j, j < r.length → up.getD j 0 < r.getD j 0

theorem rowB_iff {i : Nat} {up r : List Int} (h0 : i = 0 → up = []) : rowB i up r = true ↔ RowOk i up r := by
  simp only [rowB, Bool.and_eq_true, Bool.or_eq_true, decide_eq_true_eq, risesB_iff, underB_iff]
  constructor
  · rintro ⟨⟨⟨h1, h2⟩, h3⟩, h4⟩
    have hl : 0 < i → r.length ≤ up.length := fun hi => by rcases h2 with h2 | h2; omega; exact h2
    exact ⟨h1, hl, fun j hj => ⟨(h3 j hj).1, (h3 j hj).2.1⟩, fun j hj => (h3 (j + 1) hj).2.2 (by omega), fun hi j hj => h4 j hj (by have := hl hi; omega)⟩
  · intro h
    refine ⟨⟨⟨h.one, ?_⟩, fun j hj => ⟨(h.low j hj).1, (h.low j hj).2, fun hp => ?_⟩⟩, fun j h1 h2 => ?_⟩
    · rcases Nat.eq_zero_or_pos i with hi | hi
      · exact Or.inl hi
      · exact Or.inr (h.len hi)
    · have := h.rise (j - 1) (by omega)
      rw [show j - 1 + 1 = j by omega] at this; exact this
    · rcases Nat.eq_zero_or_pos i with hi | hi
      · rw [h0 hi] at h2; simp at h2
      · exact h.down hi j h1

theorem upOf_zero (ls : List (List Int)) (i : Nat) (h : i = 0) : upOf ls i = [] := by rw [upOf, if_pos h]
theorem upOf_succ (ls : List (List Int)) (i : Nat) : upOf ls (i + 1) = row ls i := by simp [upOf]

structure IsTab (ls : List (List Int)) : Prop where
  few : ls.flatten.length ≤ 40
  ok : ∀ i, i < ls.length → RowOk i (upOf ls i) (row ls i)

theorem okTab_iff {ls : List (List Int)} : okTab ls = true ↔ ∀ i, i < ls.length → RowOk i (upOf ls i) (row ls i) := by
  simp only [okTab, List.all_eq_true, List.mem_range]
  exact ⟨fun h i hi => (rowB_iff (upOf_zero ls i)).1 (h i hi), fun h i hi => (rowB_iff (upOf_zero ls i)).2 (h i hi)⟩
theorem okTab_no {ls : List (List Int)} {i : Nat} (hi : i < ls.length) (h : rowB i (upOf ls i) (row ls i) = false) : okTab ls = false := by
  cases e : okTab ls with
  | false => rfl
  | true =>
    simp only [okTab, List.all_eq_true, List.mem_range] at e
    rw [e i hi] at h; cases h
theorem okTab_yes {ls : List (List Int)} (h : ∀ i, i < ls.length → rowB i (upOf ls i) (row ls i) = true) : okTab ls = true := by
  simp only [okTab, List.all_eq_true, List.mem_range]; exact h
theorem tchk_ok {ls : List (List Int)} : tchk ls = 0 ↔ IsTab ls := by
  unfold tchk
  constructor
  · intro h
    by_cases h1 : 40 < ls.flatten.length
    · rw [if_pos h1] at h; omega
    · rw [if_neg h1] at h
      by_cases h2 : okTab ls = true
      · exact ⟨by omega, okTab_iff.1 h2⟩
      · rw [if_neg h2] at h; omega
  · intro h
    rw [if_neg (by have := h.few; omega), if_pos (okTab_iff.2 h.ok)]
theorem tchk_range (ls : List (List Int)) : tchk ls = 0 ∨ tchk ls = 1 ∨ tchk ls = 2 := by
  unfold tchk; split
  · simp
  · split <;> simp

-- Lengths of parts.
theorem flat_take (ls : List (List Int)) (k : Nat) (hk : k < ls.length) : (ls.take (k + 1)).flatten = (ls.take k).flatten ++ row ls k := by
  rw [List.take_succ_eq_append_getElem hk, List.flatten_append]
  simp [row, List.getD, List.getElem?_eq_getElem hk]
theorem flat_take_le (ls : List (List Int)) (k : Nat) : (ls.take k).flatten.length ≤ ls.flatten.length := by
  conv => rhs; rw [← List.take_append_drop k ls]
  rw [List.flatten_append, List.length_append]; omega
theorem row_le_flat {ls : List (List Int)} {a : Nat} (h : a < ls.length) : (row ls a).length ≤ ls.flatten.length := by
  have := flat_take_le ls (a + 1)
  rw [flat_take ls a h, List.length_append] at this; omega
theorem len_le_flat {ls : List (List Int)} (h : ∀ a, a < ls.length → 0 < (row ls a).length) : ls.length ≤ ls.flatten.length := by
  have key : ∀ k, k ≤ ls.length → k ≤ (ls.take k).flatten.length := by
    intro k
    induction k with
    | zero => intro _; omega
    | succ k ih =>
      intro hk
      have := ih (by omega)
      have h1 := h k (by omega)
      rw [flat_take ls k (by omega), List.length_append]; omega
  have := key ls.length (Nat.le_refl _)
  rwa [List.take_length] at this
theorem flat_mem {ls : List (List Int)} {z : Int} (h : z ∈ ls.flatten) : ∃ a b, a < ls.length ∧ b < (row ls a).length ∧ box ls a b = z := by
  obtain ⟨r, hr, hz⟩ := List.mem_flatten.1 h
  obtain ⟨a, ha, rfl⟩ := mem_row hr
  obtain ⟨b, hb, rfl⟩ := List.mem_iff_getElem.1 hz
  exact ⟨a, b, ha, hb, by simp [box, List.getD, List.getElem?_eq_getElem hb]⟩
theorem box_mem {ls : List (List Int)} {a b : Nat} (ha : a < ls.length) (hb : b < (row ls a).length) : box ls a b ∈ ls.flatten :=
  List.mem_flatten.2 ⟨row ls a, row_mem ha, by simp [box, List.getD, List.getElem?_eq_getElem hb]⟩

theorem IsTab.letters {ls : List (List Int)} (h : IsTab ls) {a b : Nat} (ha : a < ls.length) (hb : b < (row ls a).length) : 1 ≤ box ls a b ∧ box ls a b ≤ 99 := (h.ok a ha).low b hb
theorem IsTab.mem {ls : List (List Int)} (h : IsTab ls) {z : Int} (hz : z ∈ ls.flatten) : 1 ≤ z ∧ z ≤ 99 := by
  obtain ⟨a, b, ha, hb, rfl⟩ := flat_mem hz
  exact h.letters ha hb
theorem IsTab.rows {ls : List (List Int)} (h : IsTab ls) : ls.length ≤ 40 := Nat.le_trans (len_le_flat (fun a ha => (h.ok a ha).one)) h.few
theorem IsTab.width {ls : List (List Int)} (h : IsTab ls) {a : Nat} (ha : a < ls.length) : (row ls a).length ≤ 40 := Nat.le_trans (row_le_flat ha) h.few
theorem IsTab.shorter {ls : List (List Int)} (h : IsTab ls) {a b : Nat} (hab : a ≤ b) (hb : b < ls.length) : (row ls b).length ≤ (row ls a).length := by
  induction b with
  | zero => have : a = 0 := by omega
            subst this; exact Nat.le_refl _
  | succ b ih =>
    by_cases e : a = b + 1
    · subst e; exact Nat.le_refl _
    · have h1 := (h.ok (b + 1) hb).len (by omega)
      rw [upOf_succ] at h1
      exact Nat.le_trans h1 (ih (by omega) (by omega))
theorem IsTab.column {ls : List (List Int)} (h : IsTab ls) {a c j : Nat} (hac : a < c) (hc : c < ls.length) (hj : j < (row ls c).length) : box ls a j < box ls c j := by
  induction c with
  | zero => omega
  | succ c ih =>
    have h1 := (h.ok (c + 1) hc).down (by omega) j hj
    rw [upOf_succ] at h1
    have h2 : box ls c j < box ls (c + 1) j := h1
    by_cases e : a = c
    · subst e; exact h2
    · have hs := h.shorter (a := c) (b := c + 1) (by omega) hc
      exact Int.lt_trans (ih (by omega) (by omega) (by omega)) h2
theorem IsTab.along {ls : List (List Int)} (h : IsTab ls) {a i j : Nat} (hij : i ≤ j) (ha : a < ls.length) (hj : j < (row ls a).length) : box ls a i ≤ box ls a j := by
  induction j with
  | zero => have : i = 0 := by omega
            subst this; exact Int.le_refl _
  | succ j ih =>
    by_cases e : i = j + 1
    · subst e; exact Int.le_refl _
    · exact Int.le_trans (ih (by omega) (by omega)) ((h.ok a ha).rise j hj)

-- How often each letter is there.
/-- The greatest of them, as a number that counts from 0. -/
def mx : List Int → Nat
  | [] => 0
  | z :: l => max z.toNat (mx l)
theorem mx_snoc (l : List Int) (z : Int) : mx (l ++ [z]) = max (mx l) z.toNat := by
  induction l with
  | nil => simp [mx]
  | cons y l ih => simp only [List.cons_append, mx, ih]; omega
theorem mx_ge {l : List Int} {z : Int} (h : z ∈ l) : z.toNat ≤ mx l := by
  induction l with
  | nil => cases h
  | cons y l ih =>
    rcases List.mem_cons.1 h with rfl | h
    · simp only [mx]; omega
    · have := ih h; simp only [mx]; omega
theorem mx_le {l : List Int} {n : Nat} (h : ∀ z ∈ l, z ≤ n) : mx l ≤ n := by
  induction l with
  | nil => simp [mx]
  | cons y l ih =>
    have h1 := ih (fun z hz => h z (by simp [hz]))
    have h2 := h y (by simp)
    simp only [mx]; omega
theorem mx_in {l : List Int} (h : ∀ z ∈ l, 1 ≤ z) (h0 : l ≠ []) : ((mx l : Nat) : Int) ∈ l := by
  induction l with
  | nil => exact absurd rfl h0
  | cons y l ih =>
    have hy := h y (by simp)
    by_cases e : l = []
    · subst e; simp only [mx]; rw [show ((max y.toNat 0 : Nat) : Int) = y by omega]; simp
    · have := ih (fun z hz => h z (by simp [hz])) e
      simp only [mx]
      rcases Nat.le_total (mx l) y.toNat with h1 | h1
      · rw [Nat.max_eq_left h1, show ((y.toNat : Nat) : Int) = y by omega]; simp
      · rw [Nat.max_eq_right h1]; exact List.mem_cons_of_mem _ this

def cnt (l : List Int) (k : Nat) : Int := (l.count ((k : Int) + 1) : Nat)
theorem cnt_snoc (l : List Int) (z : Int) (k : Nat) : cnt (l ++ [z]) k = cnt l k + if z = (k : Int) + 1 then 1 else 0 := by
  unfold cnt
  rw [List.count_append, List.count_singleton]
  by_cases h : z = (k : Int) + 1
  · rw [if_pos (by simp [h]), if_pos h]; simp
  · rw [if_neg (by simpa using h), if_neg h]; simp
theorem cnt_high {l : List Int} {k : Nat} (h : mx l ≤ k) : cnt l k = 0 := by
  unfold cnt
  rw [List.count_eq_zero.2 (fun hm => by have := mx_ge hm; omega)]; rfl
theorem cnt_bd (l : List Int) (k : Nat) : 0 ≤ cnt l k ∧ cnt l k ≤ l.length := by
  unfold cnt
  have := List.count_le_length (a := (k : Int) + 1) (l := l)
  omega
/-- The content. -/
def had (l : List Int) : List Int := tab (mx l) (cnt l)
theorem had_length (l : List Int) : (had l).length = mx l := tab_length _ _
theorem had_nil : had [] = [] := rfl
theorem tab_eq {n m : Nat} {f g : Nat → Int} (h : n = m) (h2 : ∀ j, j < n → f j = g j) : tab n f = tab m g := by subst h; exact tab_congr h2

end Go.Proofs.YtbiakncblkjmhaaGreatDoor

namespace Go.Proofs.YtbiakncblkjmhaaGreatDoor

/-- a table out of a function -/
def tb (r c : Nat) (P : Nat → Nat → Nat) : List (List Int) := (List.range r).map fun i => tab c fun j => (P i j : Int)

theorem tb_len (r c : Nat) (P : Nat → Nat → Nat) : (tb r c P).length = r := by simp [tb]
theorem tb_row {r c : Nat} {P : Nat → Nat → Nat} {i : Nat} (hi : i < r) : row (tb r c P) i = tab c fun j => (P i j : Int) := by simp [row, tb, List.getD, hi]
theorem tb_congr {r c : Nat} {P Q : Nat → Nat → Nat} (h : ∀ i, i < r → ∀ j, j < c → P i j = Q i j) : tb r c P = tb r c Q :=
  List.map_congr_left (fun i hi => tab_congr (fun j hj => by rw [h i (List.mem_range.1 hi) j hj]))
theorem tb_wf {r c : Nat} {P : Nat → Nat → Nat} {B : Nat} (hc : c ≤ 1000) (hB : B ≤ 1000) (h : ∀ i, i < r → ∀ j, j < c → P i j ≤ B) : ∀ l ∈ tb r c P, l.length ≤ 17592186044416 ∧ ∀ z ∈ l, -9223372036854775808 ≤ z ∧ z ≤ 9223372036854775807 := by
  intro l hl
  simp only [tb, List.mem_map, List.mem_range] at hl
  obtain ⟨i, hi, rfl⟩ := hl
  refine ⟨by rw [tab_length]; omega, fun z hz => ?_⟩
  obtain ⟨j, hj, rfl⟩ := tab_mem hz
  have := h i hi j hj
  omega

/-- a pile in a room -/
structure Pil (r c h : Nat) (P : Nat → Nat → Nat) : Prop where
  r1 : 1 ≤ r
  r8 : r ≤ 8
  c1 : 1 ≤ c
  c8 : c ≤ 8
  h1 : 1 ≤ h
  h8 : h ≤ 8
  le : ∀ i, i < r → ∀ j, j < c → P i j ≤ h
  row : ∀ i, i < r → ∀ j, j + 1 < c → P i (j + 1) ≤ P i j
  col : ∀ i, i + 1 < r → ∀ j, j < c → P (i + 1) j ≤ P i j

/-- how many of the first n -/
def cn (n : Nat) (f : Nat → Prop) [DecidablePred f] : Nat := S n fun i => ind (f i)

theorem cn_succ (n : Nat) (f : Nat → Prop) [DecidablePred f] : cn (n + 1) f = cn n f + ind (f n) := rfl
theorem cn_le (n : Nat) (f : Nat → Prop) [DecidablePred f] : cn n f ≤ n := by
  have := S_le (n := n) (f := fun i => ind (f i)) (g := fun _ => 1) (fun i _ => ind_le _)
  rw [S_one] at this
  exact this
theorem cn_mono {n : Nat} {f g : Nat → Prop} [DecidablePred f] [DecidablePred g] (h : ∀ i, i < n → f i → g i) : cn n f ≤ cn n g := by
  refine S_le (fun i hi => ?_)
  by_cases hf : f i
  · rw [ind_pos hf, ind_pos (h i hi hf)]; exact Nat.le_refl _
  · rw [ind_neg hf]; exact Nat.zero_le _
theorem cn_congr {n : Nat} {f g : Nat → Prop} [DecidablePred f] [DecidablePred g] (h : ∀ i, i < n → (f i ↔ g i)) : cn n f = cn n g :=
  S_congr (fun i hi => ind_iff (h i hi))

theorem down_all {n : Nat} {f : Nat → Prop} (hd : ∀ i, i + 1 < n → f (i + 1) → f i) : ∀ (d i : Nat), i + d < n → f (i + d) → f i
  | 0, _, _, h => h
  | d + 1, i, hi, h => down_all hd d i (by omega) (hd (i + d) (by omega) h)

theorem lt_cn : ∀ {n : Nat} {f : Nat → Prop} [DecidablePred f], (∀ i, i + 1 < n → f (i + 1) → f i) → ∀ i, (i < cn n f ↔ i < n ∧ f i)
  | 0, f, _, _, i => by simp [cn, S]
  | n + 1, f, _, hd, i => by
    have ih := lt_cn (n := n) (f := f) (fun j hj h => hd j (by omega) h)
    rw [cn_succ]
    by_cases hf : f n
    · rw [ind_pos hf]
      have hall : ∀ j, j < n + 1 → f j := fun j hj => down_all hd (n - j) j (by omega) (by have e : j + (n - j) = n := by omega
                                                                                           rw [e]; exact hf)
      have e : cn n f = n := by
        have h1 := cn_le n f
        by_cases h0 : n = 0
        · omega
        · have := (ih (n - 1)).2 ⟨by omega, hall _ (by omega)⟩
          omega
      rw [e]
      exact ⟨fun h => ⟨h, hall i h⟩, fun h => h.1⟩
    · rw [ind_neg hf, Nat.add_zero, ih]
      refine ⟨fun h => ⟨by omega, h.2⟩, fun h => ⟨?_, h.2⟩⟩
      have : i ≠ n := fun e => hf (e ▸ h.2)
      omega

theorem eq_of_lt {a b : Nat} (h : ∀ i, i < a ↔ i < b) : a = b := by
  have h1 := h a
  have h2 := h b
  omega

/-- turned -/
def trn (r : Nat) (P : Nat → Nat → Nat) (j z : Nat) : Nat := cn r fun i => z < P i j

theorem Pil.trn {r c h : Nat} {P : Nat → Nat → Nat} (p : Pil r c h P) : Pil c h r (trn r P) where
  r1 := p.c1
  r8 := p.c8
  c1 := p.h1
  c8 := p.h8
  h1 := p.r1
  h8 := p.r8
  le := fun j _ z _ => cn_le _ _
  row := fun j _ z _ => cn_mono (fun i _ h => by omega)
  col := fun j hj z _ => cn_mono (fun i hi h => by have := p.row i hi j hj; omega)

theorem Pil.lt_trn {r c h : Nat} {P : Nat → Nat → Nat} (p : Pil r c h P) {j : Nat} (hj : j < c) (z i : Nat) : i < YtbiakncblkjmhaaGreatDoor.trn r P j z ↔ i < r ∧ z < P i j :=
  lt_cn (f := fun i => z < P i j) (fun k hk hz => by have := p.col k hk j hj; omega) i

theorem trn_three {r c h : Nat} {P : Nat → Nat → Nat} (p : Pil r c h P) {i j : Nat} (hi : i < r) (hj : j < c) : trn h (trn c (trn r P)) i j = P i j := by
  refine eq_of_lt (fun z => ?_)
  rw [p.trn.trn.lt_trn hi j z, and_congr_right_iff.2 (fun (hz : z < h) => p.trn.lt_trn hz i j), p.lt_trn hj z i]
  have := p.le i hi j hj
  omega

def vol (r c : Nat) (P : Nat → Nat → Nat) : Nat := S r fun i => S c fun j => P i j

theorem trn_vol {r c h : Nat} {P : Nat → Nat → Nat} (p : Pil r c h P) : vol c h (trn r P) = vol r c P := by
  unfold vol trn cn
  rw [S_congr (fun j hj => S_swap h r (fun z i => ind (z < P i j))), S_swap r c]
  refine S_congr (fun j hj => S_congr (fun i hi => ?_))
  exact S_below (p.le i hi j hj)

def mir (P : Nat → Nat → Nat) (j i : Nat) : Nat := P i j

theorem Pil.mir {r c h : Nat} {P : Nat → Nat → Nat} (p : Pil r c h P) : Pil c r h (mir P) where
  r1 := p.c1
  r8 := p.c8
  c1 := p.r1
  c8 := p.r8
  h1 := p.h1
  h8 := p.h8
  le := fun j hj i hi => p.le i hi j hj
  row := fun j hj i hi => p.col i hi j hj
  col := fun j hj i hi => p.row i hi j hj

def rst (r c h : Nat) (P : Nat → Nat → Nat) (i j : Nat) : Nat := h - P (r - 1 - i) (c - 1 - j)

theorem Pil.rst {r c h : Nat} {P : Nat → Nat → Nat} (p : Pil r c h P) : Pil r c h (rst r c h P) where
  r1 := p.r1
  r8 := p.r8
  c1 := p.c1
  c8 := p.c8
  h1 := p.h1
  h8 := p.h8
  le := fun i _ j _ => Nat.sub_le _ _
  row := fun i hi j hj => by
    have h1 := p.row (r - 1 - i) (by omega) (c - 1 - (j + 1)) (by omega)
    have e : c - 1 - (j + 1) + 1 = c - 1 - j := by omega
    rw [e] at h1
    unfold YtbiakncblkjmhaaGreatDoor.rst
    omega
  col := fun i hi j hj => by
    have h1 := p.col (r - 1 - (i + 1)) (by omega) (c - 1 - j) (by omega)
    have e : r - 1 - (i + 1) + 1 = r - 1 - i := by omega
    rw [e] at h1
    unfold YtbiakncblkjmhaaGreatDoor.rst
    omega

theorem rst_two {r c h : Nat} {P : Nat → Nat → Nat} (p : Pil r c h P) {i j : Nat} (hi : i < r) (hj : j < c) : rst r c h (rst r c h P) i j = P i j := by
  unfold rst
  have e1 : r - 1 - (r - 1 - i) = i := by omega
  have e2 : c - 1 - (c - 1 - j) = j := by omega
  rw [e1, e2]
  have := p.le i hi j hj
  omega

theorem S_front : ∀ (n : Nat) (f : Nat → Nat), S (n + 1) f = f 0 + S n (fun i => f (i + 1))
  | 0, f => by simp [S]
  | n + 1, f => by
    rw [show S (n + 1 + 1) f = S (n + 1) f + f (n + 1) from rfl, S_front n f, show S (n + 1) (fun i => f (i + 1)) = S n (fun i => f (i + 1)) + f (n + 1) from rfl]
    omega
theorem S_rev : ∀ (n : Nat) (f : Nat → Nat), S n (fun i => f (n - 1 - i)) = S n f
  | 0, _ => rfl
  | n + 1, f => by
    rw [S_front, show S (n + 1) f = S n f + f n from rfl, ← S_rev n f]
    have : S n (fun i => f (n + 1 - 1 - (i + 1))) = S n (fun i => f (n - 1 - i)) := S_congr (fun i hi => by congr 1; omega)
    rw [this]
    simp only [Nat.add_sub_cancel, Nat.sub_zero]
    omega
theorem S_const (n a : Nat) : S n (fun _ => a) = n * a := by
  induction n with
  | zero => simp [S]
  | succ n ih => rw [show S (n + 1) (fun _ => a) = S n (fun _ => a) + a from rfl, ih, Nat.succ_mul]

theorem rst_vol {r c h : Nat} {P : Nat → Nat → Nat} (p : Pil r c h P) : vol r c P + vol r c (rst r c h P) = r * c * h := by
  have e1 : vol r c (rst r c h P) = S r fun i => S c fun j => h - P i j := by
    unfold vol rst
    rw [← S_rev r (fun i => S c fun j => h - P i j)]
    refine S_congr (fun i hi => ?_)
    exact S_rev c (fun j => h - P (r - 1 - i) j)
  rw [e1]
  unfold vol
  rw [← S_add, S_congr (fun i hi => (S_add c _ _).symm), S_congr (g := fun _ => c * h) (fun i hi => ?_), S_const, Nat.mul_assoc]
  rw [S_congr (g := fun _ => h) (fun j hj => ?_), S_const]
  have := p.le i hi j hj
  omega

theorem vol_le {r c h : Nat} {P : Nat → Nat → Nat} (p : Pil r c h P) : vol r c P ≤ 512 := by
  have h1 := rst_vol p
  have h2 := Nat.mul_le_mul (Nat.mul_le_mul p.r8 p.c8) p.h8
  omega

end Go.Proofs.YtbiakncblkjmhaaGreatDoor

namespace Go.Proofs.YtbiakncblkjmhaaGreatDoor

/-- A sum of n numbers. -/
def sZ (f : Nat → Int) : Nat → Int
  | 0 => 0
  | n + 1 => sZ f n + f n
/-- A product of n numbers. -/
def pZ (f : Nat → Int) : Nat → Int
  | 0 => 1
  | n + 1 => pZ f n * f n
theorem sZ_congr {f g : Nat → Int} : ∀ n, (∀ i, i < n → f i = g i) → sZ f n = sZ g n
  | 0, _ => rfl
  | n + 1, h => by rw [sZ, sZ, sZ_congr n (fun i hi => h i (by omega)), h n (by omega)]
theorem pZ_congr {f g : Nat → Int} : ∀ n, (∀ i, i < n → f i = g i) → pZ f n = pZ g n
  | 0, _ => rfl
  | n + 1, h => by rw [pZ, pZ, pZ_congr n (fun i hi => h i (by omega)), h n (by omega)]
theorem sZ_add (f g : Nat → Int) : ∀ n, sZ (fun i => f i + g i) n = sZ f n + sZ g n
  | 0 => rfl
  | n + 1 => by rw [sZ, sZ, sZ, sZ_add f g n]; omega
theorem sZ_mul (c : Int) (f : Nat → Int) : ∀ n, sZ (fun i => c * f i) n = c * sZ f n
  | 0 => by simp [sZ]
  | n + 1 => by rw [sZ, sZ, sZ_mul c f n, Int.mul_add]
theorem sZ_zero {f : Nat → Int} {n : Nat} (h : ∀ i, i < n → f i = 0) : sZ f n = 0 := by
  induction n with
  | zero => rfl
  | succ n ih => rw [sZ, ih (fun i hi => h i (by omega)), h n (by omega)]; rfl
theorem sZ_one {f : Nat → Int} {k : Nat} : ∀ n, k < n → (∀ i, i < n → i ≠ k → f i = 0) → sZ f n = f k := by
  intro n
  induction n with
  | zero => intro h _; omega
  | succ n ih =>
    intro hk h
    rw [sZ]
    by_cases e : k = n
    · subst e; rw [sZ_zero (fun i hi => h i (by omega) (by omega)), Int.zero_add]
    · rw [ih (by omega) (fun i hi hne => h i (by omega) hne), h n (by omega) (fun q => e q.symm), Int.add_zero]
theorem sZ_two {f : Nat → Int} {k : Nat} : ∀ n, k + 1 < n → (∀ i, i < n → i ≠ k → i ≠ k + 1 → f i = 0) → sZ f n = f k + f (k + 1) := by
  intro n
  induction n with
  | zero => intro h _; omega
  | succ n ih =>
    intro hk h
    rw [sZ]
    by_cases e : k + 1 = n
    · subst e; rw [sZ_one (k := k) (k + 1) (by omega) (fun i hi hne => h i (by omega) hne (by omega))]
    · rw [ih (by omega) (fun i hi h1 h2 => h i (by omega) h1 h2), h n (by omega) (by omega) (fun q => e q.symm), Int.add_zero]
theorem sZ_swap (f : Nat → Nat → Int) (m : Nat) : ∀ n, sZ (fun i => sZ (f i) m) n = sZ (fun j => sZ (fun i => f i j) n) m
  | 0 => by simp only [sZ]; rw [sZ_zero (fun _ _ => rfl)]
  | n + 1 => by rw [sZ, sZ_swap f m n, ← sZ_add]; rfl
theorem sZ_shift (f : Nat → Int) : ∀ n, sZ f (n + 1) = f 0 + sZ (fun i => f (i + 1)) n
  | 0 => by simp [sZ]
  | n + 1 => by rw [sZ, sZ_shift f n, sZ]; omega
theorem pZ_shift (f : Nat → Int) : ∀ n, pZ f (n + 1) = f 0 * pZ (fun i => f (i + 1)) n
  | 0 => by simp [pZ]
  | n + 1 => by rw [pZ, pZ_shift f n, pZ, Int.mul_assoc]
theorem pZ_mul (f g : Nat → Int) : ∀ n, pZ (fun i => f i * g i) n = pZ f n * pZ g n
  | 0 => rfl
  | n + 1 => by rw [pZ, pZ, pZ, pZ_mul f g n]; ac_rfl
theorem pZ_add (f : Nat → Int) (m : Nat) : ∀ n, pZ f (m + n) = pZ f m * pZ (fun i => f (m + i)) n
  | 0 => by simp [pZ]
  | n + 1 => by rw [← Nat.add_assoc, pZ, pZ_add f m n, pZ, Int.mul_assoc]

/-- The sign of place i. -/
def sg : Nat → Int
  | 0 => 1
  | i + 1 => - sg i
/-- Place r, place i left out. -/
def skp (i r : Nat) : Nat := if r < i then r else r + 1
def psn (i k : Nat) : Nat := if k < i then k else k - 1
theorem skp_psn {i k r : Nat} (h : i ≠ k) : skp i r = k ↔ r = psn i k := by
  unfold skp psn
  split <;> split <;> omega
theorem skp_ne (i r : Nat) : skp i r ≠ i := by unfold skp; split <;> omega
theorem pZ_skp (d : Nat → Int) : ∀ n i, i ≤ n → d i * pZ (fun r => d (skp i r)) n = pZ d (n + 1) := by
  intro n
  induction n with
  | zero => intro i hi; obtain rfl : i = 0 := by omega
            simp [pZ]
  | succ n ih =>
    intro i hi
    by_cases e : i = n + 1
    · subst e
      rw [pZ_congr (n + 1) (g := d) (fun r hr => by rw [skp, if_pos hr]), pZ, pZ, pZ]; ac_rfl
    · rw [pZ, ← Int.mul_assoc, ih i (by omega), show skp i n = n + 1 by unfold skp; rw [if_neg (by omega)]]
      rfl

/-- The determinant, by its first column. -/
def det : Nat → (Nat → Nat → Int) → Int
  | 0, _ => 1
  | n + 1, A => sZ (fun i => sg i * (A i 0 * det n (fun r c => A (skp i r) (c + 1)))) (n + 1)
theorem det_congr : ∀ n {A B : Nat → Nat → Int}, (∀ r c, r < n → c < n → A r c = B r c) → det n A = det n B
  | 0, _, _, _ => rfl
  | n + 1, A, B, h => by
    rw [det, det]
    refine sZ_congr _ (fun i hi => ?_)
    rw [h i 0 hi (by omega), det_congr n (A := fun r c => A (skp i r) (c + 1)) (B := fun r c => B (skp i r) (c + 1)) (fun r c hr hc => h _ _ (by unfold skp; split <;> omega) (by omega))]
/-- Row k becomes u. -/
def rpR (A : Nat → Nat → Int) (k : Nat) (u : Nat → Int) : Nat → Nat → Int := fun r c => if r = k then u c else A r c
theorem minor_rp (A : Nat → Nat → Int) {i k : Nat} (u : Nat → Int) (h : i ≠ k) : (fun r c => rpR A k u (skp i r) (c + 1)) = rpR (fun r c => A (skp i r) (c + 1)) (psn i k) (fun c => u (c + 1)) := by
  funext r c
  unfold rpR
  by_cases e : skp i r = k
  · rw [if_pos e, if_pos ((skp_psn h).1 e)]
  · rw [if_neg e, if_neg (fun q => e ((skp_psn h).2 q))]
theorem minor_self (A : Nat → Nat → Int) (k : Nat) (u : Nat → Int) : (fun r c => rpR A k u (skp k r) (c + 1)) = fun r c => A (skp k r) (c + 1) := by
  funext r c
  unfold rpR
  rw [if_neg (skp_ne k r)]
/-- It is linear in each row. -/
theorem det_lin : ∀ (n : Nat) (A : Nat → Nat → Int) (k : Nat) (a b : Int) (u v : Nat → Int), k < n → det n (rpR A k (fun c => a * u c + b * v c)) = a * det n (rpR A k u) + b * det n (rpR A k v) := by
  intro n
  induction n with
  | zero => intro A k a b u v hk; omega
  | succ n ih =>
    intro A k a b u v hk
    rw [det, det, det, ← sZ_mul, ← sZ_mul, ← sZ_add]
    refine sZ_congr _ (fun i hi => ?_)
    by_cases e : i = k
    · subst e
      rw [minor_self, minor_self, minor_self]
      simp only [rpR, if_pos]
      generalize det n _ = D
      rw [Int.add_mul, Int.mul_add]
      ac_rfl
    · rw [minor_rp A _ e, minor_rp A _ e, minor_rp A _ e]
      have hp : psn i k < n := by unfold psn; split <;> omega
      rw [ih _ _ a b (fun c => u (c + 1)) (fun c => v (c + 1)) hp]
      simp only [rpR, if_neg e]
      rw [Int.mul_add, Int.mul_add]
      ac_rfl
theorem rpR_self (A : Nat → Nat → Int) (k : Nat) : rpR A k (A k) = A := by
  funext r c
  unfold rpR
  by_cases e : r = k
  · rw [if_pos e, e]
  · rw [if_neg e]
/-- Two rows that follow each other are the same: 0. -/
theorem det_alt : ∀ (n : Nat) (A : Nat → Nat → Int) (k : Nat), k + 1 < n → (∀ c, A k c = A (k + 1) c) → det n A = 0 := by
  intro n
  induction n with
  | zero => intro A k hk; omega
  | succ n ih =>
    intro A k hk h
    rw [det, sZ_two (k := k) (n + 1) hk (fun i hi h1 h2 => ?_)]
    · have e : det n (fun r c => A (skp k r) (c + 1)) = det n (fun r c => A (skp (k + 1) r) (c + 1)) := by
        refine det_congr n (fun r c hr _ => ?_)
        unfold skp
        by_cases e1 : r < k
        · rw [if_pos e1, if_pos (by omega)]
        · by_cases e2 : r = k
          · subst e2; rw [if_neg (by omega), if_pos (by omega)]; exact (h _).symm
          · rw [if_neg e1, if_neg (by omega)]
      rw [e, h 0, show sg (k + 1) = - sg k from rfl, Int.neg_mul]
      omega
    · have e : det n (fun r c => A (skp i r) (c + 1)) = 0 := by
        refine ih _ (psn i k) (by unfold psn; split <;> omega) (fun c => ?_)
        have e1 : skp i (psn i k) = k := (skp_psn h1).2 rfl
        have e2 : psn i k + 1 = psn i (k + 1) := by unfold psn; split <;> split <;> omega
        have e3 : skp i (psn i k + 1) = k + 1 := by rw [e2]; exact (skp_psn h2).2 rfl
        rw [e1, e3]; exact h _
      rw [e, Int.mul_zero, Int.mul_zero]
/-- A row is added to the next one, so many times. -/
theorem det_addrow {n : Nat} (A : Nat → Nat → Int) {k : Nat} (a : Int) (hk : k + 1 < n) : det n (rpR A (k + 1) (fun c => A (k + 1) c + a * A k c)) = det n A := by
  have h := det_lin n A (k + 1) 1 a (A (k + 1)) (A k) hk
  rw [rpR_self, det_alt n (rpR A (k + 1) (A k)) k hk (fun c => by simp [rpR])] at h
  rw [show (fun c => A (k + 1) c + a * A k c) = fun c => 1 * A (k + 1) c + a * A k c from funext fun c => by rw [Int.one_mul], h]
  omega
/-- From row j on each row without the one ahead. -/
def difM (A : Nat → Nat → Int) (j : Nat) : Nat → Nat → Int := fun r c => if r < j then A r c else A r c - A (r - 1) c
theorem det_dif (n : Nat) (A : Nat → Nat → Int) : ∀ d j, j + d = n → 1 ≤ j → det n (difM A j) = det n A := by
  intro d
  induction d with
  | zero => intro j hj _; exact det_congr n (fun r c hr _ => by unfold difM; rw [if_pos (by omega)])
  | succ d ih =>
    intro j hj h1
    rw [← ih (j + 1) (by omega) (by omega)]
    obtain ⟨k, rfl⟩ : ∃ k, j = k + 1 := ⟨j - 1, by omega⟩
    rw [← det_addrow (difM A (k + 1 + 1)) (k := k) (-1) (by omega)]
    refine det_congr n (fun r c _ _ => ?_)
    unfold rpR difM
    by_cases e : r = k + 1
    · subst e
      rw [if_neg (by omega), if_pos rfl]
      dsimp only
      rw [if_pos (by omega), if_pos (by omega), show k + 1 - 1 = k by omega]; omega
    · rw [if_neg e]
      by_cases e2 : r < k + 1
      · rw [if_pos e2, if_pos (by omega)]
      · rw [if_neg e2, if_neg (by omega)]
/-- The first column is 1 throughout. -/
theorem det_ones (n : Nat) (A : Nat → Nat → Int) (h : ∀ r, r < n + 1 → A r 0 = 1) : det (n + 1) A = det n (fun r c => A (r + 1) (c + 1) - A r (c + 1)) := by
  rw [← det_dif (n + 1) A n 1 (by omega) (by omega), det, sZ_one (k := 0) (n + 1) (by omega) (fun i hi hne => ?_)]
  · have e0 : difM A 1 0 0 = 1 := by unfold difM; rw [if_pos (by omega)]; exact h 0 (by omega)
    rw [e0, show sg 0 = 1 from rfl, Int.one_mul, Int.one_mul]
    refine det_congr n (fun r c _ _ => ?_)
    have e1 : skp 0 r = r + 1 := by unfold skp; rw [if_neg (by omega)]
    unfold difM
    rw [e1, if_neg (by omega)]; rfl
  · have e0 : difM A 1 i 0 = 0 := by
      unfold difM; rw [if_neg (by omega), h i hi, h (i - 1) (by omega)]; rfl
    rw [e0, Int.zero_mul, Int.mul_zero]
/-- Each row times a number. -/
theorem det_rows : ∀ (n : Nat) (d : Nat → Int) (A : Nat → Nat → Int), det n (fun r c => d r * A r c) = pZ d n * det n A := by
  intro n
  induction n with
  | zero => intro d A; rfl
  | succ n ih =>
    intro d A
    rw [det, det, ← sZ_mul]
    refine sZ_congr _ (fun i hi => ?_)
    rw [ih (fun r => d (skp i r)) (fun r c => A (skp i r) (c + 1)), ← pZ_skp d n i (by omega)]
    ac_rfl
/-- Each column times a number. -/
theorem det_cols : ∀ (n : Nat) (d : Nat → Int) (A : Nat → Nat → Int), det n (fun r c => d c * A r c) = pZ d n * det n A := by
  intro n
  induction n with
  | zero => intro d A; rfl
  | succ n ih =>
    intro d A
    rw [det, det, ← sZ_mul]
    refine sZ_congr _ (fun i hi => ?_)
    rw [ih (fun c => d (c + 1)) (fun r c => A (skp i r) (c + 1)), pZ_shift]
    ac_rfl
/-- A row that is a sum. -/
theorem det_sum {n : Nat} (A : Nat → Nat → Int) {k : Nat} (u : Nat → Nat → Int) (hk : k < n) : ∀ m, det n (rpR A k (fun c => sZ (fun t => u t c) m)) = sZ (fun t => det n (rpR A k (u t))) m := by
  intro m
  induction m with
  | zero =>
    have h := det_lin n A k 0 0 (fun _ => 0) (fun _ => 0) hk
    simp only [sZ]
    simpa using h
  | succ m ih =>
    rw [sZ, ← ih]
    have h := det_lin n A k 1 1 (fun c => sZ (fun t => u t c) m) (u m) hk
    rw [Int.one_mul, Int.one_mul] at h
    rw [← h]
    exact congrArg (fun f => det n (rpR A k f)) (funext fun c => by simp only [sZ]; omega)
/-- The rows, one by one, each column times a number, come to the determinant times their sum. -/
theorem det_trace : ∀ (n : Nat) (d : Nat → Int) (A : Nat → Nat → Int), sZ (fun k => det n (rpR A k (fun c => d c * A k c))) n = sZ d n * det n A := by
  intro n
  induction n with
  | zero => intro d A; rfl
  | succ n ih =>
    intro d A
    have e1 : ∀ k, k < n + 1 → det (n + 1) (rpR A k (fun c => d c * A k c)) = sZ (fun i => if i = k then d 0 * (sg i * (A i 0 * det n (fun r c => A (skp i r) (c + 1)))) else sg i * (A i 0 * det n (rpR (fun r c => A (skp i r) (c + 1)) (psn i k) (fun c => d (c + 1) * A k (c + 1))))) (n + 1) := fun k hk => by
      rw [det]
      refine sZ_congr _ (fun i hi => ?_)
      by_cases e : i = k
      · subst e
        rw [if_pos rfl, minor_self]
        simp only [rpR, if_pos]
        ac_rfl
      · rw [if_neg e, minor_rp A _ e]
        simp only [rpR, if_neg e]
    rw [sZ_congr (n + 1) e1, sZ_swap, det, ← sZ_mul]
    refine sZ_congr _ (fun i hi => ?_)
    have e2 : ∀ (X : Int) (f : Nat → Int) m, i ≤ m → sZ (fun k => if i = k then X else f (psn i k)) (m + 1) = X + sZ f m := by
      intro X f m
      induction m with
      | zero => intro h; obtain rfl : i = 0 := by omega
                simp [sZ]
      | succ m ihm =>
        intro h
        by_cases e : i = m + 1
        · subst e
          rw [sZ, if_pos rfl, sZ_congr (m + 1) (g := f) (fun k hk => by rw [if_neg (by omega)]; unfold psn; rw [if_pos hk])]
          omega
        · rw [sZ, ihm (by omega), if_neg e, sZ, show psn i (m + 1) = m by unfold psn; rw [if_neg (by omega)]; omega]
          omega
    obtain ⟨F, hF⟩ : ∃ F : Nat → Int, ∀ q, F q = sg i * (A i 0 * det n (rpR (fun r c => A (skp i r) (c + 1)) q (fun c => d (c + 1) * A (skp i q) (c + 1)))) := ⟨_, fun _ => rfl⟩
    have e3 : ∀ k, k < n + 1 → (if i = k then d 0 * (sg i * (A i 0 * det n (fun r c => A (skp i r) (c + 1)))) else sg i * (A i 0 * det n (rpR (fun r c => A (skp i r) (c + 1)) (psn i k) (fun c => d (c + 1) * A k (c + 1))))) = (if i = k then d 0 * (sg i * (A i 0 * det n (fun r c => A (skp i r) (c + 1)))) else F (psn i k)) := fun k _ => by
      by_cases e : i = k
      · rw [if_pos e, if_pos e]
      · rw [if_neg e, if_neg e, hF, (skp_psn e).2 rfl]
    rw [sZ_congr (n + 1) e3, e2 _ F n (by omega), sZ_congr n (fun q _ => hF q), sZ_mul, sZ_mul, ih (fun c => d (c + 1)) (fun r c => A (skp i r) (c + 1)), sZ_shift d n, Int.add_mul]
    ac_rfl

end Go.Proofs.YtbiakncblkjmhaaGreatDoor

namespace Go.Proofs.YtbiakncblkjmhaaGreatDoor

/-- x (x - 1) .., so many factors. -/
def nwt (x : Int) : Nat → Int
  | 0 => 1
  | j + 1 => nwt x j * (x - j)
theorem nwt_succ (z : Int) : ∀ c, nwt (z + 1) (c + 1) = (z + 1) * nwt z c
  | 0 => by simp [nwt]
  | c + 1 => by
    rw [nwt, nwt_succ z c, nwt, Int.mul_assoc]
    rw [show z + 1 - ((c + 1 : Nat) : Int) = z - c by omega]
theorem nwt_dif (z : Int) (c : Nat) : nwt (z + 1) (c + 1) - nwt z (c + 1) = ((c : Int) + 1) * nwt z c := by
  rw [nwt_succ, nwt, Int.mul_comm (nwt z c), ← Int.sub_mul]
  congr 1; omega
theorem nwt_sum (a : Int) (c : Nat) : ∀ w, ((c : Int) + 1) * sZ (fun t => nwt (a + t) c) w = nwt (a + w) (c + 1) - nwt a (c + 1)
  | 0 => by simp [sZ]
  | w + 1 => by
    rw [sZ, Int.mul_add, nwt_sum a c w, ← nwt_dif, show a + ((w + 1 : Nat) : Int) = a + w + 1 by omega]; omega

/-- What is between, divided. -/
def ddf (x : Nat → Int) : Nat → Nat → Nat → Int
  | 0, 0, _ => 1
  | 0, _ + 1, _ => 0
  | j + 1, 0, i => (x i - j) * ddf x j 0 i
  | j + 1, s + 1, i => (x (i + (s + 1)) - j) * ddf x j (s + 1) i + ddf x j s i
theorem ddf_zero (x : Nat → Int) (i : Nat) : ∀ j, ddf x j 0 i = nwt (x i) j
  | 0 => rfl
  | j + 1 => by rw [ddf, ddf_zero x i j, nwt, Int.mul_comm]
theorem ddf_step (x : Nat → Int) : ∀ j s i, ddf x j s (i + 1) - ddf x j s i = (x (i + s + 1) - x i) * ddf x j (s + 1) i
  | 0, 0, i => by simp [ddf]
  | 0, s + 1, i => by simp [ddf]
  | j + 1, 0, i => by
    have h := ddf_step x j 0 i
    rw [ddf, ddf, ddf]
    rw [Nat.add_zero] at h ⊢
    rw [Int.mul_add, show (x (i + 1) - x i) * ((x (i + (0 + 1)) - (j : Int)) * ddf x j (0 + 1) i) = (x (i + 1) - (j : Int)) * ((x (i + 1) - x i) * ddf x j (0 + 1) i) by rw [Nat.zero_add]; ac_rfl, ← h]
    rw [Int.mul_sub, Int.sub_mul (x (i + 1)) (x i), Int.sub_mul, Int.sub_mul, Int.sub_mul]
    omega
  | j + 1, s + 1, i => by
    have h1 := ddf_step x j (s + 1) i
    have h2 := ddf_step x j s i
    rw [ddf, ddf, ddf, Int.mul_add]
    rw [show i + 1 + (s + 1) = i + (s + 1) + 1 by omega, show i + (s + 1 + 1) = i + (s + 1) + 1 by omega]
    rw [show (x (i + (s + 1) + 1) - x i) * ((x (i + (s + 1) + 1) - (j : Int)) * ddf x j (s + 1 + 1) i) = (x (i + (s + 1) + 1) - (j : Int)) * ((x (i + (s + 1) + 1) - x i) * ddf x j (s + 1 + 1) i) by ac_rfl, ← h1]
    rw [show i + s + 1 = i + (s + 1) by omega] at h2
    rw [show (x (i + (s + 1) + 1) - x i) * ddf x j (s + 1) i = (x (i + (s + 1) + 1) - x (i + (s + 1))) * ddf x j (s + 1) i + (x (i + (s + 1)) - x i) * ddf x j (s + 1) i by rw [← Int.add_mul]; congr 1; omega, ← h2]
    rw [Int.mul_sub, Int.sub_mul (x (i + (s + 1) + 1)) (x (i + (s + 1))), Int.sub_mul _ _ (ddf x j (s + 1) (i + 1)), Int.sub_mul _ _ (ddf x j (s + 1) i), Int.sub_mul _ _ (ddf x j (s + 1) i)]
    omega
theorem ddf_low (x : Nat → Int) : ∀ j s i, j < s → ddf x j s i = 0
  | 0, 0, i, h => by omega
  | 0, s + 1, i, h => rfl
  | j + 1, 0, i, h => by omega
  | j + 1, s + 1, i, h => by rw [ddf, ddf_low x j (s + 1) i (by omega), ddf_low x j s i (by omega)]; simp
theorem ddf_diag (x : Nat → Int) : ∀ s i, ddf x s s i = 1
  | 0, i => rfl
  | s + 1, i => by rw [ddf, ddf_low x s (s + 1) i (by omega), ddf_diag x s i]; simp

theorem det_ddf (x : Nat → Int) : ∀ n s, det n (fun r c => ddf x (s + c) s r) = pZ (fun j => pZ (fun i => x (j + s) - x i) j) n
  | 0, s => rfl
  | n + 1, s => by
    rw [det_ones n _ (fun r _ => by rw [Nat.add_zero]; exact ddf_diag x s r)]
    rw [det_congr n (B := fun r c => (x (r + s + 1) - x r) * ddf x (s + 1 + c) (s + 1) r) (fun r c _ _ => by
      rw [ddf_step, show s + (c + 1) = s + 1 + c by omega])]
    rw [det_rows n (fun r => x (r + s + 1) - x r) (fun r c => ddf x (s + 1 + c) (s + 1) r), det_ddf x n (s + 1), ← pZ_mul, pZ_shift]
    rw [show pZ (fun i => x (0 + s) - x i) 0 = 1 from rfl, Int.one_mul]
    refine pZ_congr n (fun j _ => ?_)
    rw [pZ, Int.mul_comm, show j + 1 + s = j + s + 1 by omega, show j + (s + 1) = j + s + 1 by omega]
/-- The product of all differences. -/
def van (x : Nat → Int) (m : Nat) : Int := pZ (fun j => pZ (fun i => x j - x i) j) m
theorem det_nwt (x : Nat → Int) (m : Nat) : det m (fun r c => nwt (x r) c) = van x m := by
  have h := det_ddf x m 0
  rw [det_congr m (B := fun r c => nwt (x r) c) (fun r c _ _ => by rw [Nat.zero_add]; exact ddf_zero x r c)] at h
  exact h
theorem van_congr {x y : Nat → Int} {m : Nat} (h : ∀ i, i < m → x i = y i) : van x m = van y m :=
  pZ_congr m fun j hj => pZ_congr j fun i hi => by rw [h j hj, h i (by omega)]

def upF (y : Nat → Int) (k : Nat) (z : Int) : Nat → Int := fun i => if i = k then z else y i
/-- The sum of F over all y with a i <= y i < a i + w i. -/
def bxS : Nat → (Nat → Int) → (Nat → Nat) → ((Nat → Int) → Int) → Int
  | 0, _, _, F => F (fun _ => 0)
  | k + 1, a, w, F => sZ (fun t => bxS k a w (fun y => F (upF y k (a k + t)))) (w k)
theorem bxS_mul (c : Int) : ∀ k a w F, bxS k a w (fun y => c * F y) = c * bxS k a w F
  | 0, _, _, _ => rfl
  | k + 1, a, w, F => by
    rw [bxS, bxS, ← sZ_mul]
    exact sZ_congr _ fun t _ => bxS_mul c k a w _
theorem bxS_congr : ∀ k (a : Nat → Int) (w : Nat → Nat) {F G : (Nat → Int) → Int}, (∀ y, (∀ i, i < k → a i ≤ y i ∧ y i < a i + w i) → F y = G y) → bxS k a w F = bxS k a w G
  | 0, _, _, _, _, h => h _ (fun _ hi => by omega)
  | k + 1, a, w, F, G, h => by
    rw [bxS, bxS]
    refine sZ_congr _ fun t ht => bxS_congr k a w fun y hy => h _ fun i hi => ?_
    unfold upF
    by_cases e : i = k
    · subst e; rw [if_pos rfl]; omega
    · rw [if_neg e]; exact hy i (by omega)
theorem det_box {n : Nat} (v : Int → Nat → Int) (a : Nat → Int) (w : Nat → Nat) : ∀ k (B : Nat → Nat → Int), k ≤ n → det n (fun r c => if r < k then sZ (fun t => v (a r + t) c) (w r) else B r c) = bxS k a w (fun y => det n (fun r c => if r < k then v (y r) c else B r c)) := by
  intro k
  induction k with
  | zero => intro B _; rw [bxS]; exact det_congr n fun r c _ _ => by rw [if_neg (by omega), if_neg (by omega)]
  | succ k ih =>
    intro B hk
    have e1 : (fun r c => if r < k + 1 then sZ (fun t => v (a r + t) c) (w r) else B r c) = rpR (fun r c => if r < k then sZ (fun t => v (a r + t) c) (w r) else B r c) k (fun c => sZ (fun t : Nat => (fun (t : Nat) c => v (a k + t) c) t c) (w k)) := by
      funext r c
      unfold rpR
      by_cases e : r = k
      · subst e; rw [if_pos (by omega), if_pos rfl]
      · rw [if_neg e]
        dsimp only
        by_cases e2 : r < k
        · rw [if_pos (by omega), if_pos e2]
        · rw [if_neg (by omega), if_neg e2]
    rw [e1, det_sum _ _ (by omega), bxS]
    refine sZ_congr _ fun t _ => ?_
    have e2 : rpR (fun r c => if r < k then sZ (fun t => v (a r + t) c) (w r) else B r c) k ((fun (t : Nat) c => v (a k + t) c) t) = fun r c => if r < k then sZ (fun t => v (a r + t) c) (w r) else rpR B k (fun c => v (a k + t) c) r c := by
      funext r c
      unfold rpR
      by_cases e : r = k
      · subst e; rw [if_pos rfl, if_neg (by omega), if_pos rfl]
      · rw [if_neg e, if_neg e]
    rw [e2, ih _ (by omega)]
    refine bxS_congr k a w fun y _ => det_congr n fun r c _ _ => ?_
    unfold rpR upF
    by_cases e : r = k
    · subst e; rw [if_neg (by omega), if_pos rfl, if_pos (by omega), if_pos rfl]
    · by_cases e2 : r < k
      · rw [if_pos e2, if_pos (by omega), if_neg e]
      · rw [if_neg e2, if_neg e, if_neg (by omega)]
/-- k! -/
def fct (k : Nat) : Int := pZ (fun c => (c : Int) + 1) k
theorem fct_succ (k : Nat) : fct (k + 1) = fct k * ((k : Int) + 1) := rfl
/-- The differences of m + 1 come of those of m that lie between. -/
theorem van_step (x : Nat → Int) (w : Nat → Nat) (m : Nat) (h : ∀ i, i < m → x (i + 1) = x i + w i) : van x (m + 1) = fct m * bxS m x w (fun y => van y m) := by
  rw [← det_nwt, det_ones m _ (fun _ _ => rfl)]
  rw [det_congr m (B := fun r c => ((c : Int) + 1) * (if r < m then sZ (fun t => nwt (x r + t) c) (w r) else 0)) (fun r c hr _ => by
    rw [if_pos hr, nwt_sum, h r hr])]
  rw [det_cols m (fun c => (c : Int) + 1) (fun r c => if r < m then sZ (fun t => nwt (x r + t) c) (w r) else 0), det_box nwt x w m (fun _ _ => 0) (Nat.le_refl _)]
  refine congrArg (fct m * ·) (bxS_congr m x w fun y _ => ?_)
  rw [← det_nwt]
  exact det_congr m fun r c hr _ => by rw [if_pos hr]
/-- How many ways there are to go on between, and between. -/
def cntG : Nat → (Nat → Int) → Int
  | 0, _ => 1
  | m + 1, x => bxS m x (fun i => (x (i + 1) - x i).toNat) (cntG m)
def sfc (m : Nat) : Int := pZ fct m
theorem van_cnt : ∀ m x, (∀ i, i + 1 < m → x i ≤ x (i + 1)) → van x m = sfc m * cntG m x
  | 0, x, _ => rfl
  | m + 1, x, h => by
    rw [van_step x (fun i => (x (i + 1) - x i).toNat) m (fun i hi => by have := h i (by omega); omega), cntG]
    rw [bxS_congr m x _ (G := fun y => sfc m * cntG m y) (fun y hy => van_cnt m y fun i hi => by
      have h1 := hy i (by omega)
      have h2 := hy (i + 1) (by omega)
      have h3 := h i (by omega)
      omega)]
    rw [bxS_mul, ← Int.mul_assoc, Int.mul_comm (fct m)]; rfl

/-- One less, place by place. -/
theorem van_less (x : Nat → Int) (m : Nat) : sZ (fun k => x k * van (upF x k (x k - 1)) m) m = (sZ x m - sZ (fun c => (c : Int)) m) * van x m := by
  have h := det_trace m (fun c => (c : Int)) (fun r c => nwt (x r) c)
  have e : ∀ k, k < m → x k * van (upF x k (x k - 1)) m = x k * van x m + (-1) * det m (rpR (fun r c => nwt (x r) c) k (fun c => (c : Int) * nwt (x k) c)) := fun k hk => by
    rw [← det_nwt, ← det_nwt]
    have e1 := det_lin m (fun r c => nwt (x r) c) k (x k) (-1) (fun c => nwt (x k) c) (fun c => (c : Int) * nwt (x k) c) hk
    rw [show (fun c => nwt (x k) c) = (fun r c => nwt (x r) c) k from rfl, rpR_self] at e1
    rw [← e1]
    have e2 := det_lin m (fun r c => nwt (x r) c) k (x k) 0 (fun c => nwt (x k - 1) c) (fun c => 0) hk
    simp only [Int.zero_mul, Int.add_zero] at e2
    rw [det_congr m (A := fun r c => nwt (upF x k (x k - 1) r) c) (B := rpR (fun r c => nwt (x r) c) k (fun c => nwt (x k - 1) c)) (fun r c _ _ => by
      unfold upF rpR
      by_cases q : r = k
      · rw [if_pos q, if_pos q]
      · rw [if_neg q, if_neg q]), ← e2]
    refine det_congr m fun r c _ _ => ?_
    unfold rpR
    by_cases q : r = k
    · rw [if_pos q, if_pos q]
      have h1 := nwt_succ (x k - 1) c
      rw [show x k - 1 + 1 = x k by omega] at h1
      simp only
      rw [← h1, nwt, Int.mul_sub, Int.mul_comm (nwt (x k) c) (x k), Int.mul_comm (nwt (x k) c)]; omega
    · rw [if_neg q, if_neg q]
  rw [sZ_congr m e, sZ_add, sZ_mul, h, ← det_nwt, Int.sub_mul]
  rw [show (fun k => x k * det m fun r c => nwt (x r) c) = fun k => (det m fun r c => nwt (x r) c) * x k from funext fun k => Int.mul_comm _ _, sZ_mul, Int.mul_comm (sZ x m)]
  omega

end Go.Proofs.YtbiakncblkjmhaaGreatDoor

namespace Go.Proofs.YtbiakncblkjmhaaGreatDoor

theorem pZ_rev (f : Nat → Int) : ∀ n, pZ f n = pZ (fun i => f (n - 1 - i)) n
  | 0 => rfl
  | n + 1 => by
    rw [pZ_shift (fun i => f (n + 1 - 1 - i)) n, pZ, Int.mul_comm, pZ_rev f n]
    refine congr (congrArg _ (by rw [show n + 1 - 1 - 0 = n by omega])) (pZ_congr n fun i hi => ?_)
    rw [show n + 1 - 1 - (i + 1) = n - 1 - i by omega]
theorem pZ_ne {f : Nat → Int} : ∀ n, (∀ i, i < n → f i ≠ 0) → pZ f n ≠ 0
  | 0, _ => by simp [pZ]
  | n + 1, h => by rw [pZ]; exact Int.mul_ne_zero (pZ_ne n fun i hi => h i (by omega)) (h n (by omega))
theorem fct_ne (k : Nat) : fct k ≠ 0 := pZ_ne k fun i _ => by omega
theorem sfc_ne (m : Nat) : sfc m ≠ 0 := pZ_ne m fun i _ => fct_ne i
theorem fct_rev (P : Nat) : pZ (fun j => (P : Int) - j) P = fct P := by
  rw [pZ_rev]
  exact pZ_congr P fun i hi => by omega
theorem fct_add (a k : Nat) : fct a * pZ (fun j => (a : Int) + 1 + j) k = fct (a + k) := by
  unfold fct
  rw [pZ_add]
  exact congrArg _ (pZ_congr k fun i _ => by omega)
/-- A product that slides by one. -/
theorem pZ_tel (A : Int) : ∀ q : Nat, pZ (fun j => A - j) q * (A - q) = A * pZ (fun j => A - 1 - j) q
  | 0 => by simp [pZ]
  | q + 1 => by
    rw [pZ, pZ_tel A q, pZ, Int.mul_assoc]
    rw [show A - ((q + 1 : Nat) : Int) = A - 1 - q by omega]

/-- How many of the first t numbers are above j. -/
def cq (q : Nat → Nat) (j : Nat) : Nat → Nat
  | 0 => 0
  | t + 1 => cq q j t + (if j < q t then 1 else 0)
theorem cq_full {q : Nat → Nat} {j : Nat} : ∀ t, (∀ s, s < t → j < q s) → cq q j t = t
  | 0, _ => rfl
  | t + 1, h => by rw [cq, cq_full t fun s hs => h s (by omega), if_pos (h t (by omega))]
theorem cq_congr {q q' : Nat → Nat} {j : Nat} : ∀ t, (∀ s, s < t → q s = q' s) → cq q j t = cq q' j t
  | 0, _ => rfl
  | t + 1, h => by rw [cq, cq, cq_congr t fun s hs => h s (by omega), h t (by omega)]
/-- The hooks of a row, and the differences to the rows below. -/
theorem hook_row (P : Nat) (q : Nat → Nat) (hP : ∀ s, q s ≤ P) (hq : ∀ s, q (s + 1) ≤ q s) : ∀ t, pZ (fun j => (P : Int) - j + cq q j t) P * pZ (fun s => (P : Int) - q s + (s + 1)) t = fct (P + t)
  | 0 => by
    rw [pZ, Int.mul_one, Nat.add_zero, ← fct_rev]
    exact pZ_congr P fun j _ => by simp [cq]
  | t + 1 => by
    have ih := hook_row P q hP hq t
    have hmono : ∀ s, s ≤ t → q t ≤ q s := fun s hs => by
      obtain ⟨d, rfl⟩ : ∃ d, t = s + d := ⟨t - s, by omega⟩
      clear ih hs
      induction d with
      | zero => exact Nat.le_refl _
      | succ d ihd => exact Nat.le_trans (hq (s + d)) ihd
    obtain ⟨d, hd⟩ : ∃ d, P = q t + d := ⟨P - q t, by have := hP t; omega⟩
    have e1 : pZ (fun j => (P : Int) - j + cq q j (t + 1)) P = pZ (fun j => ((P : Int) + t + 1) - j) (q t) * pZ (fun i => (P : Int) - ((q t + i : Nat) : Int) + cq q (q t + i) t) d := by
      conv => lhs; arg 2; rw [hd]
      rw [pZ_add]
      refine congr (congrArg _ (pZ_congr _ fun j hj => ?_)) (pZ_congr _ fun i _ => ?_)
      · rw [cq_full (t + 1) fun s hs => by have := hmono s (by omega); omega]; omega
      · rw [cq, if_neg (by omega), Nat.add_zero]
    have e2 : pZ (fun j => (P : Int) - j + cq q j t) P = pZ (fun j => ((P : Int) + t + 1) - 1 - j) (q t) * pZ (fun i => (P : Int) - ((q t + i : Nat) : Int) + cq q (q t + i) t) d := by
      conv => lhs; arg 2; rw [hd]
      rw [pZ_add]
      refine congr (congrArg _ (pZ_congr _ fun j hj => ?_)) rfl
      rw [cq_full t fun s hs => by have := hmono s (by omega); omega]; omega
    rw [e2] at ih
    rw [e1, pZ, ← Nat.add_assoc, fct_succ, ← ih]
    have h := pZ_tel ((P : Int) + t + 1) (q t)
    rw [show (P : Int) - q t + (t + 1) = (P : Int) + t + 1 - q t by omega, show (((P + t : Nat) : Int) + 1) = (P : Int) + t + 1 by omega]
    generalize pZ (fun j => ((P : Int) + t + 1) - j) (q t) = X at *
    generalize pZ (fun j => ((P : Int) + t + 1) - 1 - j) (q t) = Y at *
    generalize pZ (fun i => (P : Int) - ((q t + i : Nat) : Int) + cq q (q t + i) t) d = Z
    generalize pZ (fun s => (P : Int) - q s + (s + 1)) t = U
    calc X * Z * (U * ((P : Int) + t + 1 - q t)) = (X * ((P : Int) + t + 1 - q t)) * (Z * U) := by ac_rfl
      _ = Y * Z * U * ((P : Int) + t + 1) := by rw [h]; ac_rfl

/-- The hook of a box, the shape having M rows (0 among them, perhaps). -/
def hk (P : Nat → Nat) (M i j : Nat) : Int := (P i : Int) - j + cq (fun s => P (i + 1 + s)) j (M - 1 - i)
/-- Its numbers, from the last row on, each with its place. -/
def xs (P : Nat → Nat) (M k : Nat) : Nat := P (M - 1 - k) + k
theorem hook_van {P : Nat → Nat} (M : Nat) (h : ∀ i, P (i + 1) ≤ P i) : pZ (fun i => pZ (hk P M i) (P i)) M * van (fun k => (xs P M k : Int)) M = pZ (fun k => fct (xs P M k)) M := by
  have hm : ∀ i d, P (i + d) ≤ P i := fun i d => by
    induction d with
    | zero => exact Nat.le_refl _
    | succ d ih => exact Nat.le_trans (h (i + d)) ih
  rw [pZ_rev (fun i => pZ (hk P M i) (P i)) M, van, ← pZ_mul]
  refine pZ_congr M fun k hk' => ?_
  have e := hook_row (P (M - 1 - k)) (fun s => P (M - 1 - k + 1 + s)) (fun s => by have := hm (M - 1 - k) (1 + s); rw [← Nat.add_assoc] at this; exact this) (fun s => h _) k
  rw [show fct (xs P M k) = fct (P (M - 1 - k) + k) from rfl, ← e]
  refine congr (congrArg _ (pZ_congr _ fun j _ => ?_)) ?_
  · unfold hk
    rw [show M - 1 - (M - 1 - k) = k by omega]
  · rw [pZ_rev (fun i => ((xs P M k : Nat) : Int) - (xs P M i : Nat)) k]
    refine pZ_congr k fun s hs => ?_
    unfold xs
    rw [show M - 1 - (k - 1 - s) = M - 1 - k + 1 + s by omega]
    omega
theorem xs_up {P : Nat → Nat} {M : Nat} (h : ∀ i, P (i + 1) ≤ P i) (k : Nat) (hk : k + 1 < M) : xs P M k < xs P M (k + 1) := by
  unfold xs
  have := h (M - 1 - (k + 1))
  rw [show M - 1 - (k + 1) + 1 = M - 1 - k by omega] at this
  omega
/-- What the boxes' places come to. -/
def ctn (P : Nat → Nat) (M : Nat) : Int := pZ (fun i => pZ (fun j => (M : Int) - i + j) (P i)) M
theorem ctn_fct (P : Nat → Nat) (M : Nat) : ctn P M * sfc M = pZ (fun k => fct (xs P M k)) M := by
  unfold ctn sfc
  rw [pZ_rev fct M, ← pZ_mul, pZ_rev (fun k => fct (xs P M k)) M]
  refine pZ_congr M fun i hi => ?_
  have e := fct_add (M - 1 - i) (P i)
  rw [show fct (xs P M (M - 1 - i)) = fct (M - 1 - i + P i) by unfold xs; rw [show M - 1 - (M - 1 - i) = i by omega, Nat.add_comm], ← e, Int.mul_comm]
  exact congrArg _ (pZ_congr _ fun j _ => by omega)
/-- STANLEY'S: the hooks' product times the number of tableaux is that of what the places come to. -/
theorem hook_content {P : Nat → Nat} (M : Nat) (h : ∀ i, P (i + 1) ≤ P i) : pZ (fun i => pZ (hk P M i) (P i)) M * cntG M (fun k => (xs P M k : Int)) = ctn P M := by
  have h1 := hook_van M h
  rw [van_cnt M _ (fun i hi => by have := xs_up h i hi; omega), ← ctn_fct] at h1
  refine Int.eq_of_mul_eq_mul_right (sfc_ne M) ?_
  rw [← h1]
  ac_rfl

/-- How many ways there are down to nothing, one less at a time. -/
def fsd : Nat → Nat → (Nat → Int) → Int
  | 0, _, _ => 1
  | n + 1, m, x => sZ (fun k => if 1 ≤ x k ∧ (k = 0 ∨ x (k - 1) < x k - 1) then fsd n m (upF x k (x k - 1)) else 0) m
theorem van_same {x : Nat → Int} {m i j : Nat} (hi : i < j) (hj : j < m) (h : x i = x j) : van x m = 0 := by
  unfold van
  obtain ⟨d, rfl⟩ : ∃ d, m = (j + 1) + d := ⟨m - (j + 1), by omega⟩
  rw [pZ_add, pZ]
  obtain ⟨e, he⟩ : ∃ e, j = (i + 1) + e := ⟨j - (i + 1), by omega⟩
  have : pZ (fun i => x j - x i) j = 0 := by
    conv => lhs; arg 2; rw [he]
    rw [pZ_add, pZ, h, Int.sub_self, Int.mul_zero, Int.zero_mul]
  rw [this, Int.mul_zero, Int.zero_mul]
def fcz (x : Int) : Int := fct x.toNat
theorem fcz_step {x : Int} (h : 1 ≤ x) : x * fcz (x - 1) = fcz x := by
  unfold fcz
  obtain ⟨k, rfl⟩ : ∃ k : Nat, x = k + 1 := ⟨(x - 1).toNat, by omega⟩
  rw [show ((k : Int) + 1 - 1).toNat = k by omega, show ((k : Int) + 1).toNat = k + 1 by omega, fct_succ, Int.mul_comm]
theorem pZ_up (f : Int → Int) (x : Nat → Int) (k : Nat) (z : Int) : ∀ m, k < m → f (x k) * pZ (fun i => f (upF x k z i)) m = f z * pZ (fun i => f (x i)) m
  | 0, h => by omega
  | m + 1, h => by
    rw [pZ, pZ]
    by_cases e : k = m
    · subst e
      rw [pZ_congr k (f := fun i => f (upF x k z i)) (g := fun i => f (x i)) (fun i hi => by unfold upF; rw [if_neg (by omega)])]
      unfold upF
      rw [if_pos rfl]; ac_rfl
    · have ih := pZ_up f x k z m (by omega)
      rw [show upF x k z m = x m by unfold upF; rw [if_neg (fun q => e q.symm)], ← Int.mul_assoc, ih, Int.mul_assoc]
theorem sZ_up (x : Nat → Int) (k : Nat) (z : Int) : ∀ m, k < m → sZ (upF x k z) m = sZ x m + z - x k
  | 0, h => by omega
  | m + 1, h => by
    rw [sZ, sZ]
    by_cases e : k = m
    · subst e
      rw [sZ_congr k (f := upF x k z) (g := x) (fun i hi => by unfold upF; rw [if_neg (by omega)])]
      unfold upF
      rw [if_pos rfl]; omega
    · rw [sZ_up x k z m (by omega), show upF x k z m = x m by unfold upF; rw [if_neg (fun q => e q.symm)]]; omega
theorem sZ_mono {f g : Nat → Int} : ∀ m, (∀ i, i < m → f i ≤ g i) → sZ f m ≤ sZ g m
  | 0, _ => Int.le_refl _
  | m + 1, h => by rw [sZ, sZ]; have := sZ_mono m fun i hi => h i (by omega); have := h m (by omega); omega
theorem sZ_tight {f g : Nat → Int} : ∀ m, (∀ i, i < m → f i ≤ g i) → sZ g m ≤ sZ f m → ∀ i, i < m → f i = g i
  | 0, _, _, i, hi => by omega
  | m + 1, h, hs, i, hi => by
    rw [sZ, sZ] at hs
    have h1 := sZ_mono m fun i hi => h i (by omega)
    have h2 := h m (by omega)
    by_cases e : i = m
    · subst e; omega
    · exact sZ_tight m (fun i hi => h i (by omega)) (by omega) i (by omega)
/-- FRAME, ROBINSON, THRALL, by differences. -/
theorem van_fsd (m : Nat) : ∀ (n : Nat) (x : Nat → Int), (∀ i, i < m → 0 ≤ x i) → (∀ i, i + 1 < m → x i < x (i + 1)) → sZ x m = n + sZ (fun c => (c : Int)) m → fct n * van x m = fsd n m x * pZ (fun k => fcz (x k)) m := by
  intro n
  induction n with
  | zero =>
    intro x h0 h1 hs
    have hge : ∀ i, i < m → (i : Int) ≤ x i := fun i => by
      induction i with
      | zero => intro hi; exact h0 0 hi
      | succ i ih => intro hi; have := ih (by omega); have := h1 i hi; omega
    have he := sZ_tight (f := fun c => (c : Int)) m hge (by rw [hs]; simp)
    rw [fsd, Int.one_mul, show fct 0 = 1 from rfl, Int.one_mul]
    refine pZ_congr m fun j hj => ?_
    rw [← he j hj]
    unfold fcz
    rw [show (j : Int).toNat = j by omega, ← fct_rev]
    exact pZ_congr j fun i hi => by rw [← he i (by omega)]
  | succ n ih =>
    intro x h0 h1 hs
    have h := van_less x m
    rw [hs, show ((n + 1 : Nat) : Int) + sZ (fun c => (c : Int)) m - sZ (fun c => (c : Int)) m = (n : Int) + 1 by omega] at h
    rw [fct_succ, Int.mul_assoc, ← h, ← sZ_mul, fsd, Int.mul_comm (sZ _ m), ← sZ_mul]
    refine sZ_congr m fun k hk => ?_
    by_cases hv : 1 ≤ x k ∧ (k = 0 ∨ x (k - 1) < x k - 1)
    · rw [if_pos hv]
      have e := ih (upF x k (x k - 1)) (fun i hi => by unfold upF; split; omega; exact h0 i hi) (fun i hi => by
        have a1 := h1 i hi
        unfold upF
        by_cases q1 : i = k
        · rw [if_pos q1, if_neg (by omega)]; rw [← q1]; omega
        · rw [if_neg q1]
          by_cases q2 : i + 1 = k
          · rw [if_pos q2]
            rcases hv.2 with q | q
            · omega
            · rw [← q2] at q ⊢; exact q
          · rw [if_neg q2]; exact a1) (by rw [sZ_up x k _ m hk, hs]; omega)
      have e2 := pZ_up fcz x k (x k - 1) m hk
      have e3 := fcz_step hv.1
      have e4 : x k * pZ (fun i => fcz (upF x k (x k - 1) i)) m = pZ (fun i => fcz (x i)) m := by
        have hne : fcz (x k - 1) ≠ 0 := fct_ne _
        refine Int.eq_of_mul_eq_mul_left hne ?_
        rw [← e2, ← e3]; ac_rfl
      calc fct n * (x k * van (upF x k (x k - 1)) m) = x k * (fct n * van (upF x k (x k - 1)) m) := by ac_rfl
        _ = x k * pZ (fun i => fcz (upF x k (x k - 1) i)) m * fsd n m (upF x k (x k - 1)) := by rw [e]; ac_rfl
        _ = pZ (fun k => fcz (x k)) m * fsd n m (upF x k (x k - 1)) := by rw [e4]
    · rw [if_neg hv, Int.mul_zero]
      have hz : x k * van (upF x k (x k - 1)) m = 0 := by
        by_cases q : 1 ≤ x k
        · have q2 : ¬ (k = 0 ∨ x (k - 1) < x k - 1) := fun z => hv ⟨q, z⟩
          have q3 : k ≠ 0 := fun z => q2 (Or.inl z)
          have a1 := h1 (k - 1) (by omega)
          rw [show k - 1 + 1 = k by omega] at a1
          have q4 : x (k - 1) = x k - 1 := by
            have : ¬ x (k - 1) < x k - 1 := fun z => q2 (Or.inr z)
            omega
          rw [van_same (i := k - 1) (j := k) (by omega) hk (by unfold upF; rw [if_neg (by omega), if_pos rfl]; exact q4), Int.mul_zero]
        · have := h0 k hk
          rw [show x k = 0 by omega, Int.zero_mul]
      rw [hz, Int.mul_zero]
/-- .. by hooks. -/
theorem hook_fsd {P : Nat → Nat} (M n : Nat) (h : ∀ i, P (i + 1) ≤ P i) (hs : sZ (fun i => (P i : Int)) M = n) : pZ (fun i => pZ (hk P M i) (P i)) M * fsd n M (fun k => (xs P M k : Int)) = fct n := by
  have h1 := hook_van M h
  have h2 := van_fsd M n (fun k => (xs P M k : Int)) (fun i _ => by omega) (fun i hi => by have := xs_up h i hi; omega) (by
    have e : ∀ m, m ≤ M → sZ (fun k => (xs P M k : Int)) m = sZ (fun k => (P (M - 1 - k) : Int)) m + sZ (fun c => (c : Int)) m := fun m _ => by
      rw [← sZ_add]; exact sZ_congr m fun k _ => by unfold xs; omega
    have e2 : ∀ m, sZ (fun i => (P i : Int)) m = sZ (fun k => (P (m - 1 - k) : Int)) m := fun m => by
      induction m with
      | zero => rfl
      | succ m ih =>
        rw [sZ_shift (fun k => (P (m + 1 - 1 - k) : Int)) m, sZ, ih, Int.add_comm]
        refine congr (congrArg _ (by rw [show m + 1 - 1 - 0 = m by omega])) (sZ_congr m fun i hi => ?_)
        rw [show m + 1 - 1 - (i + 1) = m - 1 - i by omega]
    rw [e M (Nat.le_refl _), ← e2, hs])
  have hv : van (fun k => (xs P M k : Int)) M ≠ 0 := pZ_ne M fun j hj => pZ_ne j fun i hi => by
    have : ∀ d, i + d + 1 < M → xs P M i < xs P M (i + d + 1) := fun d => by
      induction d with
      | zero => intro hd; exact xs_up h i hd
      | succ d ih => intro hd; have := ih (by omega); have := xs_up h (i + d + 1) hd; rw [show i + (d + 1) + 1 = i + d + 1 + 1 by omega]; omega
    have := this (j - i - 1) (by omega)
    rw [show i + (j - i - 1) + 1 = j by omega] at this
    show ((xs P M j : Nat) : Int) - (xs P M i : Nat) ≠ 0
    omega
  have e3 : pZ (fun k => fcz (xs P M k : Int)) M = pZ (fun k => fct (xs P M k)) M := pZ_congr M fun k _ => by unfold fcz; rw [show ((xs P M k : Nat) : Int).toNat = xs P M k by omega]
  rw [e3, ← h1] at h2
  refine Int.eq_of_mul_eq_mul_right hv ?_
  rw [h2]; ac_rfl

end Go.Proofs.YtbiakncblkjmhaaGreatDoor

namespace Go.Proofs.YtbiakncblkjmhaaGreatDoor

/-- One box changed. -/
def upd2 (g : Nat → Nat → Nat) (i j x : Nat) : Nat → Nat → Nat := fun a b => if a = i ∧ b = j then x else g a b
def inc1 (u : Nat → Nat) (x : Nat) : Nat → Nat := fun y => if y = x then u y + 1 else u y
theorem upd2_same (g : Nat → Nat → Nat) (i j x : Nat) : upd2 g i j x i j = x := by simp [upd2]
theorem upd2_other (g : Nat → Nat → Nat) {i j x a b : Nat} (h : ¬ (a = i ∧ b = j)) : upd2 g i j x a b = g a b := by simp [upd2, h]

/-- The rows c, filled by g. -/
def tabN (c : Nat → Nat) (m : Nat) (g : Nat → Nat → Nat) : List (List Nat) := (List.range m).map fun i => (List.range (c i)).map (g i)
theorem tabN_at {c : Nat → Nat} {m : Nat} {g : Nat → Nat → Nat} {i j : Nat} (hi : i < m) (hj : j < c i) : ((tabN c m g).getD i []).getD j 0 = g i j := by
  simp [tabN, List.getD, hi, hj]
theorem tabN_congr {c : Nat → Nat} {m : Nat} {g g' : Nat → Nat → Nat} (h : ∀ i j, i < m → j < c i → g i j = g' i j) : tabN c m g = tabN c m g' := by
  unfold tabN
  refine List.map_congr_left fun i hi => List.map_congr_left fun j hj => h i j (List.mem_range.1 hi) (List.mem_range.1 hj)

def loN (g : Nat → Nat → Nat) (i j : Nat) : Nat := if i = 0 then 1 else g (i - 1) j + 1
def hiN (n : Nat) (c : Nat → Nat) (g : Nat → Nat → Nat) (i j : Nat) : Nat := if j + 1 = c i then n else g i (j + 1)
def mayN (b u : Nat → Nat) (x : Nat) : Bool := decide (u x ≠ b x) && (decide (x = 1) || decide (u x < u (x - 1)))

/-- What the search hands on. -/
def srch (n : Nat) (b c : Nat → Nat) (m : Nat) : List (Nat × Nat) → (Nat → Nat → Nat) → (Nat → Nat) → List (List (List Nat))
  | [], g, _ => [tabN c m g]
  | (i, j) :: bs, g, u => (List.range' (loN g i j) (hiN n c g i j + 1 - loN g i j)).flatMap fun x => if mayN b u x then srch n b c m bs (upd2 g i j x) (inc1 u x) else []

/-- The boxes come in such an order that what is above and what is right of one comes ahead of it. -/
def OrdB : List (Nat × Nat) → Prop
  | [] => True
  | (i, j) :: bs => (i, j) ∉ bs ∧ (0 < i → (i - 1, j) ∉ bs) ∧ (i, j + 1) ∉ bs ∧ OrdB bs

def Loc (n : Nat) (b c : Nat → Nat) : List (Nat × Nat) → (Nat → Nat → Nat) → (Nat → Nat) → Prop
  | [], _, _ => True
  | (i, j) :: bs, g, u => loN g i j ≤ g i j ∧ g i j ≤ hiN n c g i j ∧ mayN b u (g i j) = true ∧ Loc n b c bs g (inc1 u (g i j))

theorem lo_congr {g g' : Nat → Nat → Nat} {i j : Nat} (h : 0 < i → g (i - 1) j = g' (i - 1) j) : loN g i j = loN g' i j := by
  unfold loN
  split
  · rfl
  · rw [h (by omega)]
theorem hi_congr {n : Nat} {c : Nat → Nat} {g g' : Nat → Nat → Nat} {i j : Nat} (h : g i (j + 1) = g' i (j + 1)) : hiN n c g i j = hiN n c g' i j := by
  unfold hiN; rw [h]

/-- What lies in the boxes that are still to come makes no difference. -/
theorem srch_congr (n : Nat) (b c : Nat → Nat) (m : Nat) : ∀ (bs : List (Nat × Nat)) (g g' : Nat → Nat → Nat) (u : Nat → Nat), OrdB bs → (∀ i j, (i, j) ∉ bs → g i j = g' i j) → srch n b c m bs g u = srch n b c m bs g' u := by
  intro bs
  induction bs with
  | nil => intro g g' u _ h; simp only [srch]; rw [show g = g' from funext fun i => funext fun j => h i j (by simp)]
  | cons x bs ih =>
    obtain ⟨i, j⟩ := x
    intro g g' u ho h
    obtain ⟨h1, h2, h3, h4⟩ := ho
    have e1 : loN g i j = loN g' i j := lo_congr (fun hi => h _ _ (by simp only [List.mem_cons, not_or]; exact ⟨fun e => by have := (Prod.mk.inj e).1; omega, h2 hi⟩))
    have e2 : hiN n c g i j = hiN n c g' i j := hi_congr (h _ _ (by simp only [List.mem_cons, not_or]; exact ⟨fun e => by have := (Prod.mk.inj e).2; omega, h3⟩))
    simp only [srch]
    rw [e1, e2]
    congr 1
    funext x
    split
    · refine ih _ _ _ h4 fun a b hab => ?_
      by_cases e : a = i ∧ b = j
      · obtain ⟨rfl, rfl⟩ := e; rw [upd2_same, upd2_same]
      · rw [upd2_other _ e, upd2_other _ e]
        exact h _ _ (by simp only [List.mem_cons, not_or]; exact ⟨fun e2 => e (Prod.mk.inj e2), hab⟩)
    · rfl

theorem mem_srch (n : Nat) (b c : Nat → Nat) (m : Nat) : ∀ (bs : List (Nat × Nat)) (g : Nat → Nat → Nat) (u : Nat → Nat) (t : List (List Nat)), OrdB bs →
    (t ∈ srch n b c m bs g u ↔ ∃ g', t = tabN c m g' ∧ (∀ i j, (i, j) ∉ bs → g' i j = g i j) ∧ Loc n b c bs g' u) := by
  intro bs
  induction bs with
  | nil =>
    intro g u t _
    simp only [srch, List.mem_singleton, Loc, and_true]
    constructor
    · rintro rfl; exact ⟨g, rfl, fun _ _ _ => rfl⟩
    · rintro ⟨g', rfl, h⟩
      rw [show g' = g from funext fun i => funext fun j => h i j (by simp)]
  | cons x bs ih =>
    obtain ⟨i, j⟩ := x
    intro g u t ho
    obtain ⟨h1, h2, h3, h4⟩ := ho
    simp only [srch, List.mem_flatMap, Loc]
    have key : ∀ g' : Nat → Nat → Nat, (∀ a b, (a, b) ∉ (i, j) :: bs → g' a b = g a b) → loN g' i j = loN g i j ∧ hiN n c g' i j = hiN n c g i j := fun g' h =>
      ⟨lo_congr (fun hi => h _ _ (by simp only [List.mem_cons, not_or]; exact ⟨fun e => by have := (Prod.mk.inj e).1; omega, h2 hi⟩)),
       hi_congr (h _ _ (by simp only [List.mem_cons, not_or]; exact ⟨fun e => by have := (Prod.mk.inj e).2; omega, h3⟩))⟩
    constructor
    · rintro ⟨x, hx, ht⟩
      by_cases hm : mayN b u x = true
      · rw [if_pos hm] at ht
        obtain ⟨g', rfl, hg, hl⟩ := (ih _ _ _ h4).1 ht
        have e : g' i j = x := by rw [hg i j h1, upd2_same]
        have hg2 : ∀ a b, (a, b) ∉ (i, j) :: bs → g' a b = g a b := fun a b hab => by
          simp only [List.mem_cons, not_or] at hab
          rw [hg a b hab.2, upd2_other _ (fun e2 => hab.1 (by rw [e2.1, e2.2]))]
        obtain ⟨k1, k2⟩ := key g' hg2
        have hr := List.mem_range'_1.1 hx
        exact ⟨g', rfl, hg2, by rw [k1, e]; exact hr.1, by rw [k2, e]; omega, by rw [e]; exact hm, by rw [e]; exact hl⟩
      · rw [if_neg hm] at ht; cases ht
    · rintro ⟨g', rfl, hg, l1, l2, l3, l4⟩
      obtain ⟨k1, k2⟩ := key g' hg
      refine ⟨g' i j, List.mem_range'_1.2 ⟨by rw [← k1]; exact l1, by rw [← k1, ← k2]; omega⟩, ?_⟩
      rw [if_pos l3]
      refine (ih _ _ _ h4).2 ⟨g', rfl, fun a b hab => ?_, l4⟩
      by_cases e : a = i ∧ b = j
      · obtain ⟨rfl, rfl⟩ := e; rw [upd2_same]
      · rw [upd2_other _ e]
        exact hg a b (by simp only [List.mem_cons, not_or]; exact ⟨fun e2 => e (Prod.mk.inj e2), hab⟩)

theorem nodup_flat {α β : Type} (f : α → List β) : ∀ l : List α, l.Nodup → (∀ x ∈ l, (f x).Nodup) → (∀ x ∈ l, ∀ y ∈ l, x ≠ y → ∀ z ∈ f x, z ∉ f y) → (l.flatMap f).Nodup := by
  intro l
  induction l with
  | nil => intro _ _ _; simp
  | cons a l ih =>
    intro h1 h2 h3
    rw [List.flatMap_cons, List.nodup_append]
    obtain ⟨ha, hl⟩ := List.nodup_cons.1 h1
    refine ⟨h2 a (by simp), ih hl (fun x hx => h2 x (by simp [hx])) (fun x hx y hy => h3 x (by simp [hx]) y (by simp [hy])), fun z hz z' hz' e => ?_⟩
    subst e
    obtain ⟨y, hy, hzy⟩ := List.mem_flatMap.1 hz'
    exact h3 a (by simp) y (by simp [hy]) (fun e => ha (by rw [e]; exact hy)) z hz hzy

theorem srch_nodup (n : Nat) (b c : Nat → Nat) (m : Nat) : ∀ (bs : List (Nat × Nat)) (g : Nat → Nat → Nat) (u : Nat → Nat), OrdB bs → (∀ p ∈ bs, p.1 < m ∧ p.2 < c p.1) → (srch n b c m bs g u).Nodup := by
  intro bs
  induction bs with
  | nil => intro g u _ _; simp [srch]
  | cons x bs ih =>
    obtain ⟨i, j⟩ := x
    intro g u ho hin
    obtain ⟨h1, h2, h3, h4⟩ := ho
    have hij := hin (i, j) (by simp)
    simp only [srch]
    have hv : ∀ x t, t ∈ (if mayN b u x then srch n b c m bs (upd2 g i j x) (inc1 u x) else []) → (t.getD i []).getD j 0 = x := fun x t ht => by
      split at ht
      · obtain ⟨g', rfl, hg, _⟩ := (mem_srch n b c m bs _ _ _ h4).1 ht
        rw [tabN_at hij.1 hij.2, hg i j h1, upd2_same]
      · cases ht
    refine nodup_flat _ _ (List.nodup_range' ..) (fun x _ => ?_) (fun x _ y _ hxy z hz hz' => hxy ((hv x z hz).symm.trans (hv y z hz')))
    split
    · exact ih _ _ h4 (fun p hp => hin p (by simp [hp]))
    · simp

end Go.Proofs.YtbiakncblkjmhaaGreatDoor

namespace Go.Proofs.YtbiakncblkjmhaaGreatDoor

/-- How often u falls behind place m, k places on. -/
def cntD (u : Nat → Nat) : Nat → Nat → Nat
  | _, 0 => 0
  | m, k + 1 => (if u (m + 1) < u m then 1 else 0) + cntD u (m + 1) k
def sumU (u : Nat → Nat) : Nat → Nat → Nat
  | m, 0 => u m
  | m, k + 1 => u m + sumU u (m + 1) k
theorem cntD_le (u : Nat → Nat) : ∀ k m, (∀ x, m ≤ x → x < m + k → u (x + 1) ≤ u x) → cntD u m k ≤ u m ∧ cntD u m k * (cntD u m k + 1) ≤ 2 * sumU u m k := by
  intro k
  induction k with
  | zero => intro m _; simp [cntD]
  | succ k ih =>
    intro m h
    obtain ⟨h1, h2⟩ := ih (m + 1) (fun x hx hx2 => h x (by omega) (by omega))
    have h3 := h m (Nat.le_refl _) (by omega)
    simp only [cntD, sumU]
    generalize cntD u (m + 1) k = r at *
    by_cases e : u (m + 1) < u m
    · rw [if_pos e]
      refine ⟨by omega, ?_⟩
      have e1 : (1 + r) * (1 + r + 1) = r * (r + 1) + 2 * (r + 1) := by
        rw [Nat.add_mul, Nat.one_mul, Nat.mul_add r (1 + r) 1, Nat.add_comm 1 r]; omega
      omega
    · rw [if_neg e, Nat.zero_add]
      exact ⟨by omega, by omega⟩
theorem six_of {r S : Nat} (h : r * (r + 1) ≤ 2 * S) (hS : S ≤ 15) : r ≤ 5 := by
  rcases Nat.lt_or_ge 5 r with h1 | h1
  · have : 6 * 7 ≤ r * (r + 1) := Nat.mul_le_mul h1 (by omega)
    omega
  · exact h1

theorem flat_len {α β : Type} (p : α → Bool) (f : α → List β) (M : Nat) : ∀ l : List α, (∀ x ∈ l, p x = true → (f x).length ≤ M) → (l.flatMap fun x => if p x then f x else []).length ≤ l.countP p * M := by
  intro l
  induction l with
  | nil => intro _; simp
  | cons a l ih =>
    intro h
    have h1 := ih (fun x hx => h x (by simp [hx]))
    rw [List.flatMap_cons, List.length_append, List.countP_cons]
    by_cases e : p a = true
    · have := h a (by simp) e
      simp only [e, if_true]
      rw [Nat.add_mul, Nat.one_mul]; omega
    · simp only [e]
      simpa using h1

theorem may_cnt (b u : Nat → Nat) : ∀ k m, 1 ≤ m → (List.range' (m + 1) k).countP (mayN b u) ≤ cntD u m k := by
  intro k
  induction k with
  | zero => intro m _; simp [cntD]
  | succ k ih =>
    intro m hm
    rw [List.range'_succ, List.countP_cons]
    have := ih (m + 1) (by omega)
    simp only [cntD]
    by_cases e : u (m + 1) < u m
    · rw [if_pos e]
      split <;> omega
    · rw [if_neg e]
      have : mayN b u (m + 1) = false := by
        unfold mayN
        have e2 : decide (m + 1 = 1) = false := decide_eq_false (by omega)
        have e3 : decide (u (m + 1) < u (m + 1 - 1)) = false := decide_eq_false (by simpa using e)
        rw [e2, e3]; simp
      rw [this]; simp; omega
theorem range_sub {lo len n : Nat} (h1 : 1 ≤ lo) (h2 : lo + len ≤ n + 1) : (List.range' lo len).Sublist (List.range' 1 n) := by
  have e : List.range' 1 n = List.range' 1 (lo - 1) ++ (List.range' lo len ++ List.range' (lo + len) (n + 1 - lo - len)) := by
    have a1 : List.range' lo len ++ List.range' (lo + len) (n + 1 - lo - len) = List.range' lo (len + (n + 1 - lo - len)) := List.range'_append_1
    rw [a1]
    have a2 : List.range' 1 (lo - 1) ++ List.range' (1 + (lo - 1)) (len + (n + 1 - lo - len)) = List.range' 1 (lo - 1 + (len + (n + 1 - lo - len))) := List.range'_append_1
    rw [show 1 + (lo - 1) = lo by omega] at a2
    rw [a2]
    congr 1; omega
  rw [e]
  exact (List.sublist_append_left _ _).trans (List.sublist_append_right _ _)
theorem may_six {n lo hi : Nat} {b u : Nat → Nat} (h1 : 1 ≤ lo) (h2 : hi ≤ n) (hd : ∀ x, 1 ≤ x → x < n → u (x + 1) ≤ u x) (hs : sumU u 1 (n - 1) ≤ 15) : (List.range' lo (hi + 1 - lo)).countP (mayN b u) ≤ 6 := by
  rcases Nat.lt_or_ge hi lo with h | h
  · rw [show hi + 1 - lo = 0 by omega]; simp
  · have := List.Sublist.countP_le (p := mayN b u) (range_sub (n := n) h1 (show lo + (hi + 1 - lo) ≤ n + 1 by omega))
    obtain ⟨k, rfl⟩ : ∃ k, n = k + 1 := ⟨n - 1, by omega⟩
    rw [List.range'_succ, List.countP_cons] at this
    have m1 := may_cnt b u k 1 (Nat.le_refl _)
    obtain ⟨_, c2⟩ := cntD_le u k 1 (fun x hx hx2 => hd x hx (by omega))
    have := six_of c2 (by simpa using hs)
    split at * <;> omega

theorem sumU_inc (u : Nat → Nat) (x : Nat) : ∀ k m, m ≤ x → x ≤ m + k → sumU (inc1 u x) m k = sumU u m k + 1 := by
  intro k
  induction k with
  | zero => intro m h1 h2; obtain rfl : m = x := by omega
            simp [sumU, inc1]
  | succ k ih =>
    intro m h1 h2
    simp only [sumU]
    by_cases e : m = x
    · subst e
      have : ∀ k q, m < q → sumU (inc1 u m) q k = sumU u q k := by
        intro k
        induction k with
        | zero => intro q hq; simp only [sumU, inc1]; rw [if_neg (by omega)]
        | succ k ih2 => intro q hq; simp only [sumU]; rw [ih2 _ (by omega)]; simp only [inc1]; rw [if_neg (by omega)]
      rw [this k (m + 1) (by omega)]
      simp only [inc1, if_true]; omega
    · rw [ih (m + 1) (by omega) (by omega)]
      simp only [inc1]
      rw [if_neg e]; omega
theorem inc_dec {n x : Nat} {b u : Nat → Nat} (hm : mayN b u x = true) (hd : ∀ y, 1 ≤ y → y < n → u (y + 1) ≤ u y) : ∀ y, 1 ≤ y → y < n → inc1 u x (y + 1) ≤ inc1 u x y := fun y h1 h2 => by
  have := hd y h1 h2
  unfold inc1
  by_cases e : y + 1 = x
  · rw [if_pos e, if_neg (by omega)]
    unfold mayN at hm
    simp only [Bool.and_eq_true, Bool.or_eq_true, decide_eq_true_eq] at hm
    rcases hm.2 with h | h
    · omega
    · rw [e]; rw [show x - 1 = y by omega] at h; omega
  · rw [if_neg e]
    split <;> omega

theorem srch_len (n : Nat) (b c : Nat → Nat) (m : Nat) : ∀ (bs : List (Nat × Nat)) (g : Nat → Nat → Nat) (u : Nat → Nat), (∀ i j, g i j ≤ n) → (∀ x, 1 ≤ x → x < n → u (x + 1) ≤ u x) → (0 < n → sumU u 1 (n - 1) + bs.length ≤ 16) → (srch n b c m bs g u).length ≤ 6 ^ bs.length := by
  intro bs
  induction bs with
  | nil => intro g u _ _ _; simp [srch]
  | cons x bs ih =>
    obtain ⟨i, j⟩ := x
    intro g u hg hd hs
    simp only [srch]
    have hlo : 1 ≤ loN g i j := by unfold loN; split <;> omega
    have hhi : hiN n c g i j ≤ n := by
      unfold hiN
      split
      · exact Nat.le_refl _
      · exact hg _ _
    rcases Nat.eq_zero_or_pos n with h0 | h0
    · rw [show hiN n c g i j + 1 - loN g i j = 0 by omega]; simp
    · have hs0 := hs h0
      simp only [List.length_cons] at hs0
      have k1 := may_six (b := b) hlo hhi hd (by omega)
      refine Nat.le_trans (flat_len (mayN b u) _ (6 ^ bs.length) _ (fun x hx hm => ?_)) ?_
      · have hr := List.mem_range'_1.1 hx
        refine ih _ _ (fun a d => ?_) (inc_dec hm hd) (fun _ => ?_)
        · unfold upd2; split
          · omega
          · exact hg a d
        · rw [sumU_inc u x (n - 1) 1 (by omega) (by omega)]; omega
      · rw [List.length_cons, Nat.pow_succ, Nat.mul_comm]
        exact Nat.mul_le_mul_left _ k1

/-- Strips: what may come in row i and the rows behind it. -/
def hiG (p c : Nat → Nat) (i : Nat) : Nat := if i = 0 then c 0 else min (p (i - 1)) (c i)
def grN (p c : Nat → Nat) : Nat → Nat → Nat → List (List Nat)
  | 0, _, left => if left = 0 then [[]] else []
  | m + 1, i, left => (List.range (min (hiG p c i + 1 - p i) (left + 1))).flatMap fun d => (grN p c m (i + 1) (left - d)).map fun q => (p i + d) :: q
def avG (p c : Nat → Nat) : Nat → Nat → Nat
  | 0, _ => 0
  | m + 1, i => (if p i < hiG p c i then 1 else 0) + avG p c m (i + 1)
theorem avG_le (p c : Nat → Nat) : ∀ m i, avG p c m (i + 1) ≤ cntD p i m := by
  intro m
  induction m with
  | zero => intro i; simp [avG]
  | succ m ih =>
    intro i
    have := ih (i + 1)
    simp only [avG, cntD]
    by_cases e : p (i + 1) < hiG p c (i + 1)
    · have : p (i + 1) < p i := by
        unfold hiG at e
        rw [if_neg (by omega)] at e
        simp only [Nat.add_sub_cancel] at e
        omega
      rw [if_pos e, if_pos this]; omega
    · rw [if_neg e]; omega
theorem geo (B : Nat) : ∀ L, ((List.range (L + 1)).map fun d => B ^ (L - d)).sum ≤ (B + 1) ^ L := by
  intro L
  induction L with
  | zero => simp
  | succ L ih =>
    rw [List.range_succ, List.map_append, List.sum_append]
    have e : (List.range (L + 1)).map (fun d => B ^ (L + 1 - d)) = (List.range (L + 1)).map (fun d => B * B ^ (L - d)) :=
      List.map_congr_left fun d hd => by
        have := List.mem_range.1 hd
        rw [show L + 1 - d = (L - d) + 1 by omega, Nat.pow_succ, Nat.mul_comm]
    have e2 : ∀ l : List Nat, (l.map fun d => B * B ^ (L - d)).sum = B * (l.map fun d => B ^ (L - d)).sum := by
      intro l
      induction l with
      | nil => simp
      | cons a l ih => simp only [List.map_cons, List.sum_cons]; rw [ih, Nat.mul_add]
    rw [e, e2]
    have h1 : 1 ≤ (B + 1) ^ L := Nat.one_le_pow _ _ (by omega)
    have h2 := Nat.mul_le_mul_left B ih
    have h3 : (B + 1) ^ (L + 1) = B * (B + 1) ^ L + (B + 1) ^ L := by
      rw [Nat.pow_succ, Nat.mul_add, Nat.mul_comm, Nat.mul_one]
    simp
    omega
theorem geo_le (B L k : Nat) (h : k ≤ L + 1) : ((List.range k).map fun d => B ^ (L - d)).sum ≤ (B + 1) ^ L := by
  refine Nat.le_trans ?_ (geo B L)
  obtain ⟨j, hj⟩ : ∃ j, L + 1 = k + j := ⟨L + 1 - k, by omega⟩
  rw [hj, List.range_add, List.map_append, List.sum_append]
  omega
theorem sum_le {f g : Nat → Nat} : ∀ l : List Nat, (∀ d ∈ l, f d ≤ g d) → (l.map f).sum ≤ (l.map g).sum := by
  intro l
  induction l with
  | nil => intro _; simp
  | cons a l ih =>
    intro h
    simp only [List.map_cons, List.sum_cons]
    have h1 := h a (by simp)
    have h2 := ih (fun d hd => h d (by simp [hd]))
    omega
theorem gr_len0 (p c : Nat → Nat) : ∀ m i left, (grN p c m i left).length ≤ (avG p c m i) ^ left := by
  intro m
  induction m with
  | zero =>
    intro i left
    simp only [grN, avG]
    split
    · rename_i h; subst h; simp
    · simp
  | succ m ih =>
    intro i left
    simp only [grN, avG, List.length_flatMap, List.length_map]
    refine Nat.le_trans (sum_le (g := fun d => (avG p c m (i + 1)) ^ (left - d)) _ (fun d _ => ih (i + 1) (left - d))) ?_
    by_cases e : p i < hiG p c i
    · rw [if_pos e, Nat.add_comm 1]
      exact geo_le _ _ _ (by omega)
    · rw [if_neg e, Nat.zero_add]
      have h1 : min (hiG p c i + 1 - p i) (left + 1) ≤ 1 := by omega
      rcases Nat.eq_zero_or_pos (min (hiG p c i + 1 - p i) (left + 1)) with h0 | h0
      · rw [h0]; simp
      · rw [show min (hiG p c i + 1 - p i) (left + 1) = 1 by omega]; simp
theorem gr_len {p c : Nat → Nat} {m k : Nat} (hm : 0 < m) (hd : ∀ x, x + 1 < m → p (x + 1) ≤ p x) (hs : sumU p 0 (m - 1) + k ≤ 16) : (grN p c m 0 k).length ≤ 6 ^ k := by
  rcases Nat.eq_zero_or_pos k with h0 | h0
  · subst h0; have := gr_len0 p c m 0 0; simpa using this
  · refine Nat.le_trans (gr_len0 p c m 0 k) (Nat.pow_le_pow_left ?_ k)
    obtain ⟨q, rfl⟩ : ∃ q, m = q + 1 := ⟨m - 1, by omega⟩
    have h1 := avG_le p c q 0
    obtain ⟨_, h2⟩ := cntD_le p q 0 (fun x _ hx => hd x (by omega))
    have := six_of h2 (by simp at hs; omega)
    simp only [avG]
    split <;> omega

end Go.Proofs.YtbiakncblkjmhaaGreatDoor

namespace Go.Proofs.YtbiakncblkjmhaaGreatDoor

def nrow (t : List (List Nat)) (r : Nat) : List Nat := t.getD r []
def at2 (t : List (List Nat)) (r j : Nat) : Nat := (nrow t r).getD j 0
def len2 (t : List (List Nat)) (r : Nat) : Nat := (nrow t r).length
/-- The letters, nrow by nrow, each from right to left. -/
def rwd (t : List (List Nat)) : List Nat := t.flatMap List.reverse
/-- Never more x than x - 1, k more of x - 1 so far. -/
def lat (x : Nat) : Nat → List Nat → Bool
  | _, [] => true
  | k, y :: w => if y + 1 = x then lat x (k + 1) w else if y = x then (decide (k ≠ 0) && lat x (k - 1) w) else lat x k w

theorem lat_filter (x : Nat) (p : Nat → Bool) (hp : p x = true) (hp2 : ∀ y, y + 1 = x → p y = true) : ∀ (w : List Nat) (k : Nat), lat x k (w.filter p) = lat x k w := by
  intro w
  induction w with
  | nil => intro k; rfl
  | cons y w ih =>
    intro k
    by_cases h1 : y + 1 = x
    · rw [List.filter_cons_of_pos (hp2 y h1)]
      simp only [lat, if_pos h1]; exact ih _
    · by_cases h2 : y = x
      · subst h2
        rw [List.filter_cons_of_pos hp]
        simp only [lat, if_neg h1, if_true]; rw [ih]
      · by_cases h3 : p y = true
        · rw [List.filter_cons_of_pos h3]
          simp only [lat, if_neg h1, if_neg h2]; exact ih _
        · rw [List.filter_cons_of_neg h3]
          simp only [lat, if_neg h1, if_neg h2]; exact ih _
theorem count_filter_pos {p : Nat → Bool} {y : Nat} (h : p y = true) (w : List Nat) : (w.filter p).count y = w.count y := List.count_filter h

theorem tab_ext : ∀ {t t' : List (List Nat)}, (∀ r, r < t.length → 0 < len2 t r) → (∀ r, r < t'.length → 0 < len2 t' r) → (∀ r, nrow t r = nrow t' r) → t = t' := by
  intro t t' h1 h2 h
  have hl : t.length = t'.length := by
    rcases Nat.lt_trichotomy t.length t'.length with e | e | e
    · have := h2 t.length e
      unfold len2 at this
      rw [← h] at this
      unfold nrow at this
      rw [List.getD, List.getElem?_eq_none (Nat.le_refl _)] at this
      simp at this
    · exact e
    · have := h1 t'.length e
      unfold len2 at this
      rw [h] at this
      unfold nrow at this
      rw [List.getD, List.getElem?_eq_none (Nat.le_refl _)] at this
      simp at this
  refine List.ext_getElem hl fun r h3 h4 => ?_
  have := h r
  unfold nrow at this
  simpa [List.getD, h3, h4] using this

theorem rwd_rows (t : List (List Nat)) {K : Nat} (h : t.length ≤ K) : rwd t = (List.range K).flatMap fun r => (nrow t r).reverse := by
  induction t generalizing K with
  | nil =>
    unfold rwd nrow
    simp
  | cons a t ih =>
    obtain ⟨K, rfl⟩ : ∃ K', K = K' + 1 := ⟨K - 1, by simp at h; omega⟩
    rw [List.range_succ_eq_map, List.flatMap_cons, List.flatMap_map]
    have := ih (K := K) (by simpa using h)
    unfold rwd nrow at *
    rw [List.flatMap_cons, this]
    simp
theorem row_map {f : Nat → List Nat} {K r : Nat} : nrow ((List.range K).map f) r = if r < K then f r else [] := by
  unfold nrow
  by_cases h : r < K
  · simp [List.getD, h]
  · rw [if_neg h, List.getD, List.getElem?_eq_none (by simp; omega)]; rfl

/-- The rows of t, made as long as q says, by x. -/
def growT (t : List (List Nat)) (x : Nat) (q : List Nat) : List (List Nat) := (List.range q.length).map fun r => nrow t r ++ List.replicate (q.getD r 0 - len2 t r) x
theorem grow_row {t : List (List Nat)} {x : Nat} {q : List Nat} (h : ∀ r, len2 t r ≤ q.getD r 0) (r : Nat) : nrow (growT t x q) r = nrow t r ++ List.replicate (q.getD r 0 - len2 t r) x := by
  unfold growT
  rw [row_map]
  by_cases e : r < q.length
  · rw [if_pos e]
  · rw [if_neg e]
    have h0 : q.getD r 0 = 0 := by rw [List.getD, List.getElem?_eq_none (by omega)]; rfl
    have := h r
    rw [h0] at this ⊢
    have h1 : nrow t r = [] := List.eq_nil_of_length_eq_zero (by unfold len2 at this; omega)
    rw [h1]; simp
theorem grow_len {t : List (List Nat)} {x : Nat} {q : List Nat} (h : ∀ r, len2 t r ≤ q.getD r 0) (r : Nat) : len2 (growT t x q) r = q.getD r 0 := by
  unfold len2
  rw [grow_row h]
  have := h r
  unfold len2 at *
  rw [List.length_append, List.length_replicate]; omega
theorem grow_at {t : List (List Nat)} {x : Nat} {q : List Nat} (h : ∀ r, len2 t r ≤ q.getD r 0) (r j : Nat) (hj : j < q.getD r 0) : at2 (growT t x q) r j = if j < len2 t r then at2 t r j else x := by
  unfold at2
  rw [grow_row h]
  generalize q.getD r 0 = Q at *
  by_cases e : j < len2 t r
  · rw [if_pos e]
    simp only [List.getD]
    rw [List.getElem?_append_left (by exact e)]
  · rw [if_neg e]
    simp only [List.getD]
    rw [List.getElem?_append_right (by unfold len2 at e; omega), List.getElem?_replicate]
    unfold len2 at *
    rw [if_pos (by omega)]; rfl

theorem sorted_split (x : Nat) : ∀ l : List Nat, l.Pairwise (· ≤ ·) → (∀ e ∈ l, e ≤ x + 1) → l = l.filter (fun e => decide (e ≤ x)) ++ List.replicate (l.length - (l.filter (fun e => decide (e ≤ x))).length) (x + 1) := by
  intro l
  induction l with
  | nil => intro _ _; simp
  | cons h l ih =>
    intro hp hb
    obtain ⟨h1, h2⟩ := List.pairwise_cons.1 hp
    by_cases e : h ≤ x
    · rw [List.filter_cons_of_pos (by simpa using e)]
      have := ih h2 (fun z hz => hb z (by simp [hz]))
      simp only [List.length_cons, List.cons_append, Nat.add_sub_add_right]
      rw [← this]
    · have e1 : h = x + 1 := by have := hb h (by simp); omega
      have e2 : ∀ z ∈ l, z = x + 1 := fun z hz => by have := hb z (by simp [hz]); have := h1 z hz; omega
      have e3 : (h :: l).filter (fun e => decide (e ≤ x)) = [] := by
        rw [List.filter_eq_nil_iff]
        intro z hz
        rcases List.mem_cons.1 hz with rfl | hz
        · simpa using e
        · have := e2 z hz; simp; omega
      rw [e3]
      simp only [List.length_nil, Nat.sub_zero, List.nil_append]
      rw [List.eq_replicate_iff]
      exact ⟨rfl, fun z hz => by rcases List.mem_cons.1 hz with rfl | hz; exact e1; exact e2 z hz⟩

/-- A filling by letters up to x, in the making. -/
structure PF (a b c : Nat → Nat) (m x : Nat) (t : List (List Nat)) : Prop where
  rows : t.length ≤ m
  ne : ∀ r, r < t.length → 0 < len2 t r
  lo : ∀ r, a r ≤ len2 t r
  hi : ∀ r, len2 t r ≤ c r
  dec : ∀ r, len2 t (r + 1) ≤ len2 t r
  hole : ∀ r j, j < a r → at2 t r j = 0
  pos : ∀ r j, a r ≤ j → j < len2 t r → 1 ≤ at2 t r j ∧ at2 t r j ≤ x
  srt : ∀ r, (nrow t r).Pairwise (· ≤ ·)
  col : ∀ r j, a (r + 1) ≤ j → j < len2 t (r + 1) → at2 t r j < at2 t (r + 1) j
  cnt : ∀ y, 1 ≤ y → y ≤ x → (rwd t).count y = b y
  ltc : ∀ y, 2 ≤ y → y ≤ x → lat y 0 (rwd t) = true

theorem at_mem {l : List Nat} {e : Nat} (h : e ∈ l) : ∃ j, j < l.length ∧ l.getD j 0 = e := by
  obtain ⟨j, hj, he⟩ := List.getElem_of_mem h
  exact ⟨j, hj, by simp [List.getD, hj, he]⟩
theorem mem_at {l : List Nat} {j : Nat} (h : j < l.length) : l.getD j 0 ∈ l := by
  simp [List.getD, h]
theorem PF.le {a b c : Nat → Nat} {m x : Nat} {t : List (List Nat)} (h : PF a b c m x t) (r : Nat) : ∀ e ∈ nrow t r, e ≤ x := fun e he => by
  obtain ⟨j, hj, rfl⟩ := at_mem he
  by_cases hh : j < a r
  · have := h.hole r j hh; unfold at2 at this; omega
  · exact (h.pos r j (by omega) hj).2

theorem filter_flat {α : Type} (p : Nat → Bool) (f : α → List Nat) : ∀ l : List α, (l.flatMap f).filter p = l.flatMap fun r => (f r).filter p := by
  intro l
  induction l with
  | nil => rfl
  | cons a l ih => rw [List.flatMap_cons, List.filter_append, ih, List.flatMap_cons]
theorem flat_congr {α : Type} {f g : α → List Nat} : ∀ l : List α, (∀ r ∈ l, f r = g r) → l.flatMap f = l.flatMap g := by
  intro l
  induction l with
  | nil => intro _; rfl
  | cons a l ih => intro h; rw [List.flatMap_cons, List.flatMap_cons, h a (by simp), ih (fun r hr => h r (by simp [hr]))]
/-- The word of a table cut down to the letters up to x. -/
theorem rwd_cut {t t' : List (List Nat)} {x K : Nat} (h1 : t.length ≤ K) (h2 : t'.length ≤ K) (h : ∀ r, nrow t r = (nrow t' r).filter (fun e => decide (e ≤ x))) : rwd t = (rwd t').filter (fun e => decide (e ≤ x)) := by
  rw [rwd_rows t h1, rwd_rows t' h2, filter_flat]
  exact flat_congr _ (fun r _ => by rw [h r, List.filter_reverse])
theorem count_flat {α : Type} (y : Nat) (f : α → List Nat) : ∀ l : List α, (l.flatMap f).count y = (l.map fun r => (f r).count y).sum := by
  intro l
  induction l with
  | nil => rfl
  | cons a l ih => rw [List.flatMap_cons, List.count_append, ih]; rfl
theorem len_flat {α : Type} (f : α → List Nat) : ∀ l : List α, (l.flatMap f).length = (l.map fun r => (f r).length).sum := by
  intro l
  induction l with
  | nil => rfl
  | cons a l ih => rw [List.flatMap_cons, List.length_append, ih]; rfl

/-- What a strip is. -/
structure Strip (p c : Nat → Nat) (m k : Nat) (q : List Nat) : Prop where
  len : q.length ≤ m
  pos : ∀ r, r < q.length → 0 < q.getD r 0
  lo : ∀ r, p r ≤ q.getD r 0
  hi : ∀ r, r < m → q.getD r 0 ≤ hiG p c r
  sum : ((List.range m).map fun r => q.getD r 0 - p r).sum = k

theorem grow_cut {a b c : Nat → Nat} {m x : Nat} {t : List (List Nat)} {q : List Nat} (h : PF a b c m x t) (hq : ∀ r, len2 t r ≤ q.getD r 0) (r : Nat) : nrow t r = (nrow (growT t (x + 1) q) r).filter (fun e => decide (e ≤ x)) := by
  rw [grow_row hq, List.filter_append]
  have e1 : (nrow t r).filter (fun e => decide (e ≤ x)) = nrow t r := by
    rw [List.filter_eq_self]
    intro e he; simpa using h.le r e he
  have e2 : (List.replicate (q.getD r 0 - len2 t r) (x + 1)).filter (fun e => decide (e ≤ x)) = [] := by
    rw [List.filter_eq_nil_iff]
    intro e he
    rw [List.eq_of_mem_replicate he]; simp
  rw [e1, e2, List.append_nil]

theorem getD_out {q : List Nat} {r : Nat} (h : q.length ≤ r) : q.getD r 0 = 0 := by
  rw [List.getD, List.getElem?_eq_none h]; rfl
theorem PF.grow {a b c : Nat → Nat} {m x : Nat} {t : List (List Nat)} {q : List Nat} (h : PF a b c m x t) (hs : Strip (len2 t) c m (b (x + 1)) q) (hl : x + 1 = 1 ∨ lat (x + 1) 0 (rwd (growT t (x + 1) q)) = true) :
    PF a b c m (x + 1) (growT t (x + 1) q) := by
  have hq := hs.lo
  have hlen : ∀ r, len2 (growT t (x + 1) q) r = q.getD r 0 := grow_len hq
  have hrow := grow_row (x := x + 1) hq
  have hcut : rwd t = (rwd (growT t (x + 1) q)).filter (fun e => decide (e ≤ x)) := rwd_cut h.rows (by simp [growT]; exact hs.len) (grow_cut h hq)
  have hmono : ∀ r, q.getD (r + 1) 0 ≤ len2 t r := fun r => by
    by_cases hr : r + 1 < m
    · have := hs.hi (r + 1) hr
      unfold hiG at this
      rw [if_neg (by omega)] at this
      simp only [Nat.add_sub_cancel] at this
      omega
    · rw [getD_out (by have := hs.len; omega)]; omega
  refine ⟨by simp [growT]; exact hs.len, fun r hr => ?_, fun r => ?_, fun r => ?_, fun r => ?_, fun r j hj => ?_, fun r j h1 h2 => ?_, fun r => ?_, fun r j h1 h2 => ?_, fun y h1 h2 => ?_, fun y h1 h2 => ?_⟩
  · rw [hlen]; exact hs.pos r (by simpa [growT] using hr)
  · rw [hlen]; exact Nat.le_trans (h.lo r) (hq r)
  · rw [hlen]
    by_cases hr : r < m
    · have := hs.hi r hr
      unfold hiG at this
      split at this
      · rename_i e; subst e; exact this
      · omega
    · rw [getD_out (by have := hs.len; omega)]; omega
  · rw [hlen, hlen]; exact Nat.le_trans (hmono r) (hq r)
  · have := h.lo r
    rw [grow_at hq r j (by have := hq r; omega), if_pos (by omega)]
    exact h.hole r j hj
  · rw [hlen] at h2
    rw [grow_at hq r j h2]
    split
    · rename_i e
      have := h.pos r j h1 e; omega
    · omega
  · rw [hrow, List.pairwise_append]
    refine ⟨h.srt r, List.pairwise_replicate.2 (Or.inr (Nat.le_refl _)), fun e1 he1 e2 he2 => ?_⟩
    rw [List.eq_of_mem_replicate he2]
    have := h.le r e1 he1; omega
  · rw [hlen] at h2
    have h3 := hmono r
    rw [grow_at hq (r + 1) j h2, grow_at hq r j (by have := hq r; omega), if_pos (show j < len2 t r by omega)]
    split
    · rename_i e; exact h.col r j h1 e
    · have : at2 t r j ≤ x := h.le r _ (mem_at (by unfold len2 at h3; omega))
      omega
  · by_cases e : y = x + 1
    · subst e
      rw [rwd_rows (growT t (x + 1) q) (K := m) (by simp [growT]; exact hs.len), count_flat]
      rw [← hs.sum]
      congr 1
      refine List.map_congr_left fun r _ => ?_
      rw [List.count_reverse, hrow, List.count_append, List.count_replicate_self]
      have : (nrow t r).count (x + 1) = 0 := List.count_eq_zero.2 (fun he => by have := h.le r _ he; omega)
      omega
    · rw [← count_filter_pos (p := fun e => decide (e ≤ x)) (by simp; omega), ← hcut]
      exact h.cnt y h1 (by omega)
  · by_cases e : y = x + 1
    · subst e
      rcases hl with hl | hl
      · omega
      · exact hl
    · rw [← lat_filter y (fun e => decide (e ≤ x)) (by simp; omega) (fun z hz => by simp; omega), ← hcut]
      exact h.ltc y h1 (by omega)

/-- A nrow of rows, up to the first empty one. -/
theorem takeW_row (L : List (List Nat)) (h : ∀ r, nrow L (r + 1) ≠ [] → nrow L r ≠ []) : ∀ r, nrow (L.takeWhile (fun l => !l.isEmpty)) r = nrow L r := by
  induction L with
  | nil => intro r; rfl
  | cons l L ih =>
    intro r
    by_cases e : l = []
    · subst e
      have h0 : ∀ r, nrow ([] :: L) r = [] := by
        intro r
        induction r with
        | zero => rfl
        | succ r ih2 =>
          rcases Classical.em (nrow ([] :: L) (r + 1) = []) with q | q
          · exact q
          · exact absurd ih2 (h r q)
      rw [h0 r]
      simp [nrow]
    · have e1 : (!l.isEmpty) = true := by cases l with | nil => exact absurd rfl e | cons _ _ => rfl
      rw [List.takeWhile_cons_of_pos (p := fun l : List Nat => !l.isEmpty) e1]
      cases r with
      | zero => rfl
      | succ r =>
        have := ih (fun r hr => h (r + 1) hr) r
        exact this
theorem mem_takeW {p : List Nat → Bool} : ∀ {L : List (List Nat)} {l : List Nat}, l ∈ L.takeWhile p → p l = true := by
  intro L
  induction L with
  | nil => intro l h; simp at h
  | cons a L ih =>
    intro l h
    by_cases e : p a = true
    · rw [List.takeWhile_cons_of_pos e] at h
      rcases List.mem_cons.1 h with rfl | h
      · exact e
      · exact ih h
    · rw [List.takeWhile_cons_of_neg e] at h; cases h
theorem takeW_ne (L : List (List Nat)) : ∀ r, r < (L.takeWhile (fun l => !l.isEmpty)).length → 0 < len2 (L.takeWhile (fun l => !l.isEmpty)) r := fun r hr => by
  have hm : nrow (L.takeWhile (fun l => !l.isEmpty)) r ∈ L.takeWhile (fun l => !l.isEmpty) := by
    unfold nrow; simp [List.getD, hr]
  have := mem_takeW hm
  unfold len2
  rcases Nat.eq_zero_or_pos (nrow (L.takeWhile (fun l => !l.isEmpty)) r).length with e | e
  · rw [List.eq_nil_of_length_eq_zero e] at this; simp at this
  · exact e
def cutT (x : Nat) (t : List (List Nat)) : List (List Nat) := (t.map fun l => l.filter (fun e => decide (e ≤ x))).takeWhile (fun l => !l.isEmpty)
theorem row_mapf (f : List Nat → List Nat) (h0 : f [] = []) (t : List (List Nat)) (r : Nat) : nrow (t.map f) r = f (nrow t r) := by
  unfold nrow
  simp only [List.getD, List.getElem?_map]
  cases t[r]? with
  | none => simp [h0]
  | some v => rfl

theorem PF.cut {a b c : Nat → Nat} {m x : Nat} {t : List (List Nat)} (h : PF a b c m (x + 1) t) (ha : ∀ r, a (r + 1) ≤ a r) :
    PF a b c m x (cutT x t) ∧ (∀ r, nrow (cutT x t) r = (nrow t r).filter (fun e => decide (e ≤ x))) ∧ Strip (len2 (cutT x t)) c m (b (x + 1)) (t.map List.length) ∧ growT (cutT x t) (x + 1) (t.map List.length) = t := by
  have hsp : ∀ r, nrow t r = (nrow t r).filter (fun e => decide (e ≤ x)) ++ List.replicate ((nrow t r).length - ((nrow t r).filter (fun e => decide (e ≤ x))).length) (x + 1) := fun r => sorted_split x (nrow t r) (h.srt r) (h.le r)
  -- a letter up to x lies among the first ones
  have hat : ∀ r j, j < len2 t r → (at2 t r j ≤ x ↔ j < ((nrow t r).filter (fun e => decide (e ≤ x))).length) := fun r j hj => by
    constructor
    · intro hle
      rcases Nat.lt_or_ge j ((nrow t r).filter (fun e => decide (e ≤ x))).length with e | e
      · exact e
      · exfalso
        have : at2 t r j = x + 1 := by
          unfold at2
          rw [hsp r]
          simp only [List.getD]
          rw [List.getElem?_append_right e, List.getElem?_replicate]
          unfold len2 at hj
          rw [if_pos (by omega)]; rfl
        omega
    · intro hlt
      have hm : at2 t r j ∈ (nrow t r).filter (fun e => decide (e ≤ x)) := by
        unfold at2
        have e : (nrow t r).getD j 0 = ((nrow t r).filter (fun e => decide (e ≤ x))).getD j 0 := by
          have := congrArg (fun l : List Nat => l.getD j 0) (hsp r)
          simp only [List.getD] at this ⊢
          rw [this, List.getElem?_append_left hlt]
        rw [e]; exact mem_at hlt
      simpa using (List.mem_filter.1 hm).2
  have hfl : ∀ r, ((nrow t r).filter (fun e => decide (e ≤ x))).length ≤ len2 t r := fun r => List.length_filter_le _ _
  have hdec : ∀ r, ((nrow t (r + 1)).filter (fun e => decide (e ≤ x))).length ≤ ((nrow t r).filter (fun e => decide (e ≤ x))).length := fun r => by
    rcases Nat.lt_or_ge ((nrow t r).filter (fun e => decide (e ≤ x))).length ((nrow t (r + 1)).filter (fun e => decide (e ≤ x))).length with e | e
    · exfalso
      obtain ⟨j, hj⟩ : ∃ j, j = ((nrow t r).filter (fun e => decide (e ≤ x))).length := ⟨_, rfl⟩
      rw [← hj] at e
      have h1 := hfl (r + 1)
      have h2 := h.dec r
      have h3 := (hat (r + 1) j (by omega)).2 e
      by_cases e2 : j < a (r + 1)
      · have := ha r
        have := (hat r j (by omega)).1 (by rw [h.hole r j (by omega)]; omega)
        omega
      · have := h.col r j (by omega) (by omega)
        have := (hat r j (by omega)).1 (by omega)
        omega
    · exact e
  have hrow : ∀ r, nrow (cutT x t) r = (nrow t r).filter (fun e => decide (e ≤ x)) := fun r => by
    unfold cutT
    rw [takeW_row, row_mapf _ (by rfl)]
    intro r hne hn
    rw [row_mapf _ (by rfl)] at hne hn
    have := hdec r
    rw [hn] at this
    exact hne (List.eq_nil_of_length_eq_zero (by simpa using this))
  have hlen : ∀ r, len2 (cutT x t) r = ((nrow t r).filter (fun e => decide (e ≤ x))).length := fun r => by unfold len2; rw [hrow]
  have hq : ∀ r, (t.map List.length).getD r 0 = len2 t r := fun r => by
    unfold len2 nrow
    simp only [List.getD, List.getElem?_map]
    cases t[r]? with
    | none => rfl
    | some v => rfl
  have hle : ∀ r, len2 (cutT x t) r ≤ (t.map List.length).getD r 0 := fun r => by rw [hq, hlen]; exact hfl r
  have hatc : ∀ r j, j < len2 (cutT x t) r → at2 (cutT x t) r j = at2 t r j := fun r j hj => by
    unfold at2
    rw [hrow]
    have := congrArg (fun l : List Nat => l.getD j 0) (hsp r)
    simp only [List.getD] at this ⊢
    rw [hlen] at hj
    rw [this, List.getElem?_append_left hj]
  have hrl : (cutT x t).length ≤ m := by
    have h1 : (cutT x t).length ≤ (t.map fun l => l.filter (fun e => decide (e ≤ x))).length := (List.takeWhile_sublist _).length_le
    have := h.rows
    simp at h1; omega
  have hwd : rwd (cutT x t) = (rwd t).filter (fun e => decide (e ≤ x)) := rwd_cut hrl h.rows hrow
  have hal : ∀ r, a r ≤ len2 (cutT x t) r := fun r => by
    rcases Nat.lt_or_ge (len2 (cutT x t) r) (a r) with e | e
    · exfalso
      have h1 := h.lo r
      have := (hat r (len2 (cutT x t) r) (by omega)).1 (by rw [h.hole r _ e]; omega)
      rw [hlen] at this; omega
    · exact e
  refine ⟨⟨hrl, takeW_ne _, hal, fun r => ?_, fun r => ?_, fun r j hj => ?_, fun r j h1 h2 => ?_, fun r => ?_, fun r j h1 h2 => ?_, fun y h1 h2 => ?_, fun y h1 h2 => ?_⟩, hrow, ⟨?_, fun r hr => ?_, hle, fun r hr => ?_, ?_⟩, ?_⟩
  · rw [hlen]; exact Nat.le_trans (hfl r) (h.hi r)
  · rw [hlen, hlen]; exact hdec r
  · rw [hatc r j (by have := hal r; omega)]; exact h.hole r j hj
  · rw [hatc r j h2]
    rw [hlen] at h2
    have h3 := hfl r
    exact ⟨(h.pos r j h1 (by omega)).1, (hat r j (by omega)).2 h2⟩
  · rw [hrow]; exact (h.srt r).filter _
  · have h4 : j < len2 (cutT x t) r := by rw [hlen] at h2 ⊢; have := hdec r; omega
    rw [hatc _ _ h2, hatc _ _ h4]
    rw [hlen] at h2
    have h3 := hfl (r + 1)
    exact h.col r j h1 (by omega)
  · rw [hwd, count_filter_pos (by simp; omega)]; exact h.cnt y h1 (by omega)
  · rw [hwd, lat_filter y (fun e => decide (e ≤ x)) (by simp; omega) (fun z hz => by simp; omega)]
    exact h.ltc y h1 (by omega)
  · simpa using h.rows
  · rw [hq]; exact h.ne r (by simpa using hr)
  · rw [hq]
    unfold hiG
    by_cases e : r = 0
    · subst e; rw [if_pos rfl]; exact h.hi 0
    · rw [if_neg e]
      refine Nat.le_min.2 ⟨?_, h.hi r⟩
      obtain ⟨r, rfl⟩ : ∃ r', r = r' + 1 := ⟨r - 1, by omega⟩
      simp only [Nat.add_sub_cancel]
      rcases Nat.lt_or_ge (len2 (cutT x t) r) (len2 t (r + 1)) with e2 | e2
      · exfalso
        obtain ⟨j, hj⟩ : ∃ j, j = len2 (cutT x t) r := ⟨_, rfl⟩
        rw [← hj] at e2
        have h1 := hal r
        have h2 := ha r
        have h3 := h.dec r
        have h4 := h.col r j (by omega) e2
        have h5 := (h.pos (r + 1) j (by omega) e2).2
        have h6 := (hat r j (by omega)).1 (by omega)
        rw [hlen] at hj; omega
      · exact e2
  · have h1 := h.cnt (x + 1) (by omega) (Nat.le_refl _)
    rw [rwd_rows t h.rows, count_flat] at h1
    rw [← h1]
    congr 1
    refine List.map_congr_left fun r _ => ?_
    rw [List.count_reverse, hq, hlen]
    have e : (nrow t r).count (x + 1) = (((nrow t r).filter (fun e => decide (e ≤ x))) ++ List.replicate ((nrow t r).length - ((nrow t r).filter (fun e => decide (e ≤ x))).length) (x + 1)).count (x + 1) := by rw [← hsp r]
    rw [e, List.count_append, List.count_replicate_self]
    have : ((nrow t r).filter (fun e => decide (e ≤ x))).count (x + 1) = 0 := List.count_eq_zero.2 (fun he => absurd (of_decide_eq_true (List.mem_filter.1 he).2) (by omega))
    unfold len2; omega
  · refine tab_ext (fun r hr => ?_) h.ne (fun r => ?_)
    · rw [grow_len hle, hq]; exact h.ne r (by simpa [growT] using hr)
    · rw [grow_row hle, hrow, hq, hlen]
      exact (hsp r).symm

end Go.Proofs.YtbiakncblkjmhaaGreatDoor

namespace Go.Proofs.YtbiakncblkjmhaaGreatDoor

/-- All y with a i <= y i < a i + w i, i being under k. -/
def bxN : Nat → (Nat → Nat) → (Nat → Nat) → List (Nat → Nat)
  | 0, _, _ => [fun _ => 0]
  | k + 1, a, w => (List.range (w k)).flatMap fun t => (bxN k a w).map fun y => fun i => if i = k then a k + t else y i
theorem mem_bxN : ∀ k (a w y : Nat → Nat), y ∈ bxN k a w ↔ (∀ i, i < k → a i ≤ y i ∧ y i < a i + w i) ∧ ∀ i, k ≤ i → y i = 0
  | 0, a, w, y => by
    simp only [bxN, List.mem_singleton]
    constructor
    · rintro rfl; exact ⟨fun i hi => by omega, fun _ _ => rfl⟩
    · rintro ⟨_, h⟩; exact funext fun i => h i (Nat.zero_le _)
  | k + 1, a, w, y => by
    simp only [bxN, List.mem_flatMap, List.mem_map, List.mem_range]
    constructor
    · rintro ⟨t, ht, y', hy', rfl⟩
      have h := (mem_bxN k a w y').1 hy'
      refine ⟨fun i hi => ?_, fun i hi => ?_⟩
      · by_cases e : i = k
        · subst e; simp only [if_pos]; omega
        · simp only [if_neg e]; exact h.1 i (by omega)
      · dsimp only; rw [if_neg (by omega)]; exact h.2 i (by omega)
    · rintro ⟨h1, h2⟩
      have hk := h1 k (by omega)
      refine ⟨y k - a k, by omega, fun i => if i = k then 0 else y i, (mem_bxN k a w _).2 ⟨fun i hi => by rw [if_neg (by omega)]; exact h1 i (by omega), fun i hi => ?_⟩, funext fun i => ?_⟩
      · by_cases e : i = k
        · rw [if_pos e]
        · rw [if_neg e]; exact h2 i (by omega)
      · by_cases e : i = k
        · subst e; simp only [if_pos]; omega
        · simp only [if_neg e]
theorem nodup_mapI {α β : Type} (f : α → β) : ∀ l : List α, (∀ x ∈ l, ∀ y ∈ l, f x = f y → x = y) → l.Nodup → (l.map f).Nodup := by
  intro l
  induction l with
  | nil => intro _ _; simp
  | cons a l ih =>
    intro h hn
    obtain ⟨ha, hl⟩ := List.nodup_cons.1 hn
    rw [List.map_cons, List.nodup_cons]
    refine ⟨fun hm => ?_, ih (fun x hx y hy => h x (by simp [hx]) y (by simp [hy])) hl⟩
    obtain ⟨b, hb, e⟩ := List.mem_map.1 hm
    exact ha (by rw [← h b (by simp [hb]) a (by simp) e]; exact hb)
theorem nodup_bxN : ∀ k (a w : Nat → Nat), (bxN k a w).Nodup
  | 0, a, w => by simp [bxN]
  | k + 1, a, w => by
    rw [bxN]
    refine nodup_flat _ _ List.nodup_range (fun t _ => ?_) (fun t _ t' _ hne y hy hy' => ?_)
    · refine nodup_mapI _ _ (fun y hy y' hy' e => funext fun i => ?_) (nodup_bxN k a w)
      by_cases q : i = k
      · rw [((mem_bxN k a w y).1 hy).2 i (by omega), ((mem_bxN k a w y').1 hy').2 i (by omega)]
      · have := congrFun e i
        simpa [q] using this
    · obtain ⟨z, _, rfl⟩ := List.mem_map.1 hy
      obtain ⟨z', _, e⟩ := List.mem_map.1 hy'
      have := congrFun e k
      simp at this
      omega
theorem sum_range (f : Nat → Nat) : ∀ n, ((((List.range n).map f).sum : Nat) : Int) = sZ (fun t => (f t : Int)) n
  | 0 => rfl
  | n + 1 => by rw [List.range_succ, List.map_append, List.sum_append, sZ, ← sum_range f n]; simp
theorem sum_flat {α β : Type} (f : α → List β) (F : β → Nat) : ∀ l : List α, ((l.flatMap f).map F).sum = (l.map fun a => ((f a).map F).sum).sum
  | [] => rfl
  | a :: l => by rw [List.flatMap_cons, List.map_append, List.sum_append, sum_flat f F l, List.map_cons, List.sum_cons]
theorem bxN_sum : ∀ k (a w : Nat → Nat) (F : (Nat → Nat) → Nat) (G : (Nat → Int) → Int), (∀ y ∈ bxN k a w, (F y : Int) = G (fun i => (y i : Int))) → ((((bxN k a w).map F).sum : Nat) : Int) = bxS k (fun i => (a i : Int)) w G
  | 0, a, w, F, G, h => by
    simp only [bxN, List.map_cons, List.map_nil, List.sum_cons, List.sum_nil, Nat.add_zero, bxS]
    exact h _ (by simp [bxN])
  | k + 1, a, w, F, G, h => by
    rw [bxN, sum_flat, sum_range, bxS]
    refine sZ_congr _ fun t ht => ?_
    rw [List.map_map]
    refine bxN_sum k a w (F ∘ fun y i => if i = k then a k + t else y i) _ (fun y hy => ?_)
    have e := h (fun i => if i = k then a k + t else y i) (by rw [bxN]; exact List.mem_flatMap.2 ⟨t, List.mem_range.2 ht, List.mem_map.2 ⟨y, hy, rfl⟩⟩)
    simp only [Function.comp]
    rw [e]
    refine congrArg G (funext fun i => ?_)
    unfold upF
    by_cases q : i = k
    · rw [if_pos q, if_pos q]; omega
    · rw [if_neg q, if_neg q]

/-- The table t, its rows filled up to P with x. -/
def fillU (t : List (List Nat)) (P : Nat → Nat) (x n : Nat) : List (List Nat) := (List.range n).map fun r => nrow t r ++ List.replicate (P r - len2 t r) x
/-- The tableaux of numbers x, with letters up to M. -/
def stL : Nat → (Nat → Nat) → List (List (List Nat))
  | 0, _ => [[]]
  | M + 1, x => (bxN M x (fun i => x (i + 1) - x i)).flatMap fun y => (stL M y).map fun t => fillU t (fun r => x (M - r) - (M - r)) (M + 1) (M + 1)
theorem bxS_w : ∀ (k : Nat) (a : Nat → Int) {w w' : Nat → Nat}, (∀ i, i < k → w i = w' i) → ∀ G, bxS k a w G = bxS k a w' G
  | 0, _, _, _, _, _ => rfl
  | k + 1, a, w, w', h, G => by
    rw [bxS, bxS, h k (by omega)]
    exact sZ_congr _ fun t _ => bxS_w k a (fun i hi => h i (by omega)) _
theorem stL_len : ∀ M (x : Nat → Nat), (∀ i, i + 1 < M → x i ≤ x (i + 1)) → ((stL M x).length : Int) = cntG M (fun i => (x i : Int))
  | 0, x, _ => rfl
  | M + 1, x, h => by
    rw [stL, List.length_flatMap, cntG]
    rw [bxN_sum M x _ _ (cntG M) (fun y hy => by
      rw [List.length_map]
      have hb := ((mem_bxN _ _ _ _).1 hy).1
      refine stL_len M y fun i hi => ?_
      have h1 := hb i (by omega)
      have h2 := hb (i + 1) (by omega)
      have h3 := h i (by omega)
      omega)]
    refine bxS_w M _ (fun i hi => ?_) _
    have := h i (by omega)
    omega
end Go.Proofs.YtbiakncblkjmhaaGreatDoor

namespace Go.Proofs.YtbiakncblkjmhaaGreatDoor

/-- A tableau of M rows (empty ones among them, perhaps) with letters up to M. -/
structure TabM (M : Nat) (t : List (List Nat)) : Prop where
  rows : t.length = M
  pos : ∀ r j, j < len2 t r → 1 ≤ at2 t r j ∧ at2 t r j ≤ M
  wk : ∀ r, (nrow t r).Pairwise (· ≤ ·)
  st : ∀ r j, j < len2 t (r + 1) → j < len2 t r ∧ at2 t r j < at2 t (r + 1) j
theorem nrow_out {t : List (List Nat)} {r : Nat} (h : t.length ≤ r) : nrow t r = [] := by
  unfold nrow; rw [List.getD, List.getElem?_eq_none h]; rfl
theorem fillU_row (t : List (List Nat)) (P : Nat → Nat) (x n r : Nat) (h : r < n) : nrow (fillU t P x n) r = nrow t r ++ List.replicate (P r - len2 t r) x := by
  unfold fillU; rw [row_map, if_pos h]
theorem fillU_out (t : List (List Nat)) (P : Nat → Nat) (x n r : Nat) (h : n ≤ r) : nrow (fillU t P x n) r = [] := by
  unfold fillU; rw [row_map, if_neg (by omega)]
theorem app_at (l : List Nat) (k x j : Nat) : (l ++ List.replicate k x).getD j 0 = if j < l.length then l.getD j 0 else if j < l.length + k then x else 0 := by
  by_cases h : j < l.length
  · rw [if_pos h]; simp [List.getD, List.getElem?_append_left h]
  · rw [if_neg h]
    simp only [List.getD, List.getElem?_append_right (Nat.le_of_not_lt h), List.getElem?_replicate]
    by_cases h2 : j < l.length + k
    · rw [if_pos h2, if_pos (by omega)]; rfl
    · rw [if_neg h2, if_neg (by omega)]; rfl
/-- In a row in order the small letters come first. -/
theorem small_first {l : List Nat} {x : Nat} (h : l.Pairwise (· ≤ ·)) (hx : ∀ e ∈ l, e ≤ x + 1) (j : Nat) (hj : j < l.length) : (j < (l.filter (fun e => decide (e ≤ x))).length ↔ l.getD j 0 ≤ x) ∧ (j < (l.filter (fun e => decide (e ≤ x))).length → (l.filter (fun e => decide (e ≤ x))).getD j 0 = l.getD j 0) := by
  have e := sorted_split x l h hx
  generalize hF : l.filter (fun e => decide (e ≤ x)) = F at e ⊢
  have hle : ∀ z ∈ F, z ≤ x := fun z hz => by rw [← hF] at hz; simpa using (List.mem_filter.1 hz).2
  have hlen : F.length ≤ l.length := by rw [← hF]; exact List.length_filter_le _ _
  have g : l.getD j 0 = if j < F.length then F.getD j 0 else x + 1 := by
    have := app_at F (l.length - F.length) (x + 1) j
    rw [← e] at this
    rw [this]
    by_cases q : j < F.length
    · rw [if_pos q, if_pos q]
    · rw [if_neg q, if_neg q, if_pos (by omega)]
  by_cases q : j < F.length
  · rw [if_pos q] at g
    have hm := hle _ (mem_at q)
    exact ⟨⟨fun _ => by omega, fun _ => q⟩, fun _ => g.symm⟩
  · rw [if_neg q] at g
    exact ⟨⟨fun z => absurd z q, fun z => by omega⟩, fun z => absurd z q⟩
theorem TabM.le {M : Nat} {t : List (List Nat)} (h : TabM M t) (r : Nat) : ∀ e ∈ nrow t r, e ≤ M := fun e he => by
  obtain ⟨j, hj, rfl⟩ := at_mem he
  exact (h.pos r j hj).2
theorem TabM.low {M : Nat} {t : List (List Nat)} (h : TabM M t) : ∀ r j, j < len2 t r → r + 1 ≤ at2 t r j := by
  intro r
  induction r with
  | zero => intro j hj; exact (h.pos 0 j hj).1
  | succ r ih => intro j hj; have := h.st r j hj; have := ih j this.1; omega
/-- The letters up to M. -/
def cutU (M : Nat) (t : List (List Nat)) : List (List Nat) := (List.range M).map fun r => (nrow t r).filter (fun e => decide (e ≤ M))
theorem cutU_row {M r : Nat} (t : List (List Nat)) (h : r < M) : nrow (cutU M t) r = (nrow t r).filter (fun e => decide (e ≤ M)) := by
  unfold cutU; rw [row_map, if_pos h]
theorem cutU_out {M r : Nat} (t : List (List Nat)) (h : M ≤ r) : nrow (cutU M t) r = [] := by
  unfold cutU; rw [row_map, if_neg (by omega)]
theorem TabM.cut {M : Nat} {t : List (List Nat)} (h : TabM (M + 1) t) : TabM M (cutU M t) := by
  have hin : ∀ r j, j < len2 (cutU M t) r → r < M ∧ j < len2 t r ∧ at2 (cutU M t) r j = at2 t r j ∧ at2 t r j ≤ M := fun r j hj => by
    rcases Nat.lt_or_ge r M with e | e
    · have hl : j < len2 t r := by
        unfold len2 at hj ⊢
        rw [cutU_row t e] at hj
        exact Nat.lt_of_lt_of_le hj (List.length_filter_le _ _)
      have s := small_first (h.wk r) (h.le r) j hl
      unfold len2 at hj
      rw [cutU_row t e] at hj
      refine ⟨e, hl, ?_, s.1.1 hj⟩
      unfold at2; rw [cutU_row t e]; exact s.2 hj
    · unfold len2 at hj; rw [cutU_out t e] at hj; simp at hj
  refine ⟨by simp [cutU], fun r j hj => ?_, fun r => ?_, fun r j hj => ?_⟩
  · obtain ⟨_, h2, h3, h4⟩ := hin r j hj
    rw [h3]; exact ⟨(h.pos r j h2).1, h4⟩
  · rcases Nat.lt_or_ge r M with e | e
    · rw [cutU_row t e]; exact (h.wk r).filter _
    · rw [cutU_out t e]; exact List.Pairwise.nil
  · obtain ⟨h1, h2, h3, h4⟩ := hin (r + 1) j hj
    have h5 := h.st r j h2
    have h6 : j < len2 (cutU M t) r := by
      unfold len2; rw [cutU_row t (by omega)]
      exact (small_first (h.wk r) (h.le r) j h5.1).1.2 (by have : at2 t r j ≤ M := by omega
                                                           exact this)
    exact ⟨h6, by rw [h3, (hin r j h6).2.2.1]; exact h5.2⟩
theorem tab_rows {t t' : List (List Nat)} (hl : t.length = t'.length) (h : ∀ r, r < t.length → nrow t r = nrow t' r) : t = t' := by
  refine List.ext_getElem hl fun r h1 h2 => ?_
  have := h r h1
  simpa [nrow, List.getD, h1, h2] using this
theorem TabM.back {M : Nat} {t : List (List Nat)} (h : TabM (M + 1) t) (P : Nat → Nat) (hP : ∀ r, r < M + 1 → P r = len2 t r) : fillU (cutU M t) P (M + 1) (M + 1) = t := by
  refine tab_rows (by simp [fillU, h.rows]) fun r hr => ?_
  have hr' : r < M + 1 := by simpa [fillU] using hr
  rw [fillU_row _ _ _ _ _ hr', hP r hr']
  have e := sorted_split M (nrow t r) (h.wk r) (h.le r)
  rcases Nat.lt_or_ge r M with q | q
  · unfold len2
    rw [cutU_row t q]; exact e.symm
  · have hn : (nrow t r).filter (fun e => decide (e ≤ M)) = [] := by
      rw [List.filter_eq_nil_iff]
      intro z hz
      obtain ⟨j, hj, rfl⟩ := at_mem hz
      have : r + 1 ≤ (nrow t r).getD j 0 := h.low r j hj
      rw [decide_eq_true_eq]; omega
    unfold len2
    rw [cutU_out t q]
    rw [hn] at e
    simpa using e.symm
theorem TabM.fill {M : Nat} {t : List (List Nat)} (h : TabM M t) (P : Nat → Nat) (h1 : ∀ r, r < M → len2 t r ≤ P r) (h2 : ∀ r, r < M → P (r + 1) ≤ len2 t r) : TabM (M + 1) (fillU t P (M + 1) (M + 1)) ∧ ∀ r, r < M + 1 → len2 (fillU t P (M + 1) (M + 1)) r = P r := by
  have hlen : ∀ r, r < M + 1 → len2 (fillU t P (M + 1) (M + 1)) r = P r := fun r hr => by
    unfold len2
    rw [fillU_row _ _ _ _ _ hr, List.length_append, List.length_replicate]
    have e : len2 t r ≤ P r := by
      rcases Nat.lt_or_ge r M with q | q
      · exact h1 r q
      · unfold len2; rw [nrow_out (by rw [h.rows]; exact q)]; exact Nat.zero_le _
    unfold len2 at e ⊢; omega
  have hin : ∀ r j, j < len2 (fillU t P (M + 1) (M + 1)) r → r < M + 1 := fun r j hj => by
    rcases Nat.lt_or_ge r (M + 1) with q | q
    · exact q
    · unfold len2 at hj; rw [fillU_out _ _ _ _ _ q] at hj; simp at hj
  have hat : ∀ r j, j < len2 (fillU t P (M + 1) (M + 1)) r → at2 (fillU t P (M + 1) (M + 1)) r j = if j < len2 t r then at2 t r j else M + 1 := fun r j hj => by
    have hr := hin r j hj
    unfold len2 at hj
    rw [fillU_row _ _ _ _ _ hr, List.length_append, List.length_replicate] at hj
    unfold at2 len2
    rw [fillU_row _ _ _ _ _ hr, app_at]
    rw [if_pos hj]
  refine ⟨⟨by simp [fillU], fun r j hj => ?_, fun r => ?_, fun r j hj => ?_⟩, hlen⟩
  · rw [hat r j hj]
    split
    · rename_i q; have := h.pos r j q; omega
    · omega
  · rcases Nat.lt_or_ge r (M + 1) with q | q
    · rw [fillU_row _ _ _ _ _ q, List.pairwise_append]
      refine ⟨h.wk r, List.pairwise_replicate.2 (Or.inr (Nat.le_refl _)), fun a ha b hb => ?_⟩
      rw [(List.mem_replicate.1 hb).2]
      have := h.le r a ha; omega
    · rw [fillU_out _ _ _ _ _ q]; exact List.Pairwise.nil
  · have q := hin (r + 1) j hj
    have hj1 : j < P (r + 1) := by rw [← hlen (r + 1) q]; exact hj
    have e1 := h1 r (by omega)
    have e2 := h2 r (by omega)
    have hj2 : j < len2 (fillU t P (M + 1) (M + 1)) r := by rw [hlen r (by omega)]; omega
    refine ⟨hj2, ?_⟩
    rw [hat r j hj2, hat (r + 1) j hj, if_pos (by omega)]
    split
    · rename_i z; exact (h.st r j z).2
    · have := (h.pos r j (by omega)).2; omega
theorem cut_fill {M : Nat} {t : List (List Nat)} (h : TabM M t) (P : Nat → Nat) : cutU M (fillU t P (M + 1) (M + 1)) = t := by
  refine tab_rows (by simp [cutU, h.rows]) fun r hr => ?_
  have hr' : r < M := by simpa [cutU] using hr
  rw [cutU_row _ hr', fillU_row _ _ _ _ _ (by omega), List.filter_append]
  have e1 : (nrow t r).filter (fun e => decide (e ≤ M)) = nrow t r := by
    rw [List.filter_eq_self]
    intro z hz
    simpa using h.le r z hz
  have e2 : (List.replicate (P r - len2 t r) (M + 1)).filter (fun e => decide (e ≤ M)) = [] := by
    rw [List.filter_eq_nil_iff]
    intro z hz
    rw [(List.mem_replicate.1 hz).2]; simp
  rw [e1, e2, List.append_nil]

theorem mem_stL : ∀ M (x : Nat → Nat), (∀ k, k < M → k ≤ x k) → (∀ k, k + 1 < M → x k < x (k + 1)) → ∀ t, t ∈ stL M x ↔ TabM M t ∧ ∀ k, k < M → len2 t (M - 1 - k) + k = x k
  | 0, x, _, _, t => by
    simp only [stL, List.mem_singleton]
    constructor
    · rintro rfl
      exact ⟨⟨rfl, fun r j hj => by simp [len2, nrow] at hj, fun r => by simp [nrow], fun r j hj => by simp [len2, nrow] at hj⟩, fun k hk => by omega⟩
    · rintro ⟨h, _⟩; exact List.eq_nil_of_length_eq_zero h.rows
  | M + 1, x, h0, h1, t => by
    simp only [stL, List.mem_flatMap, List.mem_map]
    have hy0 : ∀ y ∈ bxN M x (fun i => x (i + 1) - x i), (∀ k, k < M → k ≤ y k) ∧ (∀ k, k + 1 < M → y k < y (k + 1)) ∧ ∀ k, k < M → x k ≤ y k ∧ y k < x (k + 1) := fun y hy => by
      have hb := ((mem_bxN _ _ _ _).1 hy).1
      have hb' : ∀ k, k < M → x k ≤ y k ∧ y k < x (k + 1) := fun k hk => by have := hb k hk; have := h1 k (by omega); omega
      exact ⟨fun k hk => by have := hb' k hk; have := h0 k (by omega); omega, fun k hk => by have := hb' k (by omega); have := hb' (k + 1) hk; omega, hb'⟩
    constructor
    · rintro ⟨y, hy, s, hs, rfl⟩
      obtain ⟨a1, a2, a3⟩ := hy0 y hy
      obtain ⟨b1, b2⟩ := (mem_stL M y a1 a2 s).1 hs
      have hl : ∀ r, r < M → len2 s r + (M - 1 - r) = y (M - 1 - r) := fun r hr => by
        have := b2 (M - 1 - r) (by omega)
        rw [show M - 1 - (M - 1 - r) = r by omega] at this; exact this
      have hf := b1.fill (fun r => x (M - r) - (M - r)) (fun r hr => by
        have e1 := hl r hr
        have e2 := a3 (M - 1 - r) (by omega)
        rw [show M - 1 - r + 1 = M - r by omega] at e2
        show _ ≤ x (M - r) - (M - r)
        omega) (fun r hr => by
        have e1 := hl r hr
        have e2 := a3 (M - 1 - r) (by omega)
        show x (M - (r + 1)) - (M - (r + 1)) ≤ _
        rw [show M - (r + 1) = M - 1 - r by omega]
        omega)
      refine ⟨hf.1, fun k hk => ?_⟩
      rw [hf.2 _ (by omega)]
      have := h0 k hk
      rw [show M - (M + 1 - 1 - k) = k by omega]; omega
    · rintro ⟨h, hx⟩
      have hc := h.cut
      have hl : ∀ r, r < M + 1 → len2 t r + (M - r) = x (M - r) := fun r hr => by
        have := hx (M - r) (by omega)
        rw [show M + 1 - 1 - (M - r) = r by omega] at this; exact this
      have hP : ∀ r, r < M + 1 → x (M - r) - (M - r) = len2 t r := fun r hr => by have := hl r hr; omega
      have hc1 : ∀ r, r < M → len2 (cutU M t) r ≤ len2 t r ∧ len2 t (r + 1) ≤ len2 (cutU M t) r := fun r hr => by
        refine ⟨?_, ?_⟩
        · unfold len2; rw [cutU_row t hr]; exact List.length_filter_le _ _
        · rcases Nat.lt_or_ge (len2 (cutU M t) r) (len2 t (r + 1)) with q | q
          · have s := h.st r _ q
            have e1 := (h.pos (r + 1) _ q).2
            have e2 := (small_first (h.wk r) (h.le r) _ s.1).1.2 (by have : at2 t r (len2 (cutU M t) r) ≤ M := by omega
                                                                     exact this)
            unfold len2 at e2
            rw [cutU_row t hr] at e2
            exact absurd e2 (Nat.lt_irrefl _)
          · exact q
      refine ⟨fun k => if k < M then len2 (cutU M t) (M - 1 - k) + k else 0, (mem_bxN _ _ _ _).2 ⟨fun k hk => ?_, fun k hk => by rw [if_neg (by omega)]⟩, cutU M t, ?_, h.back _ hP⟩
      · rw [if_pos hk]
        have e1 := hc1 (M - 1 - k) (by omega)
        have e2 := hl (M - k) (by omega)
        have e3 := hl (M - 1 - k) (by omega)
        rw [show M - (M - k) = k by omega] at e2
        rw [show M - (M - 1 - k) = k + 1 by omega] at e3
        rw [show M - 1 - k + 1 = M - k by omega] at e1
        omega
      · refine (mem_stL M _ (fun k hk => by rw [if_pos hk]; omega) (fun k hk => ?_) _).2 ⟨hc, fun k hk => by rw [if_pos hk]⟩
        rw [if_pos (by omega), if_pos hk]
        have e1 := hc1 (M - 1 - k) (by omega)
        have e4 := hc1 (M - 1 - (k + 1)) (by omega)
        rw [show M - 1 - (k + 1) + 1 = M - 1 - k by omega] at e4
        omega
theorem nodup_stL : ∀ M (x : Nat → Nat), (∀ k, k < M → k ≤ x k) → (∀ k, k + 1 < M → x k < x (k + 1)) → (stL M x).Nodup
  | 0, _, _, _ => by simp [stL]
  | M + 1, x, h0, h1 => by
    have hy0 : ∀ y ∈ bxN M x (fun i => x (i + 1) - x i), (∀ k, k < M → k ≤ y k) ∧ (∀ k, k + 1 < M → y k < y (k + 1)) := fun y hy => by
      have hb := ((mem_bxN _ _ _ _).1 hy).1
      have hb' : ∀ k, k < M → x k ≤ y k ∧ y k < x (k + 1) := fun k hk => by have := hb k hk; have := h1 k (by omega); omega
      exact ⟨fun k hk => by have := hb' k hk; have := h0 k (by omega); omega, fun k hk => by have := hb' k (by omega); have := hb' (k + 1) hk; omega⟩
    rw [stL]
    refine nodup_flat _ _ (nodup_bxN _ _ _) (fun y hy => ?_) (fun y hy y' hy' hne z hz hz' => ?_)
    · obtain ⟨a1, a2⟩ := hy0 y hy
      refine nodup_mapI _ _ (fun s hs s' hs' e => ?_) (nodup_stL M y a1 a2)
      rw [← cut_fill ((mem_stL M y a1 a2 s).1 hs).1 (fun r => x (M - r) - (M - r)), e, cut_fill ((mem_stL M y a1 a2 s').1 hs').1]
    · obtain ⟨s, hs, rfl⟩ := List.mem_map.1 hz
      obtain ⟨s', hs', e⟩ := List.mem_map.1 hz'
      obtain ⟨a1, a2⟩ := hy0 y hy
      obtain ⟨b1, b2⟩ := hy0 y' hy'
      have m1 := (mem_stL M y a1 a2 s).1 hs
      have m2 := (mem_stL M y' b1 b2 s').1 hs'
      have es : s' = s := by rw [← cut_fill m2.1 (fun r => x (M - r) - (M - r)), e, cut_fill m1.1]
      refine hne (funext fun k => ?_)
      rcases Nat.lt_or_ge k M with q | q
      · rw [← m1.2 k q, ← m2.2 k q, es]
      · rw [((mem_bxN _ _ _ _).1 hy).2 k q, ((mem_bxN _ _ _ _).1 hy').2 k q]

end Go.Proofs.YtbiakncblkjmhaaGreatDoor

namespace Go.Proofs.YtbiakncblkjmhaaGreatDoor

/-- how many cubes may lie at place q, by what lies ahead -/
def moX (C H : Nat) (X : List Nat) (q : Nat) : Nat :=
  let m := if 0 < q % C then min H (X.getD (q - 1) 0) else H
  if C ≤ q then min m (X.getD (q - C) 0) else m
/-- the piles, place by place -/
def sr (C H : Nat) : Nat → List Nat → List (List Nat)
  | 0, X => [X]
  | d + 1, X => (List.range (moX C H X X.length + 1)).flatMap fun n => sr C H d (X ++ [n])

theorem getD_app {X : List Nat} {n q : Nat} (h : q < X.length) (Y : List Nat) : (X ++ n :: Y).getD q 0 = X.getD q 0 := by
  simp [List.getD, List.getElem?_append_left h]
theorem moX_same {C H : Nat} {X Y : List Nat} {q : Nat} (hC : 1 ≤ C) (h : ∀ t, t < q → X.getD t 0 = Y.getD t 0) : moX C H X q = moX C H Y q := by
  unfold moX
  simp only []
  by_cases h1 : 0 < q % C
  · have hq : 0 < q := by rcases Nat.eq_zero_or_pos q with e | e
                          · subst e; simp at h1
                          · exact e
    rw [if_pos h1, if_pos h1, h (q - 1) (by omega)]
    by_cases h2 : C ≤ q
    · rw [if_pos h2, if_pos h2, h (q - C) (by omega)]
    · rw [if_neg h2, if_neg h2]
  · rw [if_neg h1, if_neg h1]
    by_cases h2 : C ≤ q
    · rw [if_pos h2, if_pos h2, h (q - C) (by omega)]
    · rw [if_neg h2, if_neg h2]

theorem mem_sr {C H : Nat} (hC : 1 ≤ C) : ∀ (d : Nat) (X Y : List Nat), Y ∈ sr C H d X ↔ Y.length = X.length + d ∧ (∀ t, t < X.length → Y.getD t 0 = X.getD t 0) ∧ ∀ q, X.length ≤ q → q < Y.length → Y.getD q 0 ≤ moX C H Y q
  | 0, X, Y => by
    simp only [sr, List.mem_singleton]
    constructor
    · rintro rfl; exact ⟨rfl, fun _ _ => rfl, fun q h1 h2 => by omega⟩
    · rintro ⟨h1, h2, _⟩
      refine List.ext_getElem (by omega) (fun t a b => ?_)
      have := h2 t b
      simpa [List.getD, List.getElem?_eq_getElem a, List.getElem?_eq_getElem b] using this
  | d + 1, X, Y => by
    simp only [sr, List.mem_flatMap, List.mem_range]
    constructor
    · rintro ⟨n, hn, hY⟩
      obtain ⟨h1, h2, h3⟩ := (mem_sr hC d _ _).1 hY
      rw [List.length_append, List.length_singleton] at h1 h2 h3
      have hX : ∀ t, t < X.length → Y.getD t 0 = X.getD t 0 := fun t ht => by rw [h2 t (by omega), getD_app ht]
      have hn2 : Y.getD X.length 0 = n := by rw [h2 _ (by omega)]; simp [List.getD]
      refine ⟨by omega, hX, fun q hq1 hq2 => ?_⟩
      by_cases e : q = X.length
      · subst e
        rw [hn2, moX_same hC (Y := X) hX]; omega
      · exact h3 q (by omega) hq2
    · rintro ⟨h1, h2, h3⟩
      refine ⟨Y.getD X.length 0, ?_, (mem_sr hC d _ _).2 ⟨by rw [List.length_append, List.length_singleton]; omega, fun t ht => ?_, fun q hq1 hq2 => h3 q (by rw [List.length_append, List.length_singleton] at hq1; omega) hq2⟩⟩
      · have := h3 X.length (Nat.le_refl _) (by omega)
        rw [moX_same hC (Y := X) h2] at this; omega
      · rw [List.length_append, List.length_singleton] at ht
        by_cases e : t = X.length
        · subst e; simp [List.getD]
        · rw [getD_app (by omega)]; exact h2 t (by omega)

theorem nodup_sr {C H : Nat} (hC : 1 ≤ C) : ∀ (d : Nat) (X : List Nat), (sr C H d X).Nodup
  | 0, X => by simp [sr]
  | d + 1, X => by
    simp only [sr]
    have hv : ∀ n Y, Y ∈ sr C H d (X ++ [n]) → Y.getD X.length 0 = n := fun n Y hY => by
      obtain ⟨_, h2, _⟩ := (mem_sr hC d _ _).1 hY
      rw [h2 _ (by simp)]; simp [List.getD]
    exact nodup_flat _ _ List.nodup_range (fun n _ => nodup_sr hC d _) (fun x _ y _ hxy z hz hz' => hxy ((hv x z hz).symm.trans (hv y z hz')))

/-- a pile, place by place -/
theorem pil_sr {R C H : Nat} (hC : 1 ≤ C) {Y : List Nat} : Y ∈ sr C H (R * C) [] ↔ Y.length = R * C ∧ ∀ i, i < R → ∀ j, j < C → Y.getD (i * C + j) 0 ≤ H ∧ (0 < j → Y.getD (i * C + j) 0 ≤ Y.getD (i * C + (j - 1)) 0) ∧ (0 < i → Y.getD (i * C + j) 0 ≤ Y.getD ((i - 1) * C + j) 0) := by
  rw [mem_sr hC]
  have key : ∀ i j, j < C → ∀ z, (z ≤ moX C H Y (i * C + j) ↔ z ≤ H ∧ (0 < j → z ≤ Y.getD (i * C + (j - 1)) 0) ∧ (0 < i → z ≤ Y.getD ((i - 1) * C + j) 0)) := fun i j hj z => by
    have e1 : (i * C + j) % C = j := by rw [Nat.mul_comm, Nat.mul_add_mod, Nat.mod_eq_of_lt hj]
    have e2 : C ≤ i * C + j ↔ 0 < i := by
      constructor
      · intro h
        rcases Nat.eq_zero_or_pos i with e | e
        · subst e; omega
        · exact e
      · intro h
        have : 1 * C ≤ i * C := Nat.mul_le_mul_right _ h
        omega
    unfold moX
    simp only []
    rw [e1]
    by_cases h1 : 0 < j
    · rw [if_pos h1, show i * C + j - 1 = i * C + (j - 1) by omega]
      by_cases h2 : 0 < i
      · have e3 : i * C + j - C = (i - 1) * C + j := by
          obtain ⟨k, rfl⟩ : ∃ k, i = k + 1 := ⟨i - 1, by omega⟩
          rw [Nat.add_sub_cancel, Nat.succ_mul]; omega
        rw [if_pos (e2.2 h2), e3]
        omega
      · rw [if_neg (fun h => h2 (e2.1 h))]; omega
    · rw [if_neg h1]
      by_cases h2 : 0 < i
      · have e3 : i * C + j - C = (i - 1) * C + j := by
          obtain ⟨k, rfl⟩ : ∃ k, i = k + 1 := ⟨i - 1, by omega⟩
          rw [Nat.add_sub_cancel, Nat.succ_mul]; omega
        rw [if_pos (e2.2 h2), e3]
        omega
      · rw [if_neg (fun h => h2 (e2.1 h))]; omega
  have hlt : ∀ i j, i < R → j < C → i * C + j < R * C := fun i j hi hj => by
    have : (i + 1) * C ≤ R * C := Nat.mul_le_mul_right _ hi
    rw [Nat.succ_mul] at this; omega
  constructor
  · rintro ⟨h1, _, h3⟩
    refine ⟨by simpa using h1, fun i hi j hj => ?_⟩
    exact (key i j hj _).1 (h3 _ (by simp) (by rw [h1]; have := hlt i j hi hj; simp; omega))
  · rintro ⟨h1, h3⟩
    refine ⟨by simpa using h1, fun t ht => absurd ht (by simp), fun q _ hq => ?_⟩
    have hq2 : q = (q / C) * C + q % C := by rw [Nat.mul_comm]; exact (Nat.div_add_mod q C).symm
    have hi : q / C < R := Nat.div_lt_of_lt_mul (by rw [Nat.mul_comm]; omega)
    have hj : q % C < C := Nat.mod_lt _ hC
    rw [hq2]
    exact (key _ _ hj _).2 (h3 _ hi _ hj)

end Go.Proofs.YtbiakncblkjmhaaGreatDoor

namespace Go.Proofs.YtbiakncblkjmhaaGreatDoor

/-- a rectangle -/
def rcS (R C i : Nat) : Nat := if i < R then C else 0
theorem rcS_down (R C i : Nat) : rcS R C (i + 1) ≤ rcS R C i := by unfold rcS; split <;> split <;> omega
/-- a pile as a tableau -/
def toT (R C H : Nat) (Y : List Nat) : List (List Nat) := (List.range (R + H)).map fun i => if i < R then (List.range C).map fun j => H - Y.getD (i * C + j) 0 + i + 1 else []
theorem toT_row {R C H : Nat} {Y : List Nat} {r : Nat} (h : r < R) : nrow (toT R C H Y) r = (List.range C).map fun j => H - Y.getD (r * C + j) 0 + r + 1 := by
  unfold nrow toT
  rw [List.getD, List.getElem?_eq_getElem (by simp; omega)]
  simp [h]
theorem toT_out {R C H : Nat} {Y : List Nat} {r : Nat} (h : R ≤ r) : nrow (toT R C H Y) r = [] := by
  by_cases h2 : r < R + H
  · unfold nrow toT
    rw [List.getD, List.getElem?_eq_getElem (by simp; omega)]
    simp; omega
  · exact nrow_out (by simp [toT]; omega)
theorem toT_len (R C H : Nat) (Y : List Nat) (r : Nat) : len2 (toT R C H Y) r = rcS R C r := by
  unfold len2 rcS
  by_cases h : r < R
  · rw [toT_row h, if_pos h]; simp
  · rw [toT_out (by omega), if_neg h]; rfl
theorem toT_at {R C H : Nat} {Y : List Nat} {r j : Nat} (h : r < R) (hj : j < C) : at2 (toT R C H Y) r j = H - Y.getD (r * C + j) 0 + r + 1 := by
  unfold at2
  rw [toT_row h, List.getD, List.getElem?_eq_getElem (by simpa using hj)]
  simp

theorem row_down {C : Nat} {f : Nat → Nat} (h : ∀ j, j < C → 0 < j → f j ≤ f (j - 1)) : ∀ (d j : Nat), j + d < C → f (j + d) ≤ f j
  | 0, _, _ => Nat.le_refl _
  | d + 1, j, hj => by
    have h1 := row_down h d j (by omega)
    have h2 := h (j + (d + 1)) hj (by omega)
    rw [show j + (d + 1) - 1 = j + d by omega] at h2
    omega

theorem toT_mem {R C H : Nat} (hC : 1 ≤ C) {Y : List Nat} (hY : Y ∈ sr C H (R * C) []) : TabM (R + H) (toT R C H Y) := by
  obtain ⟨hl, hp⟩ := (pil_sr hC).1 hY
  have hlen : ∀ r j, j < len2 (toT R C H Y) r → r < R ∧ j < C := fun r j hj => by
    rw [toT_len] at hj; unfold rcS at hj; split at hj
    · exact ⟨‹_›, hj⟩
    · omega
  refine ⟨by simp [toT], fun r j hj => ?_, fun r => ?_, fun r j hj => ?_⟩
  · obtain ⟨h1, h2⟩ := hlen r j hj
    rw [toT_at h1 h2]; omega
  · by_cases h : r < R
    · rw [toT_row h, List.pairwise_map]
      refine List.Pairwise.imp_of_mem (R := fun a b => a < b) ?_ List.pairwise_lt_range
      intro a b ha hb hab
      have hb' := List.mem_range.1 hb
      have := row_down (f := fun j => Y.getD (r * C + j) 0) (fun j hj h0 => (hp r h j hj).2.1 h0) (b - a) a (by omega)
      rw [show a + (b - a) = b by omega] at this
      have h3 := (hp r h b hb').1
      omega
    · rw [toT_out (by omega)]; exact List.Pairwise.nil
  · obtain ⟨h1, h2⟩ := hlen (r + 1) j hj
    refine ⟨by rw [toT_len]; unfold rcS; rw [if_pos (by omega)]; exact h2, ?_⟩
    rw [toT_at (by omega) h2, toT_at h1 h2]
    have h3 := (hp (r + 1) h1 j h2).2.2 (by omega)
    rw [Nat.add_sub_cancel] at h3
    have h4 := (hp r (by omega) j h2).1
    omega

theorem place_lt {R C i j : Nat} (hi : i < R) (hj : j < C) : i * C + j < R * C := by
  have : (i + 1) * C ≤ R * C := Nat.mul_le_mul_right _ hi
  rw [Nat.succ_mul] at this; omega
theorem toT_inj {R C H : Nat} (hC : 1 ≤ C) {Y Z : List Nat} (hY : Y ∈ sr C H (R * C) []) (hZ : Z ∈ sr C H (R * C) []) (e : toT R C H Y = toT R C H Z) : Y = Z := by
  obtain ⟨hl, hp⟩ := (pil_sr hC).1 hY
  obtain ⟨hl2, hp2⟩ := (pil_sr hC).1 hZ
  refine List.ext_getElem (by omega) (fun q h1 h2 => ?_)
  have hi : q / C < R := Nat.div_lt_of_lt_mul (by rw [Nat.mul_comm]; omega)
  have hj : q % C < C := Nat.mod_lt _ hC
  have hq : (q / C) * C + q % C = q := by rw [Nat.mul_comm]; exact Nat.div_add_mod q C
  have h3 : at2 (toT R C H Y) (q / C) (q % C) = at2 (toT R C H Z) (q / C) (q % C) := by rw [e]
  rw [toT_at hi hj, toT_at hi hj] at h3
  have h4 := (hp _ hi _ hj).1
  have h5 := (hp2 _ hi _ hj).1
  rw [hq] at h3 h4 h5
  have h6 : Y.getD q 0 = Z.getD q 0 := by omega
  simpa [List.getD, List.getElem?_eq_getElem h1, List.getElem?_eq_getElem h2] using h6

theorem col_up {M : Nat} {t : List (List Nat)} (h : TabM M t) {R C : Nat} (hl : ∀ r, r < R → len2 t r = C) : ∀ (d i j : Nat), i + d < R → j < C → at2 t i j + d ≤ at2 t (i + d) j
  | 0, _, _, _, _ => Nat.le_refl _
  | d + 1, i, j, hi, hj => by
    have h1 := col_up h hl d i j (by omega) hj
    have h2 := (h.st (i + d) j (by rw [hl (i + d + 1) (by omega)]; exact hj)).2
    rw [show i + (d + 1) = i + d + 1 by omega]
    omega

theorem sr_count {R C H : Nat} (hC : 1 ≤ C) : (sr C H (R * C) []).length = (stL (R + H) (xs (rcS R C) (R + H))).length := by
  have hx0 : ∀ k, k < R + H → k ≤ xs (rcS R C) (R + H) k := fun k _ => by unfold xs; omega
  have hx1 : ∀ k, k + 1 < R + H → xs (rcS R C) (R + H) k < xs (rcS R C) (R + H) (k + 1) := xs_up (rcS_down R C)
  have hp : ((sr C H (R * C) []).map (toT R C H)).Perm (stL (R + H) (xs (rcS R C) (R + H))) := by
    refine (List.perm_ext_iff_of_nodup (nodup_mapI _ _ (fun s hs s' hs' e => toT_inj hC hs hs' e) (nodup_sr hC _ _)) (nodup_stL _ _ hx0 hx1)).2 fun t => ?_
    rw [mem_stL _ _ hx0 hx1]
    constructor
    · intro ht
      obtain ⟨Y, hY, rfl⟩ := List.mem_map.1 ht
      refine ⟨toT_mem hC hY, fun k hk => ?_⟩
      rw [toT_len]; rfl
    · rintro ⟨hT, hl⟩
      have hl2 : ∀ r, r < R + H → len2 t r = rcS R C r := fun r hr => by
        have := hl (R + H - 1 - r) (by omega)
        unfold xs at this
        rw [show R + H - 1 - (R + H - 1 - r) = r by omega] at this
        omega
      have hlR : ∀ r, r < R → len2 t r = C := fun r hr => by rw [hl2 r (by omega)]; unfold rcS; rw [if_pos hr]
      have lo : ∀ i j, i < R → j < C → i + 1 ≤ at2 t i j := fun i j hi hj => hT.low i j (by rw [hlR i hi]; exact hj)
      have hi2 : ∀ i j, i < R → j < C → at2 t i j ≤ H + i + 1 := fun i j hi hj => by
        have h1 := col_up hT hlR (R - 1 - i) i j (by omega) hj
        rw [show i + (R - 1 - i) = R - 1 by omega] at h1
        have h2 := (hT.pos (R - 1) j (by rw [hlR _ (by omega)]; exact hj)).2
        omega
      obtain ⟨Y, hYd⟩ : ∃ Y : List Nat, Y = (List.range (R * C)).map fun q => H + q / C + 1 - at2 t (q / C) (q % C) := ⟨_, rfl⟩
      have hYl : Y.length = R * C := by rw [hYd]; simp
      have hYa : ∀ i j, i < R → j < C → Y.getD (i * C + j) 0 = H + i + 1 - at2 t i j := fun i j hi hj => by
        have hq := place_lt hi hj
        rw [hYd, List.getD, List.getElem?_eq_getElem (by simpa using hq)]
        simp only [List.getElem_map, List.getElem_range, Option.getD_some]
        have e1 : (i * C + j) / C = i := by rw [Nat.mul_comm, Nat.mul_add_div (by omega), Nat.div_eq_of_lt hj, Nat.add_zero]
        have e2 : (i * C + j) % C = j := by rw [Nat.mul_comm, Nat.mul_add_mod, Nat.mod_eq_of_lt hj]
        rw [e1, e2]
      have hY : Y ∈ sr C H (R * C) [] := by
        refine (pil_sr hC).2 ⟨hYl, fun i hi j hj => ?_⟩
        have a1 := lo i j hi hj
        have a2 := hi2 i j hi hj
        refine ⟨by rw [hYa i j hi hj]; omega, fun h0 => ?_, fun h0 => ?_⟩
        · rw [hYa i j hi hj, hYa i (j - 1) hi (by omega)]
          have hw := hT.wk i
          have hlen : (nrow t i).length = C := hlR i hi
          have := (List.pairwise_iff_getElem.1 hw) (j - 1) j (by omega) (by omega) (by omega)
          have b1 : at2 t i j = (nrow t i)[j]'(by omega) := by unfold at2; simp [List.getD, List.getElem?_eq_getElem (show j < (nrow t i).length by omega)]
          have b2 : at2 t i (j - 1) = (nrow t i)[j - 1]'(by omega) := by unfold at2; simp [List.getD, List.getElem?_eq_getElem (show j - 1 < (nrow t i).length by omega)]
          omega
        · rw [hYa i j hi hj, hYa (i - 1) j (by omega) hj]
          have := (hT.st (i - 1) j (by rw [show i - 1 + 1 = i by omega, hlR i hi]; exact hj)).2
          rw [show i - 1 + 1 = i by omega] at this
          have := hi2 (i - 1) j (by omega) hj
          omega
      refine List.mem_map.2 ⟨Y, hY, tab_rows (by rw [hT.rows]; simp [toT]) (fun r hr => ?_)⟩
      by_cases h : r < R
      · rw [toT_row h]
        refine List.ext_getElem (by rw [List.length_map, List.length_range]; exact (hlR r h).symm) (fun j h1 h2 => ?_)
        have hj : j < C := by simpa using h1
        simp only [List.getElem_map, List.getElem_range]
        rw [hYa r j h hj]
        have a1 := lo r j h hj
        have a2 := hi2 r j h hj
        have b1 : at2 t r j = (nrow t r)[j]'h2 := by unfold at2; simp [List.getD, List.getElem?_eq_getElem h2]
        omega
      · rw [toT_out (by omega)]
        symm
        refine List.eq_nil_of_length_eq_zero ?_
        have : r < R + H := by simpa [toT] using hr
        have := hl2 r this
        unfold rcS at this; rw [if_neg h] at this
        exact this
  rw [← hp.length_eq, List.length_map]

theorem pZ_cut {f : Nat → Int} {R : Nat} : ∀ H, (∀ i, R ≤ i → i < R + H → f i = 1) → pZ f (R + H) = pZ f R
  | 0, _ => rfl
  | H + 1, h => by
    rw [show R + (H + 1) = (R + H) + 1 by omega, pZ, pZ_cut H (fun i h1 h2 => h i h1 (by omega)), h (R + H) (by omega) (by omega), Int.mul_one]
theorem cq_rect {C j k : Nat} (hj : j < C) : ∀ t, cq (fun s => if s < k then C else 0) j t = min t k
  | 0 => by simp [cq]
  | t + 1 => by
    rw [cq, cq_rect hj t]
    by_cases h : t < k
    · rw [if_pos h, if_pos hj]; omega
    · rw [if_neg h, if_neg (by omega)]; omega

/-- the product over the places -/
def mP (R C H : Nat) : Int := pZ (fun i => pZ (fun j => (i : Int) + j + H + 1) C) R

theorem macmahon {R C H : Nat} (hC : 1 ≤ C) : mP R C 0 * ((sr C H (R * C) []).length : Int) = mP R C H := by
  have h1 := hook_content (P := rcS R C) (R + H) (rcS_down R C)
  have h2 := stL_len (R + H) (xs (rcS R C) (R + H)) (fun i hi => Nat.le_of_lt (xs_up (rcS_down R C) i hi))
  rw [← h2, ← sr_count hC] at h1
  have e1 : pZ (fun i => pZ (hk (rcS R C) (R + H) i) (rcS R C i)) (R + H) = mP R C 0 := by
    rw [pZ_cut H (fun i h1 _ => by unfold rcS; rw [if_neg (by omega)]; rfl)]
    unfold mP
    rw [pZ_rev (fun i => pZ (fun j => (i : Int) + j + (0 : Nat) + 1) C) R]
    refine pZ_congr R (fun i hi => ?_)
    have e0 : rcS R C i = C := by unfold rcS; rw [if_pos hi]
    rw [e0, pZ_rev (fun j => ((R - 1 - i : Nat) : Int) + j + (0 : Nat) + 1) C]
    refine pZ_congr C (fun j hj => ?_)
    unfold hk
    rw [e0]
    have e2 : cq (fun s => rcS R C (i + 1 + s)) j (R + H - 1 - i) = R - 1 - i := by
      have e3 : (fun s => rcS R C (i + 1 + s)) = fun s => if s < R - 1 - i then C else 0 := by
        funext s
        unfold rcS
        by_cases h : s < R - 1 - i
        · rw [if_pos h, if_pos (by omega)]
        · rw [if_neg h, if_neg (by omega)]
      rw [e3, cq_rect hj]; omega
    rw [e2]
    omega
  have e2 : ctn (rcS R C) (R + H) = mP R C H := by
    unfold ctn
    rw [pZ_cut H (fun i h1 _ => by unfold rcS; rw [if_neg (by omega)]; rfl)]
    unfold mP
    rw [pZ_rev (fun i => pZ (fun j => (i : Int) + j + H + 1) C) R]
    refine pZ_congr R (fun i hi => ?_)
    have e0 : rcS R C i = C := by unfold rcS; rw [if_pos hi]
    rw [e0]
    refine pZ_congr C (fun j hj => ?_)
    omega
  rw [e1, e2] at h1
  exact h1

end Go.Proofs.YtbiakncblkjmhaaGreatDoor

namespace Go.Proofs.YtbiakncblkjmhaaGreatDoor

theorem pZ_times (f g : Nat → Int) : ∀ n, pZ (fun i => f i * g i) n = pZ f n * pZ g n
  | 0 => rfl
  | n + 1 => by rw [pZ, pZ, pZ, pZ_times f g n]; simp [Int.mul_comm, Int.mul_left_comm, Int.mul_assoc]
theorem pZ_ones : ∀ n, pZ (fun _ => 1) n = 1
  | 0 => rfl
  | n + 1 => by rw [pZ, pZ_ones n]; rfl
theorem pZ_swp (f : Nat → Nat → Int) (m : Nat) : ∀ n, pZ (fun i => pZ (f i) m) n = pZ (fun j => pZ (fun i => f i j) n) m
  | 0 => by simp only [pZ]; exact (pZ_ones m).symm
  | n + 1 => by
    rw [pZ, pZ_swp f m n, ← pZ_times]
    rfl

/-- the product over the cubes of the room -/
def tP (R C H g : Nat) : Int := pZ (fun i => pZ (fun j => pZ (fun k => (i : Int) + j + k + g) H) C) R
theorem tP_ne (R C H g : Nat) (hg : 1 ≤ g) : tP R C H g ≠ 0 := pZ_ne R fun i _ => pZ_ne C fun j _ => pZ_ne H fun k _ => by omega
theorem mP_ne (R C H : Nat) : mP R C H ≠ 0 := pZ_ne R fun i _ => pZ_ne C fun j _ => by omega
theorem tele1 (a : Int) : ∀ H : Nat, pZ (fun k => a + k + 2) H * (a + 1) = pZ (fun k => a + k + 1) H * (a + H + 1)
  | 0 => by simp [pZ]
  | H + 1 => by
    have ih := tele1 a H
    rw [pZ, pZ]
    have e3 : a + (H : Int) + 2 = a + ((H + 1 : Nat) : Int) + 1 := by omega
    have : pZ (fun k => a + (k : Int) + 2) H * (a + (H : Int) + 2) * (a + 1) = (pZ (fun k => a + (k : Int) + 2) H * (a + 1)) * (a + (H : Int) + 2) := by
      rw [Int.mul_assoc, Int.mul_comm (a + (H : Int) + 2), ← Int.mul_assoc]
    rw [this, ih, e3]
theorem mP_tP (R C H : Nat) : mP R C H * tP R C H 1 = mP R C 0 * tP R C H 2 := by
  unfold mP tP
  rw [← pZ_times, ← pZ_times]
  refine pZ_congr R (fun i _ => ?_)
  rw [← pZ_times, ← pZ_times]
  refine pZ_congr C (fun j _ => ?_)
  have h := tele1 ((i : Int) + j) H
  rw [Int.mul_comm, show (i : Int) + j + (H : Int) + 1 = (i : Int) + j + H + 1 from rfl]
  rw [show ((i : Int) + j + ((0 : Nat) : Int) + 1) = (i : Int) + j + 1 by omega, Int.mul_comm ((i : Int) + j + 1)]
  exact h.symm

theorem tP_turn (R C H g : Nat) : tP H R C g = tP R C H g := by
  unfold tP
  rw [pZ_swp (fun i j => pZ (fun k => (i : Int) + j + k + g) C) R H]
  refine pZ_congr R (fun i _ => ?_)
  rw [pZ_swp (fun k j => (k : Int) + i + j + g) C H]
  refine pZ_congr C (fun j _ => ?_)
  exact pZ_congr H (fun k _ => by omega)
theorem tP_mir (R C H g : Nat) : tP C R H g = tP R C H g := by
  unfold tP
  rw [pZ_swp (fun i j => pZ (fun k => (i : Int) + j + k + g) H) R C]
  refine pZ_congr R (fun i _ => pZ_congr C (fun j _ => pZ_congr H (fun k _ => by omega)))

/-- how many piles -/
def mN (R C H : Nat) : Nat := if C = 0 then 1 else (sr C H (R * C) []).length
theorem mN_mP (R C H : Nat) : mP R C 0 * (mN R C H : Int) = mP R C H := by
  unfold mN
  by_cases h : C = 0
  · subst h
    unfold mP
    simp only [pZ, if_true]
    rw [pZ_ones]; rfl
  · rw [if_neg h]; exact macmahon (by omega)
theorem mN_tP (R C H : Nat) : (mN R C H : Int) * tP R C H 1 = tP R C H 2 := by
  have h1 := mN_mP R C H
  have h2 := mP_tP R C H
  rw [← h1, Int.mul_assoc] at h2
  exact Int.eq_of_mul_eq_mul_left (mP_ne R C 0) h2
theorem mN_turn (R C H : Nat) : mN H R C = mN R C H := by
  have h1 := mN_tP R C H
  have h2 := mN_tP H R C
  rw [tP_turn R C H 1, tP_turn R C H 2, ← h1] at h2
  have := Int.eq_of_mul_eq_mul_right (tP_ne R C H 1 (by omega)) h2
  omega
theorem mN_mir (R C H : Nat) : mN C R H = mN R C H := by
  have h1 := mN_tP R C H
  have h2 := mN_tP C R H
  rw [tP_mir R C H 1, tP_mir R C H 2, ← h1] at h2
  have := Int.eq_of_mul_eq_mul_right (tP_ne R C H 1 (by omega)) h2
  omega

/-- piles of so many cubes more -/
def svr (C H : Nat) : Nat → List Nat → Nat → Nat
  | 0, _, l => if l = 0 then 1 else 0
  | d + 1, X, l => ((List.range (min (moX C H X X.length) l + 1)).map fun n => svr C H d (X ++ [n]) (l - n)).sum

theorem sr_sum {C H : Nat} : ∀ (d : Nat) (X Y : List Nat), Y ∈ sr C H d X → X.sum ≤ Y.sum
  | 0, X, Y, h => by simp only [sr, List.mem_singleton] at h; subst h; exact Nat.le_refl _
  | d + 1, X, Y, h => by
    simp only [sr, List.mem_flatMap] at h
    obtain ⟨n, _, h⟩ := h
    have := sr_sum d _ _ h
    rw [List.sum_append] at this; omega
theorem sum_cut {f : Nat → Nat} {k : Nat} : ∀ m, (∀ n, k ≤ n → n < k + m → f n = 0) → ((List.range (k + m)).map f).sum = ((List.range k).map f).sum
  | 0, _ => rfl
  | m + 1, h => by
    rw [show k + (m + 1) = (k + m) + 1 by omega, List.range_succ, List.map_append, List.sum_append, sum_cut m (fun n h1 h2 => h n h1 (by omega))]
    simp [h (k + m) (by omega) (by omega)]
theorem svr_is {C H : Nat} : ∀ (d : Nat) (X : List Nat) (l : Nat), ((sr C H d X).filter fun Y => decide (Y.sum = X.sum + l)).length = svr C H d X l
  | 0, X, l => by
    simp only [sr, svr]
    by_cases h : l = 0
    · subst h; simp
    · rw [if_neg h, List.filter_cons_of_neg (by simp; omega)]; rfl
  | d + 1, X, l => by
    simp only [sr, svr]
    rw [List.filter_flatMap, List.length_flatMap]
    have e : ∀ n, ((sr C H d (X ++ [n])).filter fun Y => decide (Y.sum = X.sum + l)).length = if n ≤ l then svr C H d (X ++ [n]) (l - n) else 0 := fun n => by
      by_cases h : n ≤ l
      · rw [if_pos h, ← svr_is d (X ++ [n]) (l - n)]
        congr 2
        funext Y
        rw [List.sum_append]
        simp only [List.sum_cons, List.sum_nil]
        congr 1
        exact propext (by omega)
      · rw [if_neg h]
        refine List.length_eq_zero_iff.2 (List.filter_eq_nil_iff.2 (fun Y hY => ?_))
        have := sr_sum d _ _ hY
        rw [List.sum_append] at this
        simp at this ⊢
        omega
    rw [List.map_congr_left (g := fun n => if n ≤ l then svr C H d (X ++ [n]) (l - n) else 0) (fun n _ => e n)]
    obtain ⟨k, hk⟩ : ∃ k, moX C H X X.length + 1 = (min (moX C H X X.length) l + 1) + k := ⟨moX C H X X.length - min (moX C H X X.length) l, by omega⟩
    rw [hk, sum_cut k (fun n h1 h2 => by rw [if_neg (by omega)])]
    congr 1
    refine List.map_congr_left (fun n hn => ?_)
    have := List.mem_range.1 hn
    rw [if_pos (by omega)]

def serN : Nat → Nat
  | 0 => 1
  | 1 => 1
  | 2 => 3
  | 3 => 6
  | 4 => 13
  | _ => 24
/-- products of the program's lists -/
def ovN (R C H : Nat) : Nat := ((List.range R).map fun i => ((List.range C).map fun j => i + j + H + 1).foldl (· * ·) 1).foldl (· * ·) 1
def roomOk (R C H m : Nat) : Bool := decide (2000 * ovN R C 0 < ovN R C H) || decide (min R (min C H) < m) || decide (svr C H (R * C) [] m = serN m)
def rooms : Bool := (List.range 8).all fun R => (List.range 8).all fun C => (List.range 8).all fun H => (List.range 6).all fun m => roomOk (R + 1) (C + 1) (H + 1) m

set_option maxRecDepth 100000 in
theorem rooms_ok : rooms = true := by decide +kernel

end Go.Proofs.YtbiakncblkjmhaaGreatDoor

namespace Go.Proofs.YtbiakncblkjmhaaGreatDoor

/-- x / y is N / D in lowest terms -/
def LowT (N D x y : Nat) : Prop := x = N / Nat.gcd N D ∧ y = D / Nat.gcd N D
theorem low_cop {x y : Nat} (hx : 0 < x) : Nat.Coprime (x / Nat.gcd x y) (y / Nat.gcd x y) := by
  have hg : 0 < Nat.gcd x y := Nat.gcd_pos_of_pos_left _ hx
  exact Nat.coprime_div_gcd_div_gcd hg
theorem low_uniq {a b c d : Nat} (ha : 0 < a) (h1 : Nat.Coprime a b) (h2 : Nat.Coprime c d) (e : a * d = c * b) : a = c ∧ b = d := by
  have k1 : a ∣ c := h1.dvd_of_dvd_mul_right (k := a) (m := c) (n := b) (by rw [← e]; exact Nat.dvd_mul_right a d)
  have k2 : c ∣ a := h2.dvd_of_dvd_mul_right (k := c) (m := a) (n := d) (by rw [e]; exact Nat.dvd_mul_right c b)
  have e1 := Nat.dvd_antisymm k1 k2
  subst e1
  exact ⟨rfl, (Nat.eq_of_mul_eq_mul_left ha e).symm⟩
theorem low_prod (x y : Nat) : x / Nat.gcd x y * y = x * (y / Nat.gcd x y) := by
  have h1 := Nat.div_mul_cancel (Nat.gcd_dvd_left x y)
  have h2 := Nat.div_mul_cancel (Nat.gcd_dvd_right x y)
  calc x / Nat.gcd x y * y = x / Nat.gcd x y * (y / Nat.gcd x y * Nat.gcd x y) := by rw [h2]
    _ = (x / Nat.gcd x y * Nat.gcd x y) * (y / Nat.gcd x y) := by rw [Nat.mul_comm (y / Nat.gcd x y) (Nat.gcd x y), ← Nat.mul_assoc]
    _ = x * (y / Nat.gcd x y) := by rw [h1]
theorem low_same {x y N D : Nat} (hx : 0 < x) (hN : 0 < N) (e : x * D = N * y) : x / Nat.gcd x y = N / Nat.gcd N D ∧ y / Nat.gcd x y = D / Nat.gcd N D := by
  have p1 := low_prod x y
  have p2 := low_prod N D
  have hgx : 0 < x / Nat.gcd x y := Nat.div_pos (Nat.gcd_le_left _ hx) (Nat.gcd_pos_of_pos_left _ hx)
  refine low_uniq hgx (low_cop hx) (low_cop hN) ?_
  -- (x/g) * (D/h) = (N/h) * (y/g): times g * h both sides are x * D and N * y
  have hg : 0 < Nat.gcd x y * Nat.gcd N D := Nat.mul_pos (Nat.gcd_pos_of_pos_left _ hx) (Nat.gcd_pos_of_pos_left _ hN)
  refine Nat.eq_of_mul_eq_mul_right hg ?_
  have a1 := Nat.div_mul_cancel (Nat.gcd_dvd_left x y)
  have a2 := Nat.div_mul_cancel (Nat.gcd_dvd_right x y)
  have b1 := Nat.div_mul_cancel (Nat.gcd_dvd_left N D)
  have b2 := Nat.div_mul_cancel (Nat.gcd_dvd_right N D)
  rw [Nat.mul_mul_mul_comm, a1, b2, Nat.mul_comm (Nat.gcd x y), Nat.mul_mul_mul_comm, b1, a2, e]
/-- a fraction more -/
theorem LowT.mul {N D x y u v N' D' : Nat} (h : LowT N D x y) (hN : 0 < N) (hu : 0 < u) (hN' : 0 < N') (e : N * u * D' = N' * (D * v)) :
    LowT N' D' (x * (u / Nat.gcd u v) / Nat.gcd (x * (u / Nat.gcd u v)) (y * (v / Nat.gcd u v))) (y * (v / Nat.gcd u v) / Nat.gcd (x * (u / Nat.gcd u v)) (y * (v / Nat.gcd u v))) := by
  obtain ⟨rfl, rfl⟩ := h
  have g1 : 0 < Nat.gcd N D := Nat.gcd_pos_of_pos_left _ hN
  have g2 : 0 < Nat.gcd u v := Nat.gcd_pos_of_pos_left _ hu
  have q1 : 0 < N / Nat.gcd N D := Nat.div_pos (Nat.gcd_le_left _ hN) g1
  have q3 : 0 < u / Nat.gcd u v := Nat.div_pos (Nat.gcd_le_left _ hu) g2
  have a1 := Nat.div_mul_cancel (Nat.gcd_dvd_left N D)
  have a2 := Nat.div_mul_cancel (Nat.gcd_dvd_right N D)
  have b1 := Nat.div_mul_cancel (Nat.gcd_dvd_left u v)
  have b2 := Nat.div_mul_cancel (Nat.gcd_dvd_right u v)
  refine low_same (Nat.mul_pos q1 q3) hN' ?_
  refine Nat.eq_of_mul_eq_mul_right (Nat.mul_pos g1 g2) ?_
  have e1 : N / Nat.gcd N D * (u / Nat.gcd u v) * D' * (Nat.gcd N D * Nat.gcd u v) = N * u * D' := by
    rw [Nat.mul_right_comm, Nat.mul_mul_mul_comm, a1, b1]
  have e2 : N' * (D / Nat.gcd N D * (v / Nat.gcd u v)) * (Nat.gcd N D * Nat.gcd u v) = N' * (D * v) := by
    rw [Nat.mul_assoc, Nat.mul_mul_mul_comm, a2, b2]
  rw [e1, e2, e]
theorem LowT.pos {N D x y : Nat} (h : LowT N D x y) (hN : 0 < N) (hD : 0 < D) : 0 < x ∧ 0 < y := by
  obtain ⟨rfl, rfl⟩ := h
  have g1 : 0 < Nat.gcd N D := Nat.gcd_pos_of_pos_left _ hN
  exact ⟨Nat.div_pos (Nat.gcd_le_left _ hN) g1, Nat.div_pos (Nat.gcd_le_right _ hD) g1⟩
theorem LowT.le {N D x y : Nat} (h : LowT N D x y) : x ≤ N ∧ y ≤ D := by
  obtain ⟨rfl, rfl⟩ := h
  exact ⟨Nat.div_le_self _ _, Nat.div_le_self _ _⟩
theorem LowT.whole {N D x y q : Nat} (h : LowT N D x y) (hD : 0 < D) (e : D * q = N) : x = q ∧ y = 1 := by
  obtain ⟨rfl, rfl⟩ := h
  subst e
  rw [Nat.gcd_comm, Nat.gcd_eq_left (Nat.dvd_mul_right D q), Nat.mul_div_cancel_left _ hD, Nat.div_self hD]
  exact ⟨rfl, rfl⟩

/-- the room's product as far as row i, column j; h: all cubes of each place (0: none) -/
def prP (b h i j : Nat) : Nat := pL ((List.range (i * b + j)).map fun t => t / b + t % b + h + 1)
theorem prP_zero (b h : Nat) : prP b h 0 0 = 1 := by simp [prP, pL]
theorem prP_row (b h i : Nat) : prP b h i b = prP b h (i + 1) 0 := by unfold prP; rw [Nat.succ_mul, Nat.add_zero]
theorem prP_succ {b h i j : Nat} (hj : j < b) : prP b h i (j + 1) = prP b h i j * (i + j + h + 1) := by
  unfold prP
  rw [← Nat.add_assoc, List.range_succ, List.map_append, pL_app]
  have e1 : (i * b + j) / b = i := by rw [Nat.mul_comm, Nat.mul_add_div (by omega), Nat.div_eq_of_lt hj, Nat.add_zero]
  have e2 : (i * b + j) % b = j := by rw [Nat.mul_comm, Nat.mul_add_mod, Nat.mod_eq_of_lt hj]
  simp [pL, e1, e2]
theorem pL_bound {M : Nat} : ∀ {l : List Nat}, (∀ a ∈ l, a ≤ M) → pL l ≤ M ^ l.length
  | [], _ => by simp [pL]
  | a :: l, h => by
    rw [pL, List.length_cons, Nat.pow_succ, Nat.mul_comm]
    exact Nat.mul_le_mul (pL_bound (fun x hx => h x (by simp [hx]))) (h a (by simp))
theorem prP_pos (b h i j : Nat) : 0 < prP b h i j := pL_pos (fun a ha => by
  obtain ⟨t, _, rfl⟩ := List.mem_map.1 ha
  exact Nat.succ_pos _)
theorem prP_lt {b h i j : Nat} (hb : b ≤ 20) (hh : h ≤ 20) (hi : i < 20) (hj : j ≤ b) : prP b h i j < 4294967296 ^ 80 := by
  have h1 : prP b h i j ≤ 64 ^ (i * b + j) := by
    have := pL_bound (M := 64) (l := (List.range (i * b + j)).map fun t => t / b + t % b + h + 1) (fun a ha => by
      obtain ⟨t, ht, rfl⟩ := List.mem_map.1 ha
      have ht := List.mem_range.1 ht
      rcases Nat.eq_zero_or_pos b with rfl | h0
      · omega
      · have h2 : t / b ≤ i := by
          rcases Nat.lt_or_ge i (t / b) with q | q
          · exfalso
            have := Nat.mul_le_mul_right b (show i + 1 ≤ t / b from q)
            have h3 := Nat.div_mul_le_self t b
            rw [Nat.succ_mul] at this
            omega
          · exact q
        have h3 := Nat.mod_lt t h0
        omega)
    rw [List.length_map, List.length_range] at this
    exact this
  have h2 : i * b + j ≤ 400 := by
    have := Nat.mul_le_mul (show i ≤ 19 by omega) hb
    omega
  obtain ⟨k, hk⟩ : ∃ k, k = 80 := ⟨_, rfl⟩
  rw [← hk]
  refine Nat.lt_of_le_of_lt (Nat.le_trans h1 (Nat.pow_le_pow_right (by omega) (show i * b + j ≤ 5 * k by omega))) ?_
  rw [Nat.pow_mul]
  exact Nat.pow_lt_pow_left (by decide +kernel) (by omega)
theorem prP_pZ (b h i : Nat) : ∀ j, j ≤ b → ((prP b h i j : Nat) : Int) = (prP b h i 0 : Nat) * pZ (fun j => (i : Int) + j + h + 1) j
  | 0, _ => by rw [pZ, Int.mul_one]
  | j + 1, hj => by
    rw [prP_succ (show j < b by omega), pZ, Int.natCast_mul, prP_pZ b h i j (by omega), Int.mul_assoc]
    congr 2
theorem prP_mP (b h : Nat) : ∀ i, ((prP b h i 0 : Nat) : Int) = mP i b h
  | 0 => by rw [prP_zero]; rfl
  | i + 1 => by
    rw [← prP_row, prP_pZ b h i b (Nat.le_refl _), prP_mP b h i]
    rfl
/-- the product is a whole number -/
theorem prP_mN (a b c : Nat) : prP b 0 a 0 * mN a b c = prP b c a 0 := by
  have h := mN_mP a b c
  rw [← prP_mP, ← prP_mP] at h
  exact Int.natCast_inj.1 (by rw [Int.natCast_mul]; exact h)
theorem LowT.scale {N D x y s : Nat} (h : LowT N D x y) (hs : 0 < s) : LowT (N * s) (D * s) x y := by
  obtain ⟨rfl, rfl⟩ := h
  unfold LowT
  rw [Nat.gcd_mul_right, Nat.mul_div_mul_right _ _ hs, Nat.mul_div_mul_right _ _ hs]
  exact ⟨rfl, rfl⟩
theorem prP_lt0 {b h a : Nat} (hb : b ≤ 20) (hh : h ≤ 20) (ha : a ≤ 20) : prP b h a 0 < 4294967296 ^ 80 := by
  rcases Nat.eq_zero_or_pos a with rfl | h0
  · rw [prP_zero]; exact Nat.one_lt_pow (by omega) (by omega)
  · have := prP_lt (b := b) (h := h) (i := a - 1) (j := b) hb hh (by omega) (Nat.le_refl _)
    rw [prP_row, show a - 1 + 1 = a by omega] at this
    exact this
theorem up_100 {x y : Nat} (h : x < 4294967296 ^ 80) (hy : y < 4294967296) : x * y < 4294967296 ^ 100 := by
  have h1 : x * y < 4294967296 ^ 80 * 4294967296 := Nat.mul_lt_mul'' h hy
  rw [← Nat.pow_succ] at h1
  exact Nat.lt_of_lt_of_le h1 (Nat.pow_le_pow_right (by omega) (by omega))
end Go.Proofs.YtbiakncblkjmhaaGreatDoor

namespace Go.Proofs.YtbiakncblkjmhaaGreatDoor

/-- the rows that do not rise and lie nowhere above another one -/
def und : List Nat → Nat → List (List Nat)
  | [], _ => [[]]
  | t :: ts, m => (List.range (min t m + 1)).flatMap fun n => (und ts n).map (n :: ·)
def topP (C H : Nat) (x : List (List Nat)) (i : Nat) : List Nat := if i = 0 then List.replicate C H else x.getD (i - 1) []
/-- the piles of so many rows -/
def rfP (C H : Nat) : Nat → List (List (List Nat))
  | 0 => [[]]
  | i + 1 => (rfP C H i).flatMap fun x => (und (topP C H x i) H).map fun l => x ++ [l]

theorem mem_und : ∀ (ts : List Nat) (m : Nat) (l : List Nat), l ∈ und ts m ↔ l.length = ts.length ∧ ∀ j, j < l.length → l.getD j 0 ≤ ts.getD j 0 ∧ l.getD j 0 ≤ (if j = 0 then m else l.getD (j - 1) 0)
  | [], m, l => by
    simp only [und, List.mem_singleton]
    constructor
    · rintro rfl; exact ⟨rfl, fun j hj => absurd hj (by simp)⟩
    · rintro ⟨h, _⟩; exact List.eq_nil_of_length_eq_zero h
  | t :: ts, m, l => by
    simp only [und, List.mem_flatMap, List.mem_range, List.mem_map]
    constructor
    · rintro ⟨n, hn, q, hq, rfl⟩
      obtain ⟨h1, h2⟩ := (mem_und ts n q).1 hq
      refine ⟨by simp [h1], fun j hj => ?_⟩
      cases j with
      | zero => simp [List.getD]; omega
      | succ j =>
        have := h2 j (by simpa using hj)
        rw [if_neg (by omega)]
        refine ⟨by simpa [List.getD] using this.1, ?_⟩
        cases j with
        | zero => simpa [List.getD] using this.2
        | succ j => rw [if_neg (by omega)] at this; simpa [List.getD] using this.2
    · rintro ⟨h1, h2⟩
      cases l with
      | nil => simp at h1
      | cons n q =>
        have h0 := h2 0 (by simp)
        simp [List.getD] at h0
        refine ⟨n, by omega, q, (mem_und ts n q).2 ⟨by simpa using h1, fun j hj => ?_⟩, rfl⟩
        have := h2 (j + 1) (by simpa using hj)
        rw [if_neg (by omega)] at this
        refine ⟨by simpa [List.getD] using this.1, ?_⟩
        cases j with
        | zero => simpa [List.getD] using this.2
        | succ j => rw [if_neg (by omega)]; simpa [List.getD] using this.2
theorem nodup_und : ∀ (ts : List Nat) (m : Nat), (und ts m).Nodup
  | [], _ => by simp [und]
  | t :: ts, m => by
    simp only [und]
    refine nodup_flat _ _ List.nodup_range (fun n _ => ?_) (fun a _ b _ hab z hz hz' => ?_)
    · exact nodup_mapI _ _ (fun s _ s' _ e => by simpa using e) (nodup_und ts n)
    · obtain ⟨s, _, rfl⟩ := List.mem_map.1 hz
      obtain ⟨s', _, e⟩ := List.mem_map.1 hz'
      simp only [List.cons.injEq] at e
      exact hab e.1.symm

/-- box j of row i -/
def bxP (x : List (List Nat)) (i j : Nat) : Nat := (x.getD i []).getD j 0
theorem bxP_old {x : List (List Nat)} {l : List Nat} {i : Nat} (h : i < x.length) (j : Nat) : bxP (x ++ [l]) i j = bxP x i j := by
  unfold bxP; simp [List.getD, List.getElem?_append_left h]
theorem bxP_new (x : List (List Nat)) (l : List Nat) (j : Nat) : bxP (x ++ [l]) x.length j = l.getD j 0 := by
  unfold bxP; simp [List.getD]
theorem mem_rfP {C H : Nat} : ∀ (r : Nat) (x : List (List Nat)), x ∈ rfP C H r ↔ x.length = r ∧ (∀ i, i < r → (x.getD i []).length = C) ∧ ∀ i, i < r → ∀ j, j < C → bxP x i j ≤ H ∧ (0 < j → bxP x i j ≤ bxP x i (j - 1)) ∧ (0 < i → bxP x i j ≤ bxP x (i - 1) j)
  | 0, x => by
    simp only [rfP, List.mem_singleton]
    constructor
    · rintro rfl; exact ⟨rfl, fun i hi => by omega, fun i hi => by omega⟩
    · rintro ⟨h, _⟩; exact List.eq_nil_of_length_eq_zero h
  | r + 1, x => by
    simp only [rfP, List.mem_flatMap, List.mem_map]
    have htl : ∀ y : List (List Nat), y ∈ rfP C H r → (topP C H y r).length = C := fun y hy => by
      obtain ⟨h1, h2, _⟩ := (mem_rfP r y).1 hy
      unfold topP
      split
      · simp
      · exact h2 _ (by omega)
    have htb : ∀ (y : List (List Nat)) j, j < C → (topP C H y r).getD j 0 = if r = 0 then H else bxP y (r - 1) j := fun y j hj => by
      unfold topP
      split
      · simp [List.getD, hj]
      · rfl
    constructor
    · rintro ⟨y, hy, l, hl, rfl⟩
      have hlen := htl y hy
      obtain ⟨h1, h2, h3⟩ := (mem_rfP r y).1 hy
      obtain ⟨k1, k2⟩ := (mem_und _ _ _).1 hl
      subst h1
      refine ⟨by simp, fun i hi => ?_, fun i hi j hj => ?_⟩
      · by_cases e : i < y.length
        · simp only [List.getD, List.getElem?_append_left e]; exact h2 i e
        · obtain rfl : i = y.length := by omega
          simp [List.getD, k1, hlen]
      · by_cases e : i < y.length
        · have := h3 i e j hj
          rw [bxP_old e, bxP_old e]
          refine ⟨this.1, this.2.1, fun h0 => ?_⟩
          rw [bxP_old (by omega)]; exact this.2.2 h0
        · obtain rfl : i = y.length := by omega
          have kj := k2 j (by rw [k1, hlen]; exact hj)
          rw [bxP_new, htb y j hj] at *
          have hH : l.getD j 0 ≤ H := by
            by_cases e0 : y.length = 0
            · rw [if_pos e0] at kj; exact kj.1
            · rw [if_neg e0] at kj
              have := h3 (y.length - 1) (by omega) j hj
              omega
          refine ⟨hH, fun h0 => ?_, fun h0 => ?_⟩
          · rw [bxP_new]
            have := kj.2
            rw [if_neg (by omega)] at this; exact this
          · rw [bxP_old (by omega)]
            have := kj.1
            rw [if_neg (by omega)] at this; exact this
    · rintro ⟨h1, h2, h3⟩
      obtain ⟨y, l, rfl⟩ : ∃ y l, x = y ++ [l] := by
        rcases List.eq_nil_or_concat x with e | ⟨y, l, e⟩
        · subst e; simp at h1
        · exact ⟨y, l, by simpa using e⟩
      have hy1 : y.length = r := by simpa using h1
      subst hy1
      have hyl : ∀ i, i < y.length → (y.getD i []).length = C := fun i hi => by
        have := h2 i (by omega)
        simpa only [List.getD, List.getElem?_append_left hi] using this
      have hy : y ∈ rfP C H y.length := (mem_rfP _ y).2 ⟨rfl, hyl, fun i hi j hj => by
        have := h3 i (by omega) j hj
        rw [bxP_old hi, bxP_old hi] at this
        refine ⟨this.1, this.2.1, fun h0 => ?_⟩
        have h9 := this.2.2 h0
        rw [bxP_old (by omega)] at h9; exact h9⟩
      have hll : l.length = C := by
        have := h2 y.length (by omega)
        simpa [List.getD] using this
      refine ⟨y, hy, l, (mem_und _ _ _).2 ⟨by rw [htl y hy, hll], fun j hj => ?_⟩, rfl⟩
      rw [hll] at hj
      have := h3 y.length (by omega) j hj
      rw [bxP_new, bxP_new] at this
      rw [htb y j hj]
      refine ⟨?_, ?_⟩
      · split
        · exact this.1
        · have h9 := this.2.2 (by omega)
          rw [bxP_old (by omega)] at h9; exact h9
      · split
        · exact this.1
        · exact this.2.1 (by omega)
theorem nodup_rfP {C H : Nat} : ∀ r, (rfP C H r).Nodup
  | 0 => by simp [rfP]
  | r + 1 => by
    simp only [rfP]
    refine nodup_flat _ _ (nodup_rfP r) (fun x _ => ?_) (fun a _ b _ hab z hz hz' => ?_)
    · exact nodup_mapI _ _ (fun s _ s' _ e => by simpa using e) (nodup_und _ _)
    · obtain ⟨s, _, rfl⟩ := List.mem_map.1 hz
      obtain ⟨s', _, e⟩ := List.mem_map.1 hz'
      exact hab (List.append_inj_left' e rfl).symm

/-- the rows of a pile, place by place -/
def rwsN (R C : Nat) (Y : List Nat) : List (List Nat) := (List.range R).map fun i => (List.range C).map fun j => Y.getD (i * C + j) 0
theorem rwsN_at {R C i j : Nat} {Y : List Nat} (hi : i < R) (hj : j < C) : bxP (rwsN R C Y) i j = Y.getD (i * C + j) 0 := by
  unfold bxP rwsN
  simp [List.getD, hi, hj]
theorem rwsN_len {R C i : Nat} {Y : List Nat} (hi : i < R) : ((rwsN R C Y).getD i []).length = C := by
  unfold rwsN; simp [List.getD, hi]
theorem rows_ext {C : Nat} {x y : List (List Nat)} (hl : x.length = y.length) (hx : ∀ i, i < x.length → (x.getD i []).length = C) (hy : ∀ i, i < x.length → (y.getD i []).length = C) (h : ∀ i, i < x.length → ∀ j, j < C → bxP x i j = bxP y i j) : x = y := by
  refine List.ext_getElem hl (fun i h1 h2 => ?_)
  have a1 := hx i h1
  have a2 := hy i h1
  have a3 := h i h1
  unfold bxP at a3
  simp only [List.getD, List.getElem?_eq_getElem h1, List.getElem?_eq_getElem h2, Option.getD_some] at a1 a2 a3
  refine List.ext_getElem (by omega) (fun j b1 b2 => ?_)
  have := a3 j (by omega)
  simpa [List.getElem?_eq_getElem b1, List.getElem?_eq_getElem b2] using this
theorem plc_lt {R C i j : Nat} (hi : i < R) (hj : j < C) : i * C + j < R * C := by
  have : (i + 1) * C ≤ R * C := Nat.mul_le_mul_right _ hi
  rw [Nat.succ_mul] at this; omega
theorem rwsN_inj {R C H : Nat} (hC : 1 ≤ C) {Y Z : List Nat} (hY : Y ∈ sr C H (R * C) []) (hZ : Z ∈ sr C H (R * C) []) (e : rwsN R C Y = rwsN R C Z) : Y = Z := by
  obtain ⟨hl, _⟩ := (pil_sr hC).1 hY
  obtain ⟨hl2, _⟩ := (pil_sr hC).1 hZ
  refine List.ext_getElem (by omega) (fun q h1 h2 => ?_)
  have hi : q / C < R := Nat.div_lt_of_lt_mul (by rw [Nat.mul_comm]; omega)
  have hj : q % C < C := Nat.mod_lt _ hC
  have hq : (q / C) * C + q % C = q := by rw [Nat.mul_comm]; exact Nat.div_add_mod q C
  have e1 := rwsN_at (Y := Y) hi hj
  have e2 := rwsN_at (Y := Z) hi hj
  rw [e, e2, hq] at e1
  simpa [List.getD, List.getElem?_eq_getElem h1, List.getElem?_eq_getElem h2] using e1.symm
/-- both ways list the same piles -/
theorem rfP_perm {R C H : Nat} (hC : 1 ≤ C) : (rfP C H R).Perm ((sr C H (R * C) []).map (rwsN R C)) := by
  refine (List.perm_ext_iff_of_nodup (nodup_rfP R) (nodup_mapI _ _ (fun s hs s' hs' e => rwsN_inj hC hs hs' e) (nodup_sr hC _ _))).2 (fun x => ?_)
  rw [mem_rfP, List.mem_map]
  constructor
  · rintro ⟨h1, h2, h3⟩
    refine ⟨(List.range (R * C)).map fun q => bxP x (q / C) (q % C), (pil_sr hC).2 ⟨by simp, fun i hi j hj => ?_⟩, ?_⟩
    · have key : ∀ a b, a < R → b < C → ((List.range (R * C)).map fun q => bxP x (q / C) (q % C)).getD (a * C + b) 0 = bxP x a b := fun a b ha hb => by
        have e1 : (a * C + b) / C = a := by rw [Nat.mul_comm, Nat.mul_add_div (by omega), Nat.div_eq_of_lt hb, Nat.add_zero]
        have e2 : (a * C + b) % C = b := by rw [Nat.mul_comm, Nat.mul_add_mod, Nat.mod_eq_of_lt hb]
        simp [List.getD, plc_lt ha hb, e1, e2]
      rw [key i j hi hj]
      have := h3 i hi j hj
      refine ⟨this.1, fun h0 => ?_, fun h0 => ?_⟩
      · rw [key i (j - 1) hi (by omega)]; exact this.2.1 h0
      · rw [key (i - 1) j (by omega) hj]; exact this.2.2 h0
    · refine rows_ext (C := C) (by simp [rwsN, h1]) (fun i hi => rwsN_len (by simpa [rwsN] using hi)) (fun i hi => h2 i (by simpa [rwsN] using hi)) (fun i hi j hj => ?_)
      have hi' : i < R := by simpa [rwsN] using hi
      rw [rwsN_at hi' hj]
      have e1 : (i * C + j) / C = i := by rw [Nat.mul_comm, Nat.mul_add_div (by omega), Nat.div_eq_of_lt hj, Nat.add_zero]
      have e2 : (i * C + j) % C = j := by rw [Nat.mul_comm, Nat.mul_add_mod, Nat.mod_eq_of_lt hj]
      simp [List.getD, plc_lt hi' hj, e1, e2]
  · rintro ⟨Y, hY, rfl⟩
    obtain ⟨hl, hp⟩ := (pil_sr hC).1 hY
    refine ⟨by simp [rwsN], fun i hi => rwsN_len hi, fun i hi j hj => ?_⟩
    have := hp i hi j hj
    rw [rwsN_at hi hj]
    refine ⟨this.1, fun h0 => ?_, fun h0 => ?_⟩
    · rw [rwsN_at hi (by omega)]; exact this.2.1 h0
    · rw [rwsN_at (by omega) hj]; exact this.2.2 h0
theorem rfP_len {R C H : Nat} (hC : 1 ≤ C) : (rfP C H R).length = (sr C H (R * C) []).length := by
  rw [(rfP_perm hC).length_eq, List.length_map]

/-- the first place at which they differ -/
def LexN (Y Z : List Nat) : Prop := Y.length = Z.length ∧ ∃ p, p < Y.length ∧ (∀ t, t < p → Y.getD t 0 = Z.getD t 0) ∧ Y.getD p 0 < Z.getD p 0
theorem lex_sr {C H : Nat} (hC : 1 ≤ C) : ∀ (d : Nat) (X : List Nat), (sr C H d X).Pairwise LexN
  | 0, X => by simp [sr]
  | d + 1, X => by
    simp only [sr]
    rw [List.pairwise_flatMap]
    refine ⟨fun n _ => lex_sr hC d _, ?_⟩
    refine List.Pairwise.imp (R := fun a b => a < b) ?_ List.pairwise_lt_range
    intro a b hab Y hY Z hZ
    obtain ⟨y1, y2, _⟩ := (mem_sr hC d _ _).1 hY
    obtain ⟨z1, z2, _⟩ := (mem_sr hC d _ _).1 hZ
    rw [List.length_append, List.length_singleton] at y1 y2 z1 z2
    have hx : ∀ n t, t < X.length → (X ++ [n]).getD t 0 = X.getD t 0 := fun n t ht => getD_app ht []
    have hn : ∀ n, (X ++ [n]).getD X.length 0 = n := fun n => by simp [List.getD]
    refine ⟨by omega, X.length, by omega, fun t ht => ?_, ?_⟩
    · rw [y2 t (by omega), z2 t (by omega), hx _ _ ht, hx _ _ ht]
    · rw [y2 _ (by omega), z2 _ (by omega), hn, hn]; exact hab
/-- fewer rows: no more piles -/
theorem rfP_pos {C H : Nat} : ∀ r, 0 < (rfP C H r).length := fun r => by
  have : List.replicate r (List.replicate C 0) ∈ rfP C H r := (mem_rfP r _).2 ⟨by simp, fun i hi => by simp [List.getD, hi], fun i hi j hj => by
    have key : ∀ a b, bxP (List.replicate r (List.replicate C 0)) a b = 0 := fun a b => by
      unfold bxP
      simp only [List.getD, List.getElem?_replicate]
      split
      · simp only [Option.getD_some, List.getElem?_replicate]; split <;> rfl
      · rfl
    simp [key]⟩
  exact List.length_pos_of_mem this
end Go.Proofs.YtbiakncblkjmhaaGreatDoor

namespace Go.Proofs.YtbiakncblkjmhaaGreatDoor

def pasS (s : Nat) : Nat → Nat → List Nat → List Nat
  | 0, _, X => X
  | d + 1, k, X => pasS s d (k + 1) (X.set k (X.getD k 0 + X.getD (k - s) 0))
def repS (n s : Nat) : Nat → List Nat → List Nat
  | 0, X => X
  | t + 1, X => repS n s t (pasS s (n + 1 - s) s X)
def szsS (n : Nat) : Nat → Nat → List Nat → List Nat
  | 0, _, X => X
  | d + 1, s, X => szsS n d (s + 1) (repS n s s X)
/-- what pilesBySize counts -/
def totS (n : Nat) : List Nat := szsS n n 1 (1 :: List.replicate n 0)

theorem pasS_len (s : Nat) : ∀ (d k : Nat) (X : List Nat), (pasS s d k X).length = X.length
  | 0, _, _ => rfl
  | d + 1, k, X => by rw [pasS, pasS_len s d (k + 1)]; simp
theorem pasS_far (s m : Nat) : ∀ (d k : Nat) (X : List Nat), m ≤ k → (pasS s d k X).take m = X.take m
  | 0, _, _, _ => rfl
  | d + 1, k, X, h => by rw [pasS, pasS_far s m d (k + 1) _ (by omega), List.take_set_of_le h]
theorem repS_far (N s m : Nat) (h : m ≤ s) : ∀ (t : Nat) (X : List Nat), (repS N s t X).take m = X.take m
  | 0, _ => rfl
  | t + 1, X => by rw [repS, repS_far N s m h t, pasS_far s m _ _ _ h]
theorem szsS_far (N m : Nat) : ∀ (d s : Nat) (X : List Nat), m ≤ s → (szsS N d s X).take m = X.take m
  | 0, _, _, _ => rfl
  | d + 1, s, X, h => by rw [szsS, szsS_far N m d (s + 1) _ (by omega), repS_far N s m h]
/-- the sum of the squares of divisors up to d -/
def sqD (k : Nat) : Nat → Nat
  | 0 => 0
  | d + 1 => sqD k d + (if k % (d + 1) = 0 then (d + 1) * (d + 1) else 0)
/-- the sum over the first parts -/
def smD (L : List Nat) (m : Nat) : Nat → Nat
  | 0 => 0
  | k + 1 => smD L m k + sqD (k + 1) (k + 1) * L.getD (m - (k + 1)) 0

/-- the sum of g 1 to g m -/
def smF (g : Nat → Nat) : Nat → Nat
  | 0 => 0
  | k + 1 => smF g k + g (k + 1)
theorem smF_congr {g h : Nat → Nat} : ∀ {m : Nat}, (∀ k, 0 < k → k ≤ m → g k = h k) → smF g m = smF h m
  | 0, _ => rfl
  | m + 1, e => by rw [smF, smF, smF_congr (fun k h1 h2 => e k h1 (by omega)), e (m + 1) (by omega) (Nat.le_refl _)]
theorem smF_add (g h : Nat → Nat) : ∀ m, smF (fun k => g k + h k) m = smF g m + smF h m
  | 0 => rfl
  | m + 1 => by rw [smF, smF, smF, smF_add g h m]; omega
theorem smF_app (g : Nat → Nat) (a : Nat) : ∀ b, smF g (a + b) = smF g a + smF (fun k => g (a + k)) b
  | 0 => by rw [Nat.add_zero]; rfl
  | b + 1 => by rw [← Nat.add_assoc, smF, smF_app g a b, smF, Nat.add_assoc, Nat.add_assoc]
theorem smF_nil {g : Nat → Nat} : ∀ {m : Nat}, (∀ k, 0 < k → k ≤ m → g k = 0) → smF g m = 0
  | 0, _ => rfl
  | m + 1, e => by rw [smF, smF_nil (fun k h1 h2 => e k h1 (by omega)), e (m + 1) (by omega) (Nat.le_refl _)]
theorem smF_mul (s : Nat) (g : Nat → Nat) : ∀ m, smF (fun k => s * g k) m = s * smF g m
  | 0 => rfl
  | m + 1 => by rw [smF, smF, smF_mul s g m, Nat.mul_add]

/-- one pass -/
theorem pasS_get (s : Nat) (hs : 1 ≤ s) : ∀ (d k : Nat) (X : List Nat), s ≤ k → k + d = X.length → (∀ j, j < k → (pasS s d k X).getD j 0 = X.getD j 0) ∧ ∀ j, k ≤ j → j < X.length → (pasS s d k X).getD j 0 = X.getD j 0 + (pasS s d k X).getD (j - s) 0
  | 0, k, X, _, h => ⟨fun _ _ => rfl, fun j h1 h2 => by omega⟩
  | d + 1, k, X, hk, h => by
    have hset : ∀ j, (X.set k (X.getD k 0 + X.getD (k - s) 0)).getD j 0 = if j = k then X.getD k 0 + X.getD (k - s) 0 else X.getD j 0 := fun j => by
      simp only [List.getD, List.getElem?_set]
      by_cases e : k = j
      · subst e; simp [show k < X.length by omega]
      · rw [if_neg e, if_neg (fun q => e q.symm)]
    obtain ⟨i1, i2⟩ := pasS_get s hs d (k + 1) (X.set k (X.getD k 0 + X.getD (k - s) 0)) (by omega) (by rw [List.length_set]; omega)
    rw [pasS]
    refine ⟨fun j hj => ?_, fun j h1 h2 => ?_⟩
    · rw [i1 j (by omega), hset, if_neg (by omega)]
    · by_cases e : j = k
      · subst e
        rw [i1 j (by omega), hset, if_pos rfl, i1 (j - s) (by omega), hset, if_neg (by omega)]
      · rw [i2 j (by omega) (by rw [List.length_set]; exact h2), hset, if_neg e]
/-- f by the sums that c tells -/
def Lgd (n : Nat) (c f : Nat → Nat) : Prop := ∀ m, m ≤ n → m * f m = smF (fun k => c k * f (m - k)) m
theorem lgd_pass {n s : Nat} {c f g : Nat → Nat} (hs : 1 ≤ s) (hg : ∀ j, j ≤ n → g j = f j + (if s ≤ j then g (j - s) else 0)) (h : Lgd n c f) : Lgd n (fun k => c k + (if k % s = 0 then s else 0)) g := by
  have hT : ∀ m, smF (fun k => (if k % s = 0 then s else 0) * g (m - k)) m = s * smF (fun k => if k % s = 0 then g (m - k) else 0) m := fun m => by
    rw [← smF_mul]
    exact smF_congr (fun k _ _ => by split <;> simp)
  have hone : ∀ m, m ≤ n → smF (fun k => c k * g (m - k)) m = smF (fun k => c k * f (m - k)) m + (if s ≤ m then smF (fun k => c k * g (m - s - k)) (m - s) else 0) := fun m hm => by
    have e1 : smF (fun k => c k * g (m - k)) m = smF (fun k => c k * f (m - k) + c k * (if s ≤ m - k then g (m - k - s) else 0)) m := smF_congr (fun k _ _ => by rw [hg (m - k) (by omega), Nat.mul_add])
    rw [e1, smF_add]
    congr 1
    by_cases hsm : s ≤ m
    · rw [if_pos hsm]
      have := smF_app (fun k => c k * (if s ≤ m - k then g (m - k - s) else 0)) (m - s) s
      rw [show m - s + s = m by omega] at this
      rw [this, smF_nil (m := s) (fun k h1 h2 => by rw [if_neg (by omega), Nat.mul_zero]), Nat.add_zero]
      exact smF_congr (fun k h1 h2 => by rw [if_pos (by omega), show m - k - s = m - s - k by omega])
    · rw [if_neg hsm]
      exact smF_nil (fun k h1 h2 => by rw [if_neg (by omega), Nat.mul_zero])
  have key : ∀ m, m ≤ n → m * g m = smF (fun k => (c k + (if k % s = 0 then s else 0)) * g (m - k)) m := by
    intro m
    induction m using Nat.strongRecOn with
    | _ m ih =>
      intro hm
      have e0 : smF (fun k => (c k + (if k % s = 0 then s else 0)) * g (m - k)) m = smF (fun k => c k * g (m - k)) m + s * smF (fun k => if k % s = 0 then g (m - k) else 0) m := by
        rw [← hT, ← smF_add]
        exact smF_congr (fun k _ _ => Nat.add_mul _ _ _)
      rw [e0, hone m hm, ← h m hm]
      by_cases hsm : s ≤ m
      · rw [if_pos hsm]
        have i := ih (m - s) (by omega) (by omega)
        have e2 : smF (fun k => (c k + (if k % s = 0 then s else 0)) * g (m - s - k)) (m - s) = smF (fun k => c k * g (m - s - k)) (m - s) + s * smF (fun k => if k % s = 0 then g (m - s - k) else 0) (m - s) := by
          rw [← hT, ← smF_add]
          exact smF_congr (fun k _ _ => Nat.add_mul _ _ _)
        rw [e2] at i
        have e3 : smF (fun k => if k % s = 0 then g (m - k) else 0) m = g (m - s) + smF (fun k => if k % s = 0 then g (m - s - k) else 0) (m - s) := by
          have a1 := smF_app (fun k => if k % s = 0 then g (m - k) else 0) s (m - s)
          rw [show s + (m - s) = m by omega] at a1
          rw [a1]
          have a2 : smF (fun k => if k % s = 0 then g (m - k) else 0) s = g (m - s) := by
            obtain ⟨s', rfl⟩ : ∃ s', s = s' + 1 := ⟨s - 1, by omega⟩
            rw [smF, smF_nil (fun k h1 h2 => by rw [if_neg (by rw [Nat.mod_eq_of_lt (by omega)]; omega)]), Nat.zero_add, if_pos (Nat.mod_self _)]
          rw [a2]
          congr 1
          exact smF_congr (fun k h1 h2 => by rw [Nat.add_mod_left, show m - (s + k) = m - s - k by omega])
        rw [e3, hg m hm, if_pos hsm]
        have e4 : m * (f m + g (m - s)) = m * f m + ((m - s) * g (m - s) + s * g (m - s)) := by
          rw [Nat.mul_add, ← Nat.add_mul, show m - s + s = m by omega]
        rw [e4, i, Nat.mul_add]
        omega
      · rw [if_neg hsm, hg m hm, if_neg hsm]
        have e5 : smF (fun k => if k % s = 0 then g (m - k) else 0) m = 0 := smF_nil (fun k h1 h2 => by rw [if_neg (by rw [Nat.mod_eq_of_lt (by omega)]; omega)])
        rw [e5, Nat.mul_zero]; simp
  exact key
theorem lgd_pas {n s : Nat} {c : Nat → Nat} {X : List Nat} (hs : 1 ≤ s) (hsn : s ≤ n + 1) (hl : X.length = n + 1) (h : Lgd n c (fun j => X.getD j 0)) : Lgd n (fun k => c k + (if k % s = 0 then s else 0)) (fun j => (pasS s (n + 1 - s) s X).getD j 0) := by
  obtain ⟨h1, h2⟩ := pasS_get s hs (n + 1 - s) s X (Nat.le_refl _) (by omega)
  refine lgd_pass hs (fun j hj => ?_) h
  by_cases e : s ≤ j
  · rw [if_pos e]; exact h2 j e (by omega)
  · rw [if_neg e]; exact h1 j (by omega)
theorem repS_len (n s : Nat) : ∀ (t : Nat) (X : List Nat), (repS n s t X).length = X.length
  | 0, _ => rfl
  | t + 1, X => by rw [repS, repS_len n s t, pasS_len]
theorem lgd_rep {n s : Nat} (hs : 1 ≤ s) (hsn : s ≤ n + 1) : ∀ (t : Nat) (c : Nat → Nat) (X : List Nat), X.length = n + 1 → Lgd n c (fun j => X.getD j 0) → Lgd n (fun k => c k + (if k % s = 0 then t * s else 0)) (fun j => (repS n s t X).getD j 0)
  | 0, c, X, _, h => by
    have : (fun k => c k + (if k % s = 0 then 0 * s else 0)) = c := funext fun k => by simp
    rw [this]; exact h
  | t + 1, c, X, hl, h => by
    have i := lgd_rep hs hsn t _ _ (by rw [pasS_len]; exact hl) (lgd_pas hs hsn hl h)
    have : (fun k => c k + (if k % s = 0 then (t + 1) * s else 0)) = fun k => c k + (if k % s = 0 then s else 0) + (if k % s = 0 then t * s else 0) := funext fun k => by
      split
      · rw [Nat.succ_mul]; omega
      · rfl
    rw [this]; exact i
theorem lgd_szs {n : Nat} : ∀ (d s : Nat) (X : List Nat), s + d = n → X.length = n + 1 → Lgd n (fun k => sqD k s) (fun j => X.getD j 0) → Lgd n (fun k => sqD k n) (fun j => (szsS n d (s + 1) X).getD j 0)
  | 0, s, X, hd, _, h => by
    obtain rfl : s = n := by omega
    exact h
  | d + 1, s, X, hd, hl, h => by
    rw [szsS]
    refine lgd_szs d (s + 1) _ (by omega) (by rw [repS_len]; exact hl) ?_
    have := lgd_rep (s := s + 1) (by omega) (by omega) (s + 1) _ X hl h
    exact this
theorem smF_smD (L : List Nat) (m : Nat) : ∀ k, smF (fun k => sqD k k * L.getD (m - k) 0) k = smD L m k
  | 0 => rfl
  | k + 1 => by rw [smF, smF_smD L m k]; rfl
theorem sqD_far {k : Nat} (hk : 0 < k) : ∀ d, sqD k (k + d) = sqD k k
  | 0 => rfl
  | d + 1 => by
    rw [← Nat.add_assoc, sqD, sqD_far hk d, if_neg (by rw [Nat.mod_eq_of_lt (by omega)]; omega), Nat.add_zero]
theorem szsS_len (n : Nat) : ∀ (d s : Nat) (X : List Nat), (szsS n d s X).length = X.length
  | 0, _, _ => rfl
  | d + 1, s, X => by rw [szsS, szsS_len n d, repS_len]
/-- what is counted is what the squares tell -/
theorem totS_sum {n m : Nat} (hm : m ≤ n) : m * (totS n).getD m 0 = smD (totS n) m m := by
  have h := lgd_szs (n := n) n 0 (1 :: List.replicate n 0) (by omega) (by simp) (fun m hm => by
    rw [smF_nil (fun k _ _ => by simp [sqD])]
    cases m with
    | zero => simp
    | succ m =>
      have : (List.replicate n 0)[m]?.getD 0 = 0 := by rw [List.getElem?_replicate]; split <;> rfl
      simp [List.getD, this]) m hm
  rw [← smF_smD]
  refine h.trans (smF_congr (fun k h1 h2 => ?_))
  have := sqD_far h1 (n - k)
  rw [show k + (n - k) = n by omega] at this
  show sqD k n * _ = _
  rw [this]; rfl
theorem totS_zero (n : Nat) : (totS n).getD 0 0 = 1 := by
  unfold totS
  have h : (szsS n n 1 (1 :: List.replicate n 0)).take 1 = (1 :: List.replicate n 0).take 1 := szsS_far n 1 n 1 _ (Nat.le_refl _)
  have h2 : (szsS n n 1 (1 :: List.replicate n 0)).length = n + 1 := by rw [szsS_len]; simp
  cases hq : szsS n n 1 (1 :: List.replicate n 0) with
  | nil => rw [hq] at h2; simp at h2
  | cons a l => rw [hq] at h; simp at h; simp [List.getD, h]
theorem smD_congr {L M : List Nat} {m : Nat} (h : ∀ j, j < m → L.getD j 0 = M.getD j 0) : ∀ k, k ≤ m → smD L m k = smD M m k
  | 0, _ => rfl
  | k + 1, hk => by rw [smD, smD, smD_congr h k (by omega), h (m - (k + 1)) (by omega)]
def t60 : List Nat := [1, 1, 3, 6, 13, 24, 48, 86, 160, 282, 500, 859, 1479, 2485, 4167, 6879, 11297, 18334, 29601, 47330, 75278, 118794, 186475, 290783, 451194, 696033, 1068745, 1632658, 2483234, 3759612, 5668963, 8512309, 12733429, 18974973, 28175955, 41691046, 61484961, 90379784, 132441995, 193487501, 281846923, 409383981, 593001267, 856667495, 1234363833, 1774079109, 2543535902, 3637993036, 5191304973, 7391026522, 10499640707, 14883573114, 21053676445, 29720561230, 41871334614, 58874385349, 82623976486, 115737404664, 161825846160, 225863047430, 314689799781]
def serAll (L : List Nat) : Bool := (List.range 61).all fun m => decide (0 < L.getD m 0) && decide (L.getD m 0 < 10 ^ 18) && (decide (m = 0) || (decide (smD L m m / m = L.getD m 0) && decide (0 < smD L m m) && decide (smD L m m < 10 ^ 25) && decide (sqD m m < 10 ^ 5) && decide (0 < sqD m m)))
theorem t60_len : t60.length = 61 := by decide +kernel
theorem ser_all : serAll t60 = true := by decide +kernel
theorem ser_ok {m : Nat} (hm : m ≤ 60) : 0 < t60.getD m 0 ∧ t60.getD m 0 < 10 ^ 18 ∧ (0 < m → smD t60 m m / m = t60.getD m 0 ∧ 0 < smD t60 m m ∧ smD t60 m m < 10 ^ 25 ∧ sqD m m < 10 ^ 5 ∧ 0 < sqD m m) := by
  have h1 := List.all_eq_true.1 ser_all m (List.mem_range.2 (by omega))
  simp only [Bool.and_eq_true, Bool.or_eq_true, decide_eq_true_eq] at h1
  refine ⟨h1.1.1, h1.1.2, fun h0 => ?_⟩
  rcases h1.2 with e | e
  · omega
  · exact ⟨e.1.1.1.1, e.1.1.1.2, e.1.1.2, e.1.2, e.2⟩
theorem tot_get {n : Nat} (hn : n ≤ 60) : ∀ t, t ≤ n → (totS n).getD t 0 = t60.getD t 0 := by
  intro t
  induction t using Nat.strongRecOn with
  | _ t ih =>
    intro ht
    rcases Nat.eq_zero_or_pos t with rfl | h0
    · rw [totS_zero]; rfl
    · have h1 := totS_sum (n := n) ht
      rw [smD_congr (M := t60) (fun j hj => ih j hj (by omega)) t (Nat.le_refl _)] at h1
      have h2 := (ser_ok (m := t) (by omega)).2.2 h0
      rw [← h2.1, ← h1, Nat.mul_div_cancel_left _ h0]
theorem tot_len {n : Nat} : (totS n).length = n + 1 := by
  unfold totS
  rw [szsS_len]; simp
theorem tot_63 {n : Nat} (hn : n ≤ 60) (t : Nat) : (totS n).getD t 0 < 9223372036854775808 := by
  by_cases h : t ≤ n
  · rw [tot_get hn t h]
    have := (ser_ok (m := t) (by omega)).2.1
    omega
  · have := tot_len (n := n)
    simp [List.getD, List.getElem?_eq_none (show (totS n).length ≤ t by omega)]
theorem smD_mono (L : List Nat) (m : Nat) : ∀ {k j : Nat}, k ≤ j → smD L m k ≤ smD L m j := by
  intro k j h
  induction j with
  | zero => rw [Nat.le_zero.1 h]; exact Nat.le_refl _
  | succ j ih =>
    rcases Nat.eq_or_lt_of_le h with rfl | h1
    · exact Nat.le_refl _
    · exact Nat.le_trans (ih (by omega)) (Nat.le_add_right _ _)
theorem sqD_mono (m : Nat) : ∀ {k j : Nat}, k ≤ j → sqD m k ≤ sqD m j := by
  intro k j h
  induction j with
  | zero => rw [Nat.le_zero.1 h]; exact Nat.le_refl _
  | succ j ih =>
    rcases Nat.eq_or_lt_of_le h with rfl | h1
    · exact Nat.le_refl _
    · exact Nat.le_trans (ih (by omega)) (Nat.le_add_right _ _)
end Go.Proofs.YtbiakncblkjmhaaGreatDoor
