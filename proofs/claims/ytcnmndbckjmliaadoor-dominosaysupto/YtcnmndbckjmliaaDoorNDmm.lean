/-
  Plain: a text of rows, cut at its strokes; the text of a sheet, sign by sign.
  Plain: points of a sheet found row by row; blocks that may be turned; the diamonds.
-/
import Derived.Lib.Join
import Derived.Test.YtcnmndbckjmliaaDoorNPr
namespace Go.Proofs.YtcnmndbckjmliaaDoor

/-- The rows of a text. -/
def pz : List UInt8 → List (List UInt8)
  | [] => [[]]
  | b :: s => if b = 47 then [] :: pz s else (b :: (pz s).headD []) :: (pz s).tail
theorem pz_ne : ∀ s, pz s ≠ []
  | [] => by simp [pz]
  | b :: s => by unfold pz; split <;> simp
theorem pz_cons (s : List UInt8) : pz s = (pz s).headD [] :: (pz s).tail := by
  have := pz_ne s
  cases h : pz s with
  | nil => exact absurd h this
  | cons x xs => rfl
theorem pz_no : ∀ s, ∀ x ∈ pz s, (47 : UInt8) ∉ x
  | [], x, h => by simp [pz] at h; subst h; simp
  | b :: s, x, h => by
    unfold pz at h
    by_cases hb : b = 47
    · rw [if_pos hb] at h
      rcases List.mem_cons.1 h with rfl | h
      · simp
      · exact pz_no s x h
    · rw [if_neg hb] at h
      rcases List.mem_cons.1 h with rfl | h
      · have h1 := pz_no s ((pz s).headD []) (by rw [pz_cons s]; simp)
        intro h2
        rcases List.mem_cons.1 h2 with h3 | h3
        · exact hb h3.symm
        · exact h1 h3
      · exact pz_no s x (List.mem_of_mem_tail h)
theorem join_twoz (x y : List UInt8) (r : List (List UInt8)) (c : UInt8) : Lib.join (x :: y :: r) [c] = x ++ c :: Lib.join (y :: r) [c] := by
  rw [Lib.join_cons, Lib.join_cons]; simp [Lib.joinTail]
theorem pz_join : ∀ s, Lib.join (pz s) [47] = s
  | [] => by simp [pz, Lib.join_one]
  | b :: s => by
    have ih := pz_join s
    unfold pz
    by_cases hb : b = 47
    · rw [if_pos hb, pz_cons s, join_twoz, ← pz_cons s, ih, hb]; rfl
    · rw [if_neg hb]
      rw [pz_cons s] at ih
      cases ht : (pz s).tail with
      | nil => rw [ht, Lib.join_one] at ih; rw [Lib.join_one, ih]
      | cons y r => rw [ht, join_twoz] at ih; rw [join_twoz, List.cons_append, ih]
theorem pz_one : ∀ x : List UInt8, (47 : UInt8) ∉ x → pz x = [x]
  | [], _ => rfl
  | b :: x, h => by
    have hb : b ≠ 47 := fun e => h (by simp [e])
    have ih := pz_one x (fun e => h (by simp [e]))
    unfold pz
    rw [if_neg hb, ih]; rfl
theorem pz_app : ∀ (x s : List UInt8), (47 : UInt8) ∉ x → pz (x ++ 47 :: s) = x :: pz s
  | [], s, _ => by rw [List.nil_append, pz, if_pos rfl]
  | b :: x, s, h => by
    have hb : b ≠ 47 := fun e => h (by simp [e])
    have ih := pz_app x s (fun e => h (by simp [e]))
    rw [List.cons_append, pz, if_neg hb, ih]; rfl
theorem pz_of_join : ∀ (l : List (List UInt8)), l ≠ [] → (∀ x ∈ l, (47 : UInt8) ∉ x) → pz (Lib.join l [47]) = l
  | [], h, _ => absurd rfl h
  | [x], _, h => by rw [Lib.join_one]; exact pz_one x (h x (by simp))
  | x :: y :: r, _, h => by
    rw [join_twoz, pz_app _ _ (h x (by simp)), pz_of_join (y :: r) (by simp) (fun z hz => h z (List.mem_cons_of_mem _ hz))]

/-- The rows of a sheet, and its text. -/
def rwz (r c : Nat) (f : Nat → UInt8) : List (List UInt8) := (List.range r).map fun i => (List.range c).map fun j => f (i * 8 + j)
def tx (r c : Nat) (f : Nat → UInt8) : List UInt8 := Lib.join (rwz r c f) [47]
theorem rwz_succ (r c : Nat) (f : Nat → UInt8) : rwz (r + 1) c f = ((List.range c).map fun j => f j) :: rwz r c (fun k => f (8 + k)) := by
  unfold rwz
  rw [List.range_succ_eq_map, List.map_cons, List.map_map]
  congr 1
  · apply List.map_congr_left; intro j _; congr 1; omega
  · apply List.map_congr_left; intro i _
    show (List.map (fun j => f ((i + 1) * 8 + j)) (List.range c)) = _
    apply List.map_congr_left; intro j _; congr 1; omega
theorem rwz_length (r c : Nat) (f : Nat → UInt8) : (rwz r c f).length = r := by simp [rwz]
theorem tx_one (c : Nat) (f : Nat → UInt8) : tx 1 c f = (List.range c).map fun j => f j := by
  unfold tx; rw [rwz_succ]; exact Lib.join_one _ _
theorem tx_succ (r c : Nat) (f : Nat → UInt8) : tx (r + 2) c f = ((List.range c).map fun j => f j) ++ 47 :: tx (r + 1) c (fun k => f (8 + k)) := by
  unfold tx
  rw [rwz_succ (r + 1), rwz_succ r, join_twoz]
theorem tx_length : ∀ (r c : Nat) (f : Nat → UInt8), (tx (r + 1) c f).length = (r + 1) * (c + 1) - 1
  | 0, c, f => by rw [tx_one]; simp
  | r + 1, c, f => by
    rw [tx_succ, List.length_append, List.length_cons, tx_length r c, List.length_map, List.length_range]
    have : (r + 1 + 1) * (c + 1) = (r + 1) * (c + 1) + (c + 1) := Nat.succ_mul _ _
    have h2 : 1 ≤ (r + 1) * (c + 1) := Nat.mul_pos (by omega) (by omega)
    omega
/-- What stands at a place of the text. -/
theorem tx_get : ∀ (r c : Nat) (f : Nat → UInt8) (i j : Nat), i < r + 1 → j < c → (tx (r + 1) c f)[i * (c + 1) + j]? = some (f (i * 8 + j))
  | 0, c, f, i, j, hi, hj => by
    obtain rfl : i = 0 := by omega
    rw [tx_one]; simp [hj]
  | r + 1, c, f, i, j, hi, hj => by
    rw [tx_succ]
    cases i with
    | zero =>
      rw [List.getElem?_append_left (by simp; omega)]
      simp [hj]
    | succ i =>
      have e : (i + 1) * (c + 1) = i * (c + 1) + (c + 1) := Nat.succ_mul _ _
      rw [List.getElem?_append_right (by simp; omega), List.length_map, List.length_range]
      rw [show (i + 1) * (c + 1) + j - c = (i * (c + 1) + j) + 1 by omega, List.getElem?_cons_succ, tx_get r c _ i j (by omega) hj]
      congr 2; omega
theorem tx_end : ∀ (r c : Nat) (f : Nat → UInt8) (i : Nat), i < r → (tx (r + 1) c f)[i * (c + 1) + c]? = some 47
  | 0, c, f, i, hi => by omega
  | r + 1, c, f, i, hi => by
    rw [tx_succ]
    cases i with
    | zero =>
      rw [List.getElem?_append_right (by simp)]
      simp
    | succ i =>
      have e : (i + 1) * (c + 1) = i * (c + 1) + (c + 1) := Nat.succ_mul _ _
      rw [List.getElem?_append_right (by simp <;> omega), List.length_map, List.length_range]
      rw [show (i + 1) * (c + 1) + c - c = (i * (c + 1) + c) + 1 by omega, List.getElem?_cons_succ, tx_end r c _ i (by omega)]
/-- Two texts of one length are one where they have the same signs. -/
theorem tx_ext {r c : Nat} {f : Nat → UInt8} {l : List UInt8} (hl : l.length = (r + 1) * (c + 1) - 1) (h : ∀ i, i < r + 1 → ∀ j, j < c → l[i * (c + 1) + j]? = some (f (i * 8 + j))) (h2 : ∀ i, i < r → l[i * (c + 1) + c]? = some 47) : l = tx (r + 1) c f := by
  apply List.ext_getElem?
  intro p
  by_cases hp : p < (r + 1) * (c + 1) - 1
  · have hq : p / (c + 1) < r + 1 := Nat.div_lt_of_lt_mul (by rw [Nat.mul_comm]; omega)
    have hm : p % (c + 1) < c + 1 := Nat.mod_lt _ (by omega)
    have e : p = p / (c + 1) * (c + 1) + p % (c + 1) := by rw [Nat.mul_comm]; exact (Nat.div_add_mod p (c + 1)).symm
    generalize p / (c + 1) = i at *
    generalize p % (c + 1) = j at *
    subst e
    by_cases hj : j < c
    · rw [h i hq j hj, tx_get r c f i j hq hj]
    · obtain rfl : j = c := by omega
      have hi : i < r := by
        rcases Nat.lt_or_ge i r with q | q
        · exact q
        · obtain rfl : i = r := by omega
          rw [Nat.succ_mul] at hp; omega
      rw [h2 i hi, tx_end r j f i hi]
  · rw [List.getElem?_eq_none (by omega), List.getElem?_eq_none (by rw [tx_length]; omega)]
theorem tx_set (r c : Nat) (f : Nat → UInt8) (i j : Nat) (hi : i < r + 1) (hj : j < c) (hc : c ≤ 8) (b : UInt8) : (tx (r + 1) c f).set (i * (c + 1) + j) b = tx (r + 1) c (fun k => if k = i * 8 + j then b else f k) := by
  have hlt : i * (c + 1) + j < (tx (r + 1) c f).length := by
    rw [tx_length]
    have : (i + 1) * (c + 1) ≤ (r + 1) * (c + 1) := Nat.mul_le_mul_right _ (by omega)
    rw [Nat.succ_mul] at this
    omega
  apply tx_ext
  · rw [List.length_set, tx_length]
  · intro a ha d hd
    rw [List.getElem?_set]
    by_cases e : i * (c + 1) + j = a * (c + 1) + d
    · rw [if_pos e, if_pos hlt]
      have hai : a = i := by
        have h1 : (i * (c + 1) + j) / (c + 1) = i := by rw [Nat.mul_comm, Nat.mul_add_div (by omega), Nat.div_eq_of_lt (by omega)]; rfl
        have h2 : (a * (c + 1) + d) / (c + 1) = a := by rw [Nat.mul_comm, Nat.mul_add_div (by omega), Nat.div_eq_of_lt (by omega)]; rfl
        rw [← e, h1] at h2; exact h2.symm
      subst hai
      rw [if_pos (by omega)]
    · rw [if_neg e, tx_get r c f a d ha hd]
      rw [if_neg]
      intro q
      apply e
      have : a = i := by omega
      subst this
      omega
  · intro a ha
    rw [List.getElem?_set]
    have hne : ¬ (i * (c + 1) + j = a * (c + 1) + c) := by
      intro e
      have h1 : (i * (c + 1) + j) % (c + 1) = j := by rw [Nat.mul_comm, Nat.mul_add_mod, Nat.mod_eq_of_lt (by omega)]
      have h2 : (a * (c + 1) + c) % (c + 1) = c := by rw [Nat.mul_comm, Nat.mul_add_mod, Nat.mod_eq_of_lt (by omega)]
      rw [← e, h1] at h2; omega
    rw [if_neg hne, tx_end r c f a ha]
theorem tx_map (r c : Nat) (f : Nat → UInt8) (g : UInt8 → UInt8) (h : g 47 = 47) : (tx (r + 1) c f).map g = tx (r + 1) c (fun k => g (f k)) := by
  apply tx_ext
  · rw [List.length_map, tx_length]
  · intro i hi j hj; rw [List.getElem?_map, tx_get r c f i j hi hj]; rfl
  · intro i hi; rw [List.getElem?_map, tx_end r c f i hi]; show some (g 47) = _; rw [h]
theorem tx_congr {r c : Nat} {f g : Nat → UInt8} (h : ∀ i, i < r → ∀ j, j < c → f (i * 8 + j) = g (i * 8 + j)) : tx r c f = tx r c g := by
  unfold tx rwz
  congr 1
  apply List.map_congr_left; intro i hi
  apply List.map_congr_left; intro j hj
  exact h i (List.mem_range.1 hi) j (List.mem_range.1 hj)
/-- The cells of rows. -/
def cef (l : List (List UInt8)) (k : Nat) : UInt8 := (l.getD (k / 8) []).getD (k % 8) 0
theorem cef_at (l : List (List UInt8)) (i j : Nat) (hj : j < 8) : cef l (i * 8 + j) = (l.getD i []).getD j 0 := by
  unfold cef
  rw [show (i * 8 + j) / 8 = i by omega, show (i * 8 + j) % 8 = j by omega]
/-- Rows of one length, of such letters. -/
def Shz (lt : List UInt8) (r c : Nat) (l : List (List UInt8)) : Prop := l.length = r ∧ 1 ≤ r ∧ r ≤ 8 ∧ 1 ≤ c ∧ c ≤ 8 ∧ ∀ x ∈ l, x.length = c ∧ ∀ b ∈ x, b ∈ lt
theorem rwz_cef {lt : List UInt8} {r c : Nat} {l : List (List UInt8)} (h : Shz lt r c l) : rwz r c (cef l) = l := by
  obtain ⟨h1, _, _, _, h5, h6⟩ := h
  apply List.ext_getElem?
  intro i
  unfold rwz
  by_cases hi : i < r
  · rw [List.getElem?_map, List.getElem?_range hi, List.getElem?_eq_getElem (by omega : i < l.length)]
    simp only [Option.map_some]
    congr 1
    have hx := h6 l[i] (List.getElem_mem _)
    apply List.ext_getElem?
    intro j
    by_cases hj : j < c
    · rw [List.getElem?_map, List.getElem?_range hj, List.getElem?_eq_getElem (by omega)]
      simp only [Option.map_some]
      rw [cef_at _ _ _ (by omega)]
      simp [List.getD, List.getElem?_eq_getElem (by omega : i < l.length), List.getElem?_eq_getElem (by omega : j < l[i].length)]
    · rw [List.getElem?_eq_none (by simp; omega), List.getElem?_eq_none (by omega)]
  · rw [List.getElem?_eq_none (by simp; omega), List.getElem?_eq_none (by omega)]
theorem tx_cef {lt : List UInt8} {r c : Nat} {s : List UInt8} (h : Shz lt r c (pz s)) : tx r c (cef (pz s)) = s := by
  unfold tx; rw [rwz_cef h, pz_join]
theorem rwz_get (r c : Nat) (f : Nat → UInt8) (i : Nat) (hi : i < r) : (rwz r c f).getD i [] = (List.range c).map fun j => f (i * 8 + j) := by
  unfold rwz; simp [List.getD, hi]
theorem cef_rwz (r c : Nat) (f : Nat → UInt8) (i j : Nat) (hi : i < r) (hj : j < c) (hc : c ≤ 8) : cef (rwz r c f) (i * 8 + j) = f (i * 8 + j) := by
  rw [cef_at _ _ _ (by omega), rwz_get r c f i hi]; simp [List.getD, hj]
theorem shz_rwz {lt : List UInt8} {r c : Nat} {f : Nat → UInt8} (r1 : 1 ≤ r) (r8 : r ≤ 8) (c1 : 1 ≤ c) (c8 : c ≤ 8) (h : ∀ i, i < r → ∀ j, j < c → f (i * 8 + j) ∈ lt) : Shz lt r c (rwz r c f) := by
  refine ⟨rwz_length _ _ _, r1, r8, c1, c8, fun x hx => ?_⟩
  unfold rwz at hx
  obtain ⟨i, hi, rfl⟩ := List.mem_map.1 hx
  refine ⟨by simp, fun b hb => ?_⟩
  obtain ⟨j, hj, rfl⟩ := List.mem_map.1 hb
  exact h i (List.mem_range.1 hi) j (List.mem_range.1 hj)
theorem pz_tx {lt : List UInt8} {r c : Nat} {f : Nat → UInt8} (r1 : 1 ≤ r) (h : ∀ i, i < r → ∀ j, j < c → f (i * 8 + j) ∈ lt) (hl : (47 : UInt8) ∉ lt) : pz (tx r c f) = rwz r c f := by
  unfold tx
  apply pz_of_join
  · intro e; have := rwz_length r c f; rw [e] at this; simp at this; omega
  · intro x hx
    unfold rwz at hx
    obtain ⟨i, hi, rfl⟩ := List.mem_map.1 hx
    intro hb
    obtain ⟨j, hj, e⟩ := List.mem_map.1 hb
    have := h i (List.mem_range.1 hi) j (List.mem_range.1 hj)
    rw [e] at this; exact hl this

end Go.Proofs.YtcnmndbckjmliaaDoor

namespace Go.Proofs.YtcnmndbckjmliaaDoor
open Go.RowKit

theorem tx_zero (c : Nat) (f : Nat → UInt8) : tx 0 c f = [] := rfl
theorem join_snocz : ∀ (l : List (List UInt8)) (x : List UInt8), l ≠ [] → Lib.join (l ++ [x]) [47] = Lib.join l [47] ++ 47 :: x
  | [], _, h => absurd rfl h
  | [y], x, _ => by rw [List.cons_append, List.nil_append, join_twoz, Lib.join_one, Lib.join_one]
  | y :: z :: l, x, _ => by
    rw [List.cons_append, List.cons_append, join_twoz, join_twoz, ← List.cons_append, join_snocz (z :: l) x (by simp)]
    simp
/-- One row of a sheet. -/
def rwo (c : Nat) (f : Nat → UInt8) (i : Nat) : List UInt8 := (List.range c).map fun j => f (i * 8 + j)
theorem rwo_length (c : Nat) (f : Nat → UInt8) (i : Nat) : (rwo c f i).length = c := by simp [rwo]
theorem rwo_succ (c : Nat) (f : Nat → UInt8) (i : Nat) : rwo (c + 1) f i = rwo c f i ++ [f (i * 8 + c)] := by
  unfold rwo; rw [List.range_succ, List.map_append]; rfl
theorem rwz_snoc (r c : Nat) (f : Nat → UInt8) : rwz (r + 1) c f = rwz r c f ++ [rwo c f r] := by
  unfold rwz rwo; rw [List.range_succ, List.map_append]; rfl
theorem tx_snoc (r c : Nat) (f : Nat → UInt8) : tx (r + 2) c f = tx (r + 1) c f ++ 47 :: rwo c f (r + 1) := by
  unfold tx
  rw [rwz_snoc (r + 1)]
  apply join_snocz
  intro e
  have := rwz_length (r + 1) c f
  rw [e] at this; simp at this
theorem tx_first (c : Nat) (f : Nat → UInt8) : tx 1 c f = rwo c f 0 := by
  rw [tx_one]; unfold rwo
  apply List.map_congr_left; intro j _; congr 1; omega

/-- The points that are found, row by row. -/
def rowP (q : Nat → Nat → Bool) (i c : Nat) : List (Int × Int) := ((List.range c).filter (q i)).map fun (j : Nat) => ((j : Int), (i : Int))
def flp (q : Nat → Nat → Bool) (r c : Nat) : List (Int × Int) := (List.range r).flatMap fun i => rowP q i c
theorem rowP_succ (q : Nat → Nat → Bool) (i c : Nat) : rowP q i (c + 1) = rowP q i c ++ (if q i c = true then [((c : Int), (i : Int))] else []) := by
  unfold rowP
  rw [List.range_succ, List.filter_append, List.map_append]
  congr 1
  by_cases h : q i c = true
  · simp [h]
  · simp [h]
theorem flp_succ (q : Nat → Nat → Bool) (r c : Nat) : flp q (r + 1) c = flp q r c ++ rowP q r c := by
  unfold flp; rw [List.range_succ, List.flatMap_append]; simp
theorem rowP_length (q : Nat → Nat → Bool) (i c : Nat) : (rowP q i c).length ≤ c := by
  unfold rowP
  rw [List.length_map]
  have := List.length_filter_le (q i) (List.range c)
  simpa using this
theorem flp_length (q : Nat → Nat → Bool) : ∀ r c, (flp q r c).length ≤ r * c
  | 0, c => by simp [flp]
  | r + 1, c => by
    rw [flp_succ, List.length_append, Nat.succ_mul]
    have := flp_length q r c
    have := rowP_length q r c
    omega
theorem rowP_congr {q q' : Nat → Nat → Bool} {i c : Nat} (h : ∀ j, j < c → q i j = q' i j) : rowP q i c = rowP q' i c := by
  unfold rowP
  congr 1
  apply List.filter_congr
  intro j hj
  exact h j (List.mem_range.1 hj)
theorem flp_congr {q q' : Nat → Nat → Bool} : ∀ {r c : Nat}, (∀ i, i < r → ∀ j, j < c → q i j = q' i j) → flp q r c = flp q' r c
  | 0, c, _ => rfl
  | r + 1, c, h => by
    rw [flp_succ, flp_succ, flp_congr (fun i hi => h i (by omega)), rowP_congr (h r (by omega))]
theorem rowP_none {q : Nat → Nat → Bool} {i c : Nat} (h : ∀ j, j < c → q i j = false) : rowP q i c = [] := by
  unfold rowP
  have : (List.range c).filter (q i) = [] := by
    rw [List.filter_eq_nil_iff]
    intro j hj; rw [h j (List.mem_range.1 hj)]; simp
  rw [this]; rfl
theorem mem_flp (q : Nat → Nat → Bool) (r c : Nat) (x y : Int) : (x, y) ∈ flp q r c ↔ ∃ i j : Nat, i < r ∧ j < c ∧ q i j = true ∧ x = (j : Int) ∧ y = (i : Int) := by
  unfold flp rowP
  simp only [List.mem_flatMap, List.mem_range, List.mem_map, List.mem_filter, Prod.mk.injEq]
  constructor
  · rintro ⟨i, hi, j, ⟨hj, hq⟩, e1, e2⟩
    exact ⟨i, j, hi, hj, hq, e1.symm, e2.symm⟩
  · rintro ⟨i, j, hi, hj, hq, e1, e2⟩
    exact ⟨i, hi, j, ⟨hj, hq⟩, e1.symm, e2.symm⟩
/-- The last row and the last column have none. -/
theorem flp_trim {q : Nat → Nat → Bool} {r c : Nat} (h1 : ∀ i j, i < r + 1 → j < c + 1 → (i = r ∨ j = c) → q i j = false) : flp q (r + 1) (c + 1) = flp q r c := by
  rw [flp_succ, rowP_none (fun j hj => h1 r j (by omega) hj (Or.inl rfl)), List.append_nil]
  have key : ∀ r', r' ≤ r → flp q r' (c + 1) = flp q r' c := by
    intro r'
    induction r' with
    | zero => intro _; rfl
    | succ r' ih =>
      intro hr
      rw [flp_succ, flp_succ, ih (by omega), rowP_succ, h1 r' c (by omega) (by omega) (Or.inr rfl)]
      simp
  exact key r (Nat.le_refl _)

/-- A sheet is a tiling. -/
def OkT (r c : Nat) (f : Nat → UInt8) : Prop := ∀ i, i < r → ∀ j, j < c → prB r c f i j = true
/-- Do two dominoes cover the block? -/
def qR (f : Nat → UInt8) (i j : Nat) : Bool := (f (i * 8 + j) == 108 && f (i * 8 + (j + 1)) == 114 && f ((i + 1) * 8 + j) == 108 && f ((i + 1) * 8 + (j + 1)) == 114) || (f (i * 8 + j) == 117 && f (i * 8 + (j + 1)) == 117 && f ((i + 1) * 8 + j) == 100 && f ((i + 1) * 8 + (j + 1)) == 100)
theorem atB_nat (r c : Nat) (f : Nat → UInt8) (i j : Nat) : atB r c f (i : Int) (j : Int) = if i < r ∧ j < c then f (i * 8 + j) else 46 := by
  unfold atB
  by_cases h : i < r ∧ j < c
  · rw [if_pos h, if_pos (by omega)]; rfl
  · rw [if_neg h, if_neg (by omega)]
theorem mt_iff {r c : Nat} {f : Nat → UInt8} (ok : OkT r c f) (i j : Nat) (hi : i < r) (hj : j < c) : mtB r c f (i : Int) (j : Int) = true ↔ i + 1 < r ∧ j + 1 < c ∧ qR f i j = true := by
  have A0 : atB r c f (i : Int) (j : Int) = f (i * 8 + j) := by rw [atB_nat, if_pos ⟨hi, hj⟩]
  have A1 : atB r c f (i : Int) ((j : Int) + 1) = if i < r ∧ j + 1 < c then f (i * 8 + (j + 1)) else 46 := atB_nat r c f i (j + 1)
  have A2 : atB r c f ((i : Int) + 1) (j : Int) = if i + 1 < r ∧ j < c then f ((i + 1) * 8 + j) else 46 := atB_nat r c f (i + 1) j
  have k0 := ok i hi j hj
  unfold prB at k0
  unfold mtB
  rw [A0] at k0
  rw [A0]
  have n1 : (46 : UInt8) ≠ 108 := by decide
  have n2 : (46 : UInt8) ≠ 117 := by decide
  have n3 : (46 : UInt8) ≠ 114 := by decide
  have n4 : (46 : UInt8) ≠ 100 := by decide
  by_cases h1 : f (i * 8 + j) = 108
  · rw [if_pos h1, A1] at k0
    rw [if_pos h1, A2]
    have k1 := of_decide_eq_true k0
    by_cases a : i < r ∧ j + 1 < c
    · rw [if_pos a] at k1
      rw [decide_eq_true_iff]
      by_cases b : i + 1 < r ∧ j < c
      · rw [if_pos b]
        constructor
        · intro h
          have k2 := ok (i + 1) b.1 j hj
          have B0 : atB r c f ((i + 1 : Nat) : Int) (j : Int) = f ((i + 1) * 8 + j) := by rw [atB_nat, if_pos b]
          have B1 : atB r c f ((i + 1 : Nat) : Int) ((j : Int) + 1) = f ((i + 1) * 8 + (j + 1)) := (atB_nat r c f (i + 1) (j + 1)).trans (if_pos ⟨b.1, a.2⟩)
          unfold prB at k2
          rw [B0, if_pos h, B1] at k2
          have k3 := of_decide_eq_true k2
          refine ⟨b.1, a.2, ?_⟩
          unfold qR
          rw [h1, k1, h, k3]; rfl
        · rintro ⟨_, _, h⟩
          unfold qR at h
          simp only [Bool.or_eq_true, Bool.and_eq_true, beq_iff_eq] at h
          rcases h with h | h
          · exact h.1.2
          · exact absurd (h1.symm.trans h.1.1.1) (by decide)
      · rw [if_neg b]
        exact ⟨fun h => absurd h n1, fun h => absurd ⟨h.1, hj⟩ b⟩
    · rw [if_neg a] at k1; exact absurd k1 n3
  · rw [if_neg h1] at k0
    rw [if_neg h1]
    by_cases h2 : f (i * 8 + j) = 117
    · rw [if_pos h2, A1]
      have hne : ¬ (f (i * 8 + j) = 114) := by rw [h2]; decide
      rw [if_neg hne, if_pos h2, A2] at k0
      have k1 := of_decide_eq_true k0
      by_cases b : i + 1 < r ∧ j < c
      · rw [if_pos b] at k1
        rw [decide_eq_true_iff]
        by_cases a : i < r ∧ j + 1 < c
        · rw [if_pos a]
          constructor
          · intro h
            have k2 := ok i hi (j + 1) a.2
            have B0 : atB r c f (i : Int) ((j + 1 : Nat) : Int) = f (i * 8 + (j + 1)) := by rw [atB_nat, if_pos a]
            have B1 : atB r c f ((i : Int) + 1) ((j + 1 : Nat) : Int) = f ((i + 1) * 8 + (j + 1)) := (atB_nat r c f (i + 1) (j + 1)).trans (if_pos ⟨b.1, a.2⟩)
            unfold prB at k2
            rw [B0, if_neg (by rw [h]; decide), if_neg (by rw [h]; decide), if_pos h, B1] at k2
            have k3 := of_decide_eq_true k2
            refine ⟨b.1, a.2, ?_⟩
            unfold qR
            rw [h2, h, k1, k3]; rfl
          · rintro ⟨_, _, h⟩
            unfold qR at h
            simp only [Bool.or_eq_true, Bool.and_eq_true, beq_iff_eq] at h
            rcases h with h | h
            · exact absurd (h2.symm.trans h.1.1.1) (by decide)
            · exact h.1.1.2
        · rw [if_neg a]
          exact ⟨fun h => absurd h n2, fun h => absurd ⟨hi, h.2.1⟩ a⟩
      · rw [if_neg b] at k1; exact absurd k1 n4
    · rw [if_neg h2]
      constructor
      · intro h; cases h
      · rintro ⟨_, _, h⟩
        unfold qR at h
        simp only [Bool.or_eq_true, Bool.and_eq_true, beq_iff_eq] at h
        rcases h with h | h
        · exact absurd h.1.1.1 h1
        · exact absurd h.1.1.1 h2
theorem flips_eq {r c : Nat} {f : Nat → UInt8} (ok : OkT (r + 1) (c + 1) f) : flp (fun i j => mtB (r + 1) (c + 1) f (i : Int) (j : Int)) (r + 1) (c + 1) = flp (qR f) r c := by
  rw [flp_trim (fun i j hi hj h => by
    rw [← Bool.not_eq_true, mt_iff ok i j hi hj]
    rintro ⟨h1, h2, _⟩
    omega)]
  apply flp_congr
  intro i hi j hj
  rw [Bool.eq_iff_iff, mt_iff ok i j (by omega) (by omega)]
  exact ⟨fun h => h.2.2, fun h => ⟨by omega, by omega, h⟩⟩
theorem mem_flips {r c : Nat} {f : Nat → UInt8} (ok : OkT (r + 1) (c + 1) f) (x y : Int) : (x, y) ∈ flp (qR f) r c ↔ mtB (r + 1) (c + 1) f y x = true := by
  rw [mem_flp]
  constructor
  · rintro ⟨i, j, hi, hj, hq, rfl, rfl⟩
    exact (mt_iff ok i j (by omega) (by omega)).2 ⟨by omega, by omega, hq⟩
  · intro h
    have hin : 0 ≤ y ∧ y < ((r + 1 : Nat) : Int) ∧ 0 ≤ x ∧ x < ((c + 1 : Nat) : Int) := by
      rcases Classical.em (0 ≤ y ∧ y < ((r + 1 : Nat) : Int) ∧ 0 ≤ x ∧ x < ((c + 1 : Nat) : Int)) with q | q
      · exact q
      · unfold mtB at h
        rw [show atB (r + 1) (c + 1) f y x = 46 by unfold atB; rw [if_neg q], if_neg (by decide), if_neg (by decide)] at h
        cases h
    obtain ⟨i, rfl⟩ : ∃ i : Nat, y = (i : Int) := ⟨y.toNat, by omega⟩
    obtain ⟨j, rfl⟩ : ∃ j : Nat, x = (j : Int) := ⟨x.toNat, by omega⟩
    obtain ⟨h1, h2, h3⟩ := (mt_iff ok i j (by omega) (by omega)).1 h
    exact ⟨i, j, by omega, by omega, h3, rfl, rfl⟩

/-- Four letters of a block laid over a text. -/
def putL (L : List UInt8) (w x y : Nat) (a b d e : UInt8) : List UInt8 := (((L.set (y * w + x) a).set (y * w + (x + 1)) b).set ((y + 1) * w + x) d).set ((y + 1) * w + (x + 1)) e
def put4 (f : Nat → UInt8) (i j : Nat) (a b d e : UInt8) : Nat → UInt8 := upB (upB (upB (upB f (i * 8 + j) a) (i * 8 + (j + 1)) b) ((i + 1) * 8 + j) d) ((i + 1) * 8 + (j + 1)) e
theorem put_tx (r c : Nat) (f : Nat → UInt8) (x y : Nat) (hy : y + 1 < r + 1) (hx : x + 1 < c) (hc : c ≤ 8) (a b d e : UInt8) : putL (tx (r + 1) c f) (c + 1) x y a b d e = tx (r + 1) c (put4 f y x a b d e) := by
  unfold putL put4
  rw [tx_set r c f y x (by omega) (by omega) hc, tx_set r c _ y (x + 1) (by omega) hx hc, tx_set r c _ (y + 1) x hy (by omega) hc, tx_set r c _ (y + 1) (x + 1) hy hx hc]
  rfl
theorem put_lie (f : Nat → UInt8) (i j : Nat) : put4 f i j 108 114 108 114 = cvF f i j false := rfl
theorem put_stand (f : Nat → UInt8) (i j : Nat) : put4 f i j 117 117 100 100 = cvF f i j true := by
  funext k
  unfold put4 cvF up2 upB
  rw [if_pos rfl]
  by_cases h1 : k = (i + 1) * 8 + (j + 1)
  · rw [if_pos h1, if_pos h1]
  · rw [if_neg h1, if_neg h1]
    by_cases h2 : k = (i + 1) * 8 + j
    · rw [if_pos h2, if_neg (by omega), if_pos h2]
    · rw [if_neg h2, if_neg h2]
theorem cv_same {f : Nat → UInt8} {i j : Nat} (h : qR f i j = true) (h1 : f (i * 8 + j) = 108) : cvF f i j false = f := by
  unfold qR at h
  simp only [Bool.or_eq_true, Bool.and_eq_true, beq_iff_eq] at h
  have h2 : f (i * 8 + j) = 108 ∧ f (i * 8 + (j + 1)) = 114 ∧ f ((i + 1) * 8 + j) = 108 ∧ f ((i + 1) * 8 + (j + 1)) = 114 := by
    rcases h with h | h
    · exact ⟨h.1.1.1, h.1.1.2, h.1.2, h.2⟩
    · rw [h1] at h; exact absurd h.1.1.1 (by decide)
  funext k
  show (if k = (i + 1) * 8 + (j + 1) then _ else if k = (i + 1) * 8 + j then _ else if k = i * 8 + (j + 1) then _ else if k = i * 8 + j then _ else f k) = f k
  split
  · next e => rw [e]; exact h2.2.2.2.symm
  · split
    · next e => rw [e]; exact h2.2.2.1.symm
    · split
      · next e => rw [e]; exact h2.2.1.symm
      · split
        · next e => rw [e]; exact h2.1.symm
        · rfl
theorem cv_corner (f : Nat → UInt8) (i j : Nat) : cvF f i j false (i * 8 + j) = 108 := by
  show (if i * 8 + j = (i + 1) * 8 + (j + 1) then (114 : UInt8) else if i * 8 + j = (i + 1) * 8 + j then 108 else if i * 8 + j = i * 8 + (j + 1) then 114 else if i * 8 + j = i * 8 + j then 108 else f (i * 8 + j)) = 108
  rw [if_neg (by omega), if_neg (by omega), if_neg (by omega), if_pos rfl]
/-- The letters that Flip must lay: the other ones. -/
theorem flip_lie {r c : Nat} {f : Nat → UInt8} {i j : Nat} (hy : i + 1 < r + 1) (hx : j + 1 < c) (h : qR f i j = true) : decide (tx (r + 1) c (cvF f i j false) = tx (r + 1) c f) = (f (i * 8 + j) == 108) := by
  by_cases h1 : f (i * 8 + j) = 108
  · rw [cv_same h h1, h1]; simp
  · have h2 : ¬ tx (r + 1) c (cvF f i j false) = tx (r + 1) c f := by
      intro e
      have e1 := tx_get r c (cvF f i j false) i j (by omega) (by omega)
      rw [e, tx_get r c f i j (by omega) (by omega), cv_corner] at e1
      exact h1 (Option.some.inj e1)
    rw [decide_eq_false h2]
    symm
    simpa using h1

/-- The diamond of order n. -/
def dmB (n i j : Nat) : UInt8 := if n ≤ j + 1 + min i (2 * n - 1 - i) ∧ j ≤ n + min i (2 * n - 1 - i) then 35 else 46
def dmF (n k : Nat) : UInt8 := if k / 8 < 2 * n ∧ k % 8 < 2 * n then dmB n (k / 8) (k % 8) else 0
theorem dmF_at {n i j : Nat} (hi : i < 2 * n) (hj : j < 2 * n) (hn : n ≤ 4) : dmF n (i * 8 + j) = dmB n i j := by
  unfold dmF
  rw [show (i * 8 + j) / 8 = i by omega, show (i * 8 + j) % 8 = j by omega, if_pos ⟨hi, hj⟩]
theorem dm_far {n i j : Nat} (hi : i < 2 * n) (hj : j < 2 * n) : (max (2 * (i : Int) + 1 - 2 * (n : Int)) (-(2 * (i : Int) + 1 - 2 * (n : Int))) + max (2 * (j : Int) + 1 - 2 * (n : Int)) (-(2 * (j : Int) + 1 - 2 * (n : Int))) ≤ 2 * (n : Int)) ↔ dmB n i j = 35 := by
  have key : (max (2 * (i : Int) + 1 - 2 * (n : Int)) (-(2 * (i : Int) + 1 - 2 * (n : Int))) + max (2 * (j : Int) + 1 - 2 * (n : Int)) (-(2 * (j : Int) + 1 - 2 * (n : Int))) ≤ 2 * (n : Int)) ↔ (n ≤ j + 1 + min i (2 * n - 1 - i) ∧ j ≤ n + min i (2 * n - 1 - i)) := by omega
  rw [key]
  unfold dmB
  by_cases h : n ≤ j + 1 + min i (2 * n - 1 - i) ∧ j ≤ n + min i (2 * n - 1 - i)
  · rw [if_pos h]; exact ⟨fun _ => rfl, fun _ => h⟩
  · rw [if_neg h]; exact ⟨fun q => absurd q h, fun q => absurd q (by decide)⟩

end Go.Proofs.YtcnmndbckjmliaaDoor
