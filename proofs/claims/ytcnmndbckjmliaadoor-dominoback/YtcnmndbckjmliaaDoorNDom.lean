/-
  Plain: a text of rows, cut at its strokes; the text of a sheet, sign by sign.
-/
import Derived.Lib.Join
namespace Go.Proofs.YtcnmndbckjmliaaDoor

/-- The rows of a text. -/
def pz : List UInt8 → List (List UInt8)
  | [] => [[]]
  | b :: s => if b = 47 then [] :: pz s else (b :: (pz s).headD []) :: (pz s).tail
theorem pz_ne : ∀ s, pz s ≠ []
  | [] => by simp [pz]
  | b :: s => by unfold pz; split <;> simp
theorem pz_cons (s : List UInt8) : pz s = (pz s).headD [] :: (pz s).tail := by
  have := pz_ne s
  cases h : pz s with
  | nil => exact absurd h this
  | cons x xs => rfl
theorem pz_no : ∀ s, ∀ x ∈ pz s, (47 : UInt8) ∉ x
  | [], x, h => by simp [pz] at h; subst h; simp
  | b :: s, x, h => by
    unfold pz at h
    by_cases hb : b = 47
    · rw [if_pos hb] at h
      rcases List.mem_cons.1 h with rfl | h
      · simp
      · exact pz_no s x h
    · rw [if_neg hb] at h
      rcases List.mem_cons.1 h with rfl | h
      · have h1 := pz_no s ((pz s).headD []) (by rw [pz_cons s]; simp)
        intro h2
        rcases List.mem_cons.1 h2 with h3 | h3
        · exact hb h3.symm
        · exact h1 h3
      · exact pz_no s x (List.mem_of_mem_tail h)
theorem join_twoz (x y : List UInt8) (r : List (List UInt8)) (c : UInt8) : Lib.join (x :: y :: r) [c] = x ++ c :: Lib.join (y :: r) [c] := by
  rw [Lib.join_cons, Lib.join_cons]; simp [Lib.joinTail]
theorem pz_join : ∀ s, Lib.join (pz s) [47] = s
  | [] => by simp [pz, Lib.join_one]
  | b :: s => by
    have ih := pz_join s
    unfold pz
    by_cases hb : b = 47
    · rw [if_pos hb, pz_cons s, join_twoz, ← pz_cons s, ih, hb]; rfl
    · rw [if_neg hb]
      rw [pz_cons s] at ih
      cases ht : (pz s).tail with
      | nil => rw [ht, Lib.join_one] at ih; rw [Lib.join_one, ih]
      | cons y r => rw [ht, join_twoz] at ih; rw [join_twoz, List.cons_append, ih]
theorem pz_one : ∀ x : List UInt8, (47 : UInt8) ∉ x → pz x = [x]
  | [], _ => rfl
  | b :: x, h => by
    have hb : b ≠ 47 := fun e => h (by simp [e])
    have ih := pz_one x (fun e => h (by simp [e]))
    unfold pz
    rw [if_neg hb, ih]; rfl
theorem pz_app : ∀ (x s : List UInt8), (47 : UInt8) ∉ x → pz (x ++ 47 :: s) = x :: pz s
  | [], s, _ => by rw [List.nil_append, pz, if_pos rfl]
  | b :: x, s, h => by
    have hb : b ≠ 47 := fun e => h (by simp [e])
    have ih := pz_app x s (fun e => h (by simp [e]))
    rw [List.cons_append, pz, if_neg hb, ih]; rfl
theorem pz_of_join : ∀ (l : List (List UInt8)), l ≠ [] → (∀ x ∈ l, (47 : UInt8) ∉ x) → pz (Lib.join l [47]) = l
  | [], h, _ => absurd rfl h
  | [x], _, h => by rw [Lib.join_one]; exact pz_one x (h x (by simp))
  | x :: y :: r, _, h => by
    rw [join_twoz, pz_app _ _ (h x (by simp)), pz_of_join (y :: r) (by simp) (fun z hz => h z (List.mem_cons_of_mem _ hz))]

/-- The rows of a sheet, and its text. -/
def rwz (r c : Nat) (f : Nat → UInt8) : List (List UInt8) := (List.range r).map fun i => (List.range c).map fun j => f (i * 8 + j)
def tx (r c : Nat) (f : Nat → UInt8) : List UInt8 := Lib.join (rwz r c f) [47]
theorem rwz_succ (r c : Nat) (f : Nat → UInt8) : rwz (r + 1) c f = ((List.range c).map fun j => f j) :: rwz r c (fun k => f (8 + k)) := by
  unfold rwz
  rw [List.range_succ_eq_map, List.map_cons, List.map_map]
  congr 1
  · apply List.map_congr_left; intro j _; congr 1; omega
  · apply List.map_congr_left; intro i _
    show (List.map (fun j => f ((i + 1) * 8 + j)) (List.range c)) = _
    apply List.map_congr_left; intro j _; congr 1; omega
theorem rwz_length (r c : Nat) (f : Nat → UInt8) : (rwz r c f).length = r := by simp [rwz]
theorem tx_one (c : Nat) (f : Nat → UInt8) : tx 1 c f = (List.range c).map fun j => f j := by
  unfold tx; rw [rwz_succ]; exact Lib.join_one _ _
theorem tx_succ (r c : Nat) (f : Nat → UInt8) : tx (r + 2) c f = ((List.range c).map fun j => f j) ++ 47 :: tx (r + 1) c (fun k => f (8 + k)) := by
  unfold tx
  rw [rwz_succ (r + 1), rwz_succ r, join_twoz]
theorem tx_length : ∀ (r c : Nat) (f : Nat → UInt8), (tx (r + 1) c f).length = (r + 1) * (c + 1) - 1
  | 0, c, f => by rw [tx_one]; simp
  | r + 1, c, f => by
    rw [tx_succ, List.length_append, List.length_cons, tx_length r c, List.length_map, List.length_range]
    have : (r + 1 + 1) * (c + 1) = (r + 1) * (c + 1) + (c + 1) := Nat.succ_mul _ _
    have h2 : 1 ≤ (r + 1) * (c + 1) := Nat.mul_pos (by omega) (by omega)
    omega
/-- What stands at a place of the text. -/
theorem tx_get : ∀ (r c : Nat) (f : Nat → UInt8) (i j : Nat), i < r + 1 → j < c → (tx (r + 1) c f)[i * (c + 1) + j]? = some (f (i * 8 + j))
  | 0, c, f, i, j, hi, hj => by
    obtain rfl : i = 0 := by omega
    rw [tx_one]; simp [hj]
  | r + 1, c, f, i, j, hi, hj => by
    rw [tx_succ]
    cases i with
    | zero =>
      rw [List.getElem?_append_left (by simp; omega)]
      simp [hj]
    | succ i =>
      have e : (i + 1) * (c + 1) = i * (c + 1) + (c + 1) := Nat.succ_mul _ _
      rw [List.getElem?_append_right (by simp; omega), List.length_map, List.length_range]
      rw [show (i + 1) * (c + 1) + j - c = (i * (c + 1) + j) + 1 by omega, List.getElem?_cons_succ, tx_get r c _ i j (by omega) hj]
      congr 2; omega
theorem tx_end : ∀ (r c : Nat) (f : Nat → UInt8) (i : Nat), i < r → (tx (r + 1) c f)[i * (c + 1) + c]? = some 47
  | 0, c, f, i, hi => by omega
  | r + 1, c, f, i, hi => by
    rw [tx_succ]
    cases i with
    | zero =>
      rw [List.getElem?_append_right (by simp)]
      simp
    | succ i =>
      have e : (i + 1) * (c + 1) = i * (c + 1) + (c + 1) := Nat.succ_mul _ _
      rw [List.getElem?_append_right (by simp <;> omega), List.length_map, List.length_range]
      rw [show (i + 1) * (c + 1) + c - c = (i * (c + 1) + c) + 1 by omega, List.getElem?_cons_succ, tx_end r c _ i (by omega)]
/-- Two texts of one length are one where they have the same signs. -/
theorem tx_ext {r c : Nat} {f : Nat → UInt8} {l : List UInt8} (hl : l.length = (r + 1) * (c + 1) - 1) (h : ∀ i, i < r + 1 → ∀ j, j < c → l[i * (c + 1) + j]? = some (f (i * 8 + j))) (h2 : ∀ i, i < r → l[i * (c + 1) + c]? = some 47) : l = tx (r + 1) c f := by
  apply List.ext_getElem?
  intro p
  by_cases hp : p < (r + 1) * (c + 1) - 1
  · have hq : p / (c + 1) < r + 1 := Nat.div_lt_of_lt_mul (by rw [Nat.mul_comm]; omega)
    have hm : p % (c + 1) < c + 1 := Nat.mod_lt _ (by omega)
    have e : p = p / (c + 1) * (c + 1) + p % (c + 1) := by rw [Nat.mul_comm]; exact (Nat.div_add_mod p (c + 1)).symm
    generalize p / (c + 1) = i at *
    generalize p % (c + 1) = j at *
    subst e
    by_cases hj : j < c
    · rw [h i hq j hj, tx_get r c f i j hq hj]
    · obtain rfl : j = c := by omega
      have hi : i < r := by
        rcases Nat.lt_or_ge i r with q | q
        · exact q
        · obtain rfl : i = r := by omega
          rw [Nat.succ_mul] at hp; omega
      rw [h2 i hi, tx_end r j f i hi]
  · rw [List.getElem?_eq_none (by omega), List.getElem?_eq_none (by rw [tx_length]; omega)]
theorem tx_set (r c : Nat) (f : Nat → UInt8) (i j : Nat) (hi : i < r + 1) (hj : j < c) (hc : c ≤ 8) (b : UInt8) : (tx (r + 1) c f).set (i * (c + 1) + j) b = tx (r + 1) c (fun k => if k = i * 8 + j then b else f k) := by
  have hlt : i * (c + 1) + j < (tx (r + 1) c f).length := by
    rw [tx_length]
    have : (i + 1) * (c + 1) ≤ (r + 1) * (c + 1) := Nat.mul_le_mul_right _ (by omega)
    rw [Nat.succ_mul] at this
    omega
  apply tx_ext
  · rw [List.length_set, tx_length]
  · intro a ha d hd
    rw [List.getElem?_set]
    by_cases e : i * (c + 1) + j = a * (c + 1) + d
    · rw [if_pos e, if_pos hlt]
      have hai : a = i := by
        have h1 : (i * (c + 1) + j) / (c + 1) = i := by rw [Nat.mul_comm, Nat.mul_add_div (by omega), Nat.div_eq_of_lt (by omega)]; rfl
        have h2 : (a * (c + 1) + d) / (c + 1) = a := by rw [Nat.mul_comm, Nat.mul_add_div (by omega), Nat.div_eq_of_lt (by omega)]; rfl
        rw [← e, h1] at h2; exact h2.symm
      subst hai
      rw [if_pos (by omega)]
    · rw [if_neg e, tx_get r c f a d ha hd]
      rw [if_neg]
      intro q
      apply e
      have : a = i := by omega
      subst this
      omega
  · intro a ha
    rw [List.getElem?_set]
    have hne : ¬ (i * (c + 1) + j = a * (c + 1) + c) := by
      intro e
      have h1 : (i * (c + 1) + j) % (c + 1) = j := by rw [Nat.mul_comm, Nat.mul_add_mod, Nat.mod_eq_of_lt (by omega)]
      have h2 : (a * (c + 1) + c) % (c + 1) = c := by rw [Nat.mul_comm, Nat.mul_add_mod, Nat.mod_eq_of_lt (by omega)]
      rw [← e, h1] at h2; omega
    rw [if_neg hne, tx_end r c f a ha]
theorem tx_map (r c : Nat) (f : Nat → UInt8) (g : UInt8 → UInt8) (h : g 47 = 47) : (tx (r + 1) c f).map g = tx (r + 1) c (fun k => g (f k)) := by
  apply tx_ext
  · rw [List.length_map, tx_length]
  · intro i hi j hj; rw [List.getElem?_map, tx_get r c f i j hi hj]; rfl
  · intro i hi; rw [List.getElem?_map, tx_end r c f i hi]; show some (g 47) = _; rw [h]
theorem tx_congr {r c : Nat} {f g : Nat → UInt8} (h : ∀ i, i < r → ∀ j, j < c → f (i * 8 + j) = g (i * 8 + j)) : tx r c f = tx r c g := by
  unfold tx rwz
  congr 1
  apply List.map_congr_left; intro i hi
  apply List.map_congr_left; intro j hj
  exact h i (List.mem_range.1 hi) j (List.mem_range.1 hj)
/-- The cells of rows. -/
def cef (l : List (List UInt8)) (k : Nat) : UInt8 := (l.getD (k / 8) []).getD (k % 8) 0
theorem cef_at (l : List (List UInt8)) (i j : Nat) (hj : j < 8) : cef l (i * 8 + j) = (l.getD i []).getD j 0 := by
  unfold cef
  rw [show (i * 8 + j) / 8 = i by omega, show (i * 8 + j) % 8 = j by omega]
/-- Rows of one length, of such letters. -/
def Shz (lt : List UInt8) (r c : Nat) (l : List (List UInt8)) : Prop := l.length = r ∧ 1 ≤ r ∧ r ≤ 8 ∧ 1 ≤ c ∧ c ≤ 8 ∧ ∀ x ∈ l, x.length = c ∧ ∀ b ∈ x, b ∈ lt
theorem rwz_cef {lt : List UInt8} {r c : Nat} {l : List (List UInt8)} (h : Shz lt r c l) : rwz r c (cef l) = l := by
  obtain ⟨h1, _, _, _, h5, h6⟩ := h
  apply List.ext_getElem?
  intro i
  unfold rwz
  by_cases hi : i < r
  · rw [List.getElem?_map, List.getElem?_range hi, List.getElem?_eq_getElem (by omega : i < l.length)]
    simp only [Option.map_some]
    congr 1
    have hx := h6 l[i] (List.getElem_mem _)
    apply List.ext_getElem?
    intro j
    by_cases hj : j < c
    · rw [List.getElem?_map, List.getElem?_range hj, List.getElem?_eq_getElem (by omega)]
      simp only [Option.map_some]
      rw [cef_at _ _ _ (by omega)]
      simp [List.getD, List.getElem?_eq_getElem (by omega : i < l.length), List.getElem?_eq_getElem (by omega : j < l[i].length)]
    · rw [List.getElem?_eq_none (by simp; omega), List.getElem?_eq_none (by omega)]
  · rw [List.getElem?_eq_none (by simp; omega), List.getElem?_eq_none (by omega)]
theorem tx_cef {lt : List UInt8} {r c : Nat} {s : List UInt8} (h : Shz lt r c (pz s)) : tx r c (cef (pz s)) = s := by
  unfold tx; rw [rwz_cef h, pz_join]
theorem rwz_get (r c : Nat) (f : Nat → UInt8) (i : Nat) (hi : i < r) : (rwz r c f).getD i [] = (List.range c).map fun j => f (i * 8 + j) := by
  unfold rwz; simp [List.getD, hi]
theorem cef_rwz (r c : Nat) (f : Nat → UInt8) (i j : Nat) (hi : i < r) (hj : j < c) (hc : c ≤ 8) : cef (rwz r c f) (i * 8 + j) = f (i * 8 + j) := by
  rw [cef_at _ _ _ (by omega), rwz_get r c f i hi]; simp [List.getD, hj]
theorem shz_rwz {lt : List UInt8} {r c : Nat} {f : Nat → UInt8} (r1 : 1 ≤ r) (r8 : r ≤ 8) (c1 : 1 ≤ c) (c8 : c ≤ 8) (h : ∀ i, i < r → ∀ j, j < c → f (i * 8 + j) ∈ lt) : Shz lt r c (rwz r c f) := by
  refine ⟨rwz_length _ _ _, r1, r8, c1, c8, fun x hx => ?_⟩
  unfold rwz at hx
  obtain ⟨i, hi, rfl⟩ := List.mem_map.1 hx
  refine ⟨by simp, fun b hb => ?_⟩
  obtain ⟨j, hj, rfl⟩ := List.mem_map.1 hb
  exact h i (List.mem_range.1 hi) j (List.mem_range.1 hj)
theorem pz_tx {lt : List UInt8} {r c : Nat} {f : Nat → UInt8} (r1 : 1 ≤ r) (h : ∀ i, i < r → ∀ j, j < c → f (i * 8 + j) ∈ lt) (hl : (47 : UInt8) ∉ lt) : pz (tx r c f) = rwz r c f := by
  unfold tx
  apply pz_of_join
  · intro e; have := rwz_length r c f; rw [e] at this; simp at this; omega
  · intro x hx
    unfold rwz at hx
    obtain ⟨i, hi, rfl⟩ := List.mem_map.1 hx
    intro hb
    obtain ⟨j, hj, e⟩ := List.mem_map.1 hb
    have := h i (List.mem_range.1 hi) j (List.mem_range.1 hj)
    rw [e] at this; exact hl this

end Go.Proofs.YtcnmndbckjmliaaDoor
