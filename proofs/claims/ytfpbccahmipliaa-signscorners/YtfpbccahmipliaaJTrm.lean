/-
  Triangles: plain mathematics.
-/
import Derived.Test.YtfpbccahmipliaaJMth
namespace Go.Proofs.Ytfpbccahmipliaa

def csm (P : Nat → Nat → Int) (i j : Nat) : Int := rsm (fun k => P k j) i
theorem csm_succ (P : Nat → Nat → Int) (i j : Nat) : csm P (i + 1) j = csm P i j + P i j := rfl
def trP (f : Nat → Bool) : Nat → List Int
  | 0 => []
  | k + 1 => trP f k ++ (if f k = true then [(k : Int) + 1] else [])
def trF (P : Nat → Nat → Int) (i j : Nat) : Bool := decide (csm P (i + 1) j = 1)
def tri (n : Nat) (P : Nat → Nat → Int) : List (List Int) := (List.range n).map fun i => trP (trF P i) n
theorem tri_len (n : Nat) (P : Nat → Nat → Int) : (tri n P).length = n := by simp [tri]
theorem tri_get {n : Nat} {P : Nat → Nat → Int} {i : Nat} (hi : i < n) : (tri n P).getD i [] = trP (trF P i) n := by simp [tri, List.getD, hi]
theorem tri_row {n : Nat} {P : Nat → Nat → Int} {i : Nat} (hi : i < n) : row (tri n P) i = trP (trF P i) n := tri_get hi
theorem trP_yes {f : Nat → Bool} {k : Nat} (h : f k = true) : trP f (k + 1) = trP f k ++ [(k : Int) + 1] := by simp [trP, h]
theorem trP_no {f : Nat → Bool} {k : Nat} (h : f k = false) : trP f (k + 1) = trP f k := by simp [trP, h]
theorem trP_le (f : Nat → Bool) : ∀ k, (trP f k).length ≤ k
  | 0 => Nat.le_refl _
  | k + 1 => by
    have := trP_le f k
    cases h : f k with
    | true => rw [trP_yes h, List.length_append]; simp; omega
    | false => rw [trP_no h]; omega
theorem trP_mem (f : Nat → Bool) (z : Int) : ∀ k, z ∈ trP f k ↔ ∃ j, j < k ∧ f j = true ∧ z = (j : Int) + 1
  | 0 => by simp [trP]
  | k + 1 => by
    cases h : f k with
    | true =>
      rw [trP_yes h, List.mem_append, trP_mem f z k]
      simp only [List.mem_singleton]
      constructor
      · rintro (⟨j, h1, h2, h3⟩ | h1)
        · exact ⟨j, by omega, h2, h3⟩
        · exact ⟨k, by omega, h, h1⟩
      · rintro ⟨j, h1, h2, h3⟩
        by_cases e : j = k
        · right; rw [h3, e]
        · left; exact ⟨j, by omega, h2, h3⟩
    | false =>
      rw [trP_no h, trP_mem f z k]
      constructor
      · rintro ⟨j, h1, h2, h3⟩
        exact ⟨j, by omega, h2, h3⟩
      · rintro ⟨j, h1, h2, h3⟩
        by_cases e : j = k
        · rw [e, h] at h2; cases h2
        · exact ⟨j, by omega, h2, h3⟩
theorem trP_bd {f : Nat → Bool} {k : Nat} {z : Int} (h : z ∈ trP f k) : 1 ≤ z ∧ z ≤ k := by
  obtain ⟨j, h1, _, rfl⟩ := (trP_mem f z k).1 h
  omega
/-- how often column j stands there -/
def cnj (l : List Int) (j : Nat) : Int := (l.count ((j : Int) + 1) : Int)
theorem cnj_nil (j : Nat) : cnj [] j = 0 := rfl
theorem cnj_snoc (l : List Int) (z : Int) (j : Nat) : cnj (l ++ [z]) j = cnj l j + (if z = (j : Int) + 1 then 1 else 0) := by
  unfold cnj
  rw [List.count_append, List.count_singleton]
  by_cases h : z = (j : Int) + 1
  · rw [if_pos h, if_pos (by simpa using h)]; omega
  · rw [if_neg h, if_neg (by simpa using h)]; omega
theorem cnj_trP (f : Nat → Bool) (j : Nat) : ∀ k, cnj (trP f k) j = if j < k ∧ f j = true then 1 else 0
  | 0 => by rw [if_neg (by omega)]; rfl
  | k + 1 => by
    cases h : f k with
    | true =>
      rw [trP_yes h, cnj_snoc, cnj_trP f j k]
      by_cases e : j = k
      · subst e
        rw [if_neg (by omega), if_pos rfl, if_pos ⟨by omega, h⟩]; rfl
      · rw [if_neg (show ¬ (k : Int) + 1 = (j : Int) + 1 by omega), Int.add_zero]
        by_cases h2 : j < k ∧ f j = true
        · rw [if_pos h2, if_pos ⟨by omega, h2.2⟩]
        · rw [if_neg h2, if_neg (fun q => h2 ⟨by omega, q.2⟩)]
    | false =>
      rw [trP_no h, cnj_trP f j k]
      by_cases h2 : j < k ∧ f j = true
      · rw [if_pos h2, if_pos ⟨by omega, h2.2⟩]
      · rw [if_neg h2, if_neg (fun q => h2 ⟨by
          have : j ≠ k := fun e => by have := q.2; rw [e, h] at this; cases this
          omega, q.2⟩)]
theorem Sg.trF {n : Nat} {P : Nat → Nat → Int} (p : Sg n P) {i j : Nat} (hi : i < n) (hj : j < n) : (if trF P i j = true then (1 : Int) else 0) = csm P (i + 1) j := by
  have h : csm P (i + 1) j = 0 ∨ csm P (i + 1) j = 1 := p.col j hj (i + 1) (by omega)
  unfold Ytfpbccahmipliaa.trF
  rcases h with h | h
  · rw [h]; rfl
  · rw [h]; rfl
theorem Sg.trLen {n : Nat} {P : Nat → Nat → Int} (p : Sg n P) {i : Nat} (hi : i < n) : ∀ k, k ≤ n → ((trP (Ytfpbccahmipliaa.trF P i) k).length : Int) = cor P (i + 1) k
  | 0, _ => by rw [cor_z1]; rfl
  | k + 1, hk => by
    have ih := p.trLen hi k (by omega)
    have h := p.trF hi (show k < n by omega)
    rw [cor_col, ← ih]
    show _ = _ + csm P (i + 1) k
    rw [← h]
    cases h2 : Ytfpbccahmipliaa.trF P i k with
    | true => rw [trP_yes h2, List.length_append]; simp
    | false => rw [trP_no h2]; simp

def wtr (ls : List (List Int)) (i j : Nat) : Int := cnj (row ls i) j - (if i = 0 then 0 else cnj (row ls (i - 1)) j)
theorem wtr_tri {n : Nat} {P : Nat → Nat → Int} (p : Sg n P) {i j : Nat} (hi : i < n) (hj : j < n) : wtr (tri n P) i j = P i j := by
  have hc : ∀ a, a < n → cnj (row (tri n P) a) j = csm P (a + 1) j := fun a ha => by
    rw [tri_row ha, cnj_trP, ← p.trF ha hj]
    by_cases h : Ytfpbccahmipliaa.trF P a j = true
    · rw [if_pos ⟨hj, h⟩, if_pos h]
    · rw [if_neg (fun q => h q.2), if_neg h]
  unfold wtr
  rw [hc i hi]
  by_cases h0 : i = 0
  · subst h0
    rw [if_pos rfl, csm_succ]
    show 0 + P 0 j - 0 = P 0 j
    omega
  · rw [if_neg h0, hc (i - 1) (by omega), show i - 1 + 1 = i by omega, csm_succ]; omega

/-- the form of a triangle -/
structure TrB (ls : List (List Int)) : Prop where
  n1 : 1 ≤ ls.length
  n7 : ls.length ≤ 7
  len : ∀ i, i < ls.length → (row ls i).length = i + 1
  num : ∀ i, i < ls.length → ∀ z ∈ row ls i, 1 ≤ z ∧ z ≤ (ls.length : Int)
theorem tri_TrB {n : Nat} {P : Nat → Nat → Int} (p : Sg n P) : TrB (tri n P) where
  n1 := by rw [tri_len]; exact p.n1
  n7 := by rw [tri_len]; exact p.n7
  len := fun i hi => by
    rw [tri_len] at hi
    rw [tri_row hi]
    have := p.trLen hi n (Nat.le_refl _)
    rw [p.kc.e1 (i + 1) (by omega)] at this
    omega
  num := fun i hi z hz => by
    rw [tri_len] at hi ⊢
    rw [tri_row hi] at hz
    exact trP_bd hz
theorem tri_congr {n : Nat} {P Q : Nat → Nat → Int} (h : ∀ i, i < n → ∀ j, j < n → P i j = Q i j) : tri n P = tri n Q := by
  refine List.map_congr_left (fun i hi => ?_)
  have hi := List.mem_range.1 hi
  have e : ∀ k, k ≤ n → trP (trF P i) k = trP (trF Q i) k := fun k => by
    induction k with
    | zero => intro _; rfl
    | succ k ih =>
      intro hk
      have e2 : trF P i k = trF Q i k := by
        unfold trF csm
        rw [rsm_congr (fun a ha => h a (by omega) k (by omega))]
      simp only [trP, ih (by omega), e2]
  exact e n (Nat.le_refl _)
theorem Sg.congr {n : Nat} {P Q : Nat → Nat → Int} (p : Sg n P) (h : ∀ i, i < n → ∀ j, j < n → P i j = Q i j) : Sg n Q :=
  sg_list.1 (by rw [← tz_congr h]; exact sg_list.2 p)

/-- is there a matrix with that triangle, with these corners? -/
def FtOk (ls : List (List Int)) : Prop := ∃ P, Sg ls.length P ∧ ls = tri ls.length P
theorem ft_iff (ls : List (List Int)) : FtOk ls ↔ TrB ls ∧ Sg ls.length (wtr ls) ∧ ls = tri ls.length (wtr ls) := by
  constructor
  · rintro ⟨P, p, e⟩
    obtain ⟨n, hn⟩ : ∃ n, n = ls.length := ⟨_, rfl⟩
    rw [← hn] at p e ⊢
    have h : ∀ i, i < n → ∀ j, j < n → P i j = wtr ls i j := fun i hi j hj => by rw [e, wtr_tri p hi hj]
    refine ⟨by rw [e]; exact tri_TrB p, p.congr h, ?_⟩
    rw [← tri_congr h]; exact e
  · rintro ⟨_, p, e⟩
    exact ⟨_, p, e⟩
def FcOk (ls : List (List Int)) : Prop := ∃ n P, Sg n P ∧ ls = tz (n + 1) (n + 1) (cor P)

theorem ft_fn {ls : List (List Int)} (h : FtOk ls) : ∃ n P, Sg n P ∧ ls = tri n P := by
  obtain ⟨P, p, e⟩ := h
  exact ⟨_, P, p, e⟩

end Go.Proofs.Ytfpbccahmipliaa
