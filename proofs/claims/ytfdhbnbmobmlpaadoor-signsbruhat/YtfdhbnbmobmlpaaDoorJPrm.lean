/-
  Permutations are matrices, and their order is BRUHAT'S: plain mathematics.
-/
import Derived.Test.YtfdhbnbmobmlpaaDoorJMth
import Derived.Test.YtfdhbnbmobmlpaaDoorBMath
namespace Go.Proofs.YtfdhbnbmobmlpaaDoor

def pmt (xs : List Int) (i j : Nat) : Int := if xs.getD i 0 = (j : Int) + 1 then 1 else 0
theorem row_pmt {xs : List Int} {i : Nat} (h : 1 ≤ xs.getD i 0) : ∀ j : Nat, rsm (pmt xs i) j = if xs.getD i 0 ≤ (j : Int) then 1 else 0
  | 0 => by rw [if_neg (by omega)]; rfl
  | j + 1 => by
    show rsm (pmt xs i) j + pmt xs i j = _
    rw [row_pmt h j]
    unfold pmt
    by_cases h1 : xs.getD i 0 ≤ (j : Int)
    · rw [if_pos h1, if_neg (by omega), if_pos (by omega)]; rfl
    · rw [if_neg h1]
      by_cases h2 : xs.getD i 0 = (j : Int) + 1
      · rw [if_pos h2, if_pos (by omega)]; rfl
      · rw [if_neg h2, if_neg (by omega)]; rfl
theorem col_pmt {xs : List Int} (j : Nat) : ∀ i, i ≤ xs.length → rsm (fun k => pmt xs k j) i = ((xs.take i).countP (fun z => decide (z = (j : Int) + 1)) : Int)
  | 0, _ => by simp [rsm]
  | i + 1, hi => by
    show rsm (fun k => pmt xs k j) i + pmt xs i j = _
    rw [col_pmt j i (by omega), take_snoc xs i (by omega), List.countP_append]
    unfold pmt
    by_cases h : xs.getD i 0 = (j : Int) + 1
    · rw [if_pos h, List.countP_cons_of_pos (by simpa using h)]; simp
    · rw [if_neg h, List.countP_cons_of_neg (by simpa using h)]; simp
theorem cor_pmt {xs : List Int} (p : IsPerm xs) (j : Nat) : ∀ i, i ≤ xs.length → cor (pmt xs) i j = (i : Int) - (cnt ((j : Int) + 1) (xs.take i) : Nat)
  | 0, _ => by simp [cor, rsm, cnt]
  | i + 1, hi => by
    rw [cor_row, cor_pmt p j i (by omega), row_pmt (p.bounds (j := i) (by omega)).1, take_snoc xs i (by omega), cnt_app, cnt_cons]
    have e : cnt ((j : Int) + 1) [] = 0 := rfl
    rw [e]
    unfold ind
    by_cases h : xs.getD i 0 ≤ (j : Int)
    · rw [if_pos h, if_neg (by omega)]; omega
    · rw [if_neg h, if_pos (by omega)]; omega
theorem sg_pmt {xs : List Int} (p : IsPerm xs) (h1 : 1 ≤ xs.length) (h7 : xs.length ≤ 7) : Sg xs.length (pmt xs) where
  n1 := h1
  n7 := h7
  row := fun i hi j _ => by
    rw [row_pmt (p.bounds hi).1]
    split <;> omega
  rowE := fun i hi => by rw [row_pmt (p.bounds hi).1, if_pos (p.bounds hi).2]
  col := fun j _ i hi => by
    rw [col_pmt j i hi]
    have : (xs.take i).countP (fun z => decide (z = (j : Int) + 1)) ≤ 1 := nodup_count (p.once.sublist (List.take_sublist i xs)) _
    omega
  colE := fun j hj => by
    rw [col_pmt j _ (Nat.le_refl _), List.take_length]
    have h2 : xs.countP (fun z => decide (z = (j : Int) + 1)) ≤ 1 := nodup_count p.once _
    have h3 : 0 < xs.countP (fun z => decide (z = (j : Int) + 1)) := List.countP_pos_iff.2 ⟨_, p.all (v := (j : Int) + 1) (by omega) (by omega), by simp⟩
    omega
theorem bel_under {xs ys : List Int} (p : IsPerm xs) (q : IsPerm ys) (hl : xs.length = ys.length) : Bel xs.length (pmt xs) (pmt ys) ↔ Under xs ys := by
  rw [under_iff p q hl]
  constructor
  · intro h i k hi hk
    have := h i hi k hk
    rw [cor_pmt p k i hi, cor_pmt q k i (by omega)] at this
    omega
  · intro h i hi j hj
    have := h i j hi hj
    rw [cor_pmt p j i hi, cor_pmt q j i (by omega)]
    omega

end Go.Proofs.YtfdhbnbmobmlpaaDoor
