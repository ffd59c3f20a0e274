/-
  MACMAHON'S number however the room lies; piles of few cubes.
-/
import Derived.Test.YtpdlhnniibjfaaiDoorDMad
namespace Go.Proofs.YtpdlhnniibjfaaiDoor

theorem pZ_times (f g : Nat → Int) : ∀ n, pZ (fun i => f i * g i) n = pZ f n * pZ g n
  | 0 => rfl
  | n + 1 => by rw [pZ, pZ, pZ, pZ_times f g n]; simp [Int.mul_comm, Int.mul_left_comm, Int.mul_assoc]
theorem pZ_ones : ∀ n, pZ (fun _ => 1) n = 1
  | 0 => rfl
  | n + 1 => by rw [pZ, pZ_ones n]; rfl
theorem pZ_swp (f : Nat → Nat → Int) (m : Nat) : ∀ n, pZ (fun i => pZ (f i) m) n = pZ (fun j => pZ (fun i => f i j) n) m
  | 0 => by simp only [pZ]; exact (pZ_ones m).symm
  | n + 1 => by
    rw [pZ, pZ_swp f m n, ← pZ_times]
    rfl

/-- the product over the cubes of the room -/
def tP (R C H g : Nat) : Int := pZ (fun i => pZ (fun j => pZ (fun k => (i : Int) + j + k + g) H) C) R
theorem tP_ne (R C H g : Nat) (hg : 1 ≤ g) : tP R C H g ≠ 0 := pZ_ne R fun i _ => pZ_ne C fun j _ => pZ_ne H fun k _ => by omega
theorem mP_ne (R C H : Nat) : mP R C H ≠ 0 := pZ_ne R fun i _ => pZ_ne C fun j _ => by omega
theorem tele1 (a : Int) : ∀ H : Nat, pZ (fun k => a + k + 2) H * (a + 1) = pZ (fun k => a + k + 1) H * (a + H + 1)
  | 0 => by simp [pZ]
  | H + 1 => by
    have ih := tele1 a H
    rw [pZ, pZ]
    have e3 : a + (H : Int) + 2 = a + ((H + 1 : Nat) : Int) + 1 := by omega
    have : pZ (fun k => a + (k : Int) + 2) H * (a + (H : Int) + 2) * (a + 1) = (pZ (fun k => a + (k : Int) + 2) H * (a + 1)) * (a + (H : Int) + 2) := by
      rw [Int.mul_assoc, Int.mul_comm (a + (H : Int) + 2), ← Int.mul_assoc]
    rw [this, ih, e3]
theorem mP_tP (R C H : Nat) : mP R C H * tP R C H 1 = mP R C 0 * tP R C H 2 := by
  unfold mP tP
  rw [← pZ_times, ← pZ_times]
  refine pZ_congr R (fun i _ => ?_)
  rw [← pZ_times, ← pZ_times]
  refine pZ_congr C (fun j _ => ?_)
  have h := tele1 ((i : Int) + j) H
  rw [Int.mul_comm, show (i : Int) + j + (H : Int) + 1 = (i : Int) + j + H + 1 from rfl]
  rw [show ((i : Int) + j + ((0 : Nat) : Int) + 1) = (i : Int) + j + 1 by omega, Int.mul_comm ((i : Int) + j + 1)]
  exact h.symm

theorem tP_turn (R C H g : Nat) : tP H R C g = tP R C H g := by
  unfold tP
  rw [pZ_swp (fun i j => pZ (fun k => (i : Int) + j + k + g) C) R H]
  refine pZ_congr R (fun i _ => ?_)
  rw [pZ_swp (fun k j => (k : Int) + i + j + g) C H]
  refine pZ_congr C (fun j _ => ?_)
  exact pZ_congr H (fun k _ => by omega)
theorem tP_mir (R C H g : Nat) : tP C R H g = tP R C H g := by
  unfold tP
  rw [pZ_swp (fun i j => pZ (fun k => (i : Int) + j + k + g) H) R C]
  refine pZ_congr R (fun i _ => pZ_congr C (fun j _ => pZ_congr H (fun k _ => by omega)))

/-- how many piles -/
def mN (R C H : Nat) : Nat := if C = 0 then 1 else (sr C H (R * C) []).length
theorem mN_mP (R C H : Nat) : mP R C 0 * (mN R C H : Int) = mP R C H := by
  unfold mN
  by_cases h : C = 0
  · subst h
    unfold mP
    simp only [pZ, if_true]
    rw [pZ_ones]; rfl
  · rw [if_neg h]; exact macmahon (by omega)
theorem mN_tP (R C H : Nat) : (mN R C H : Int) * tP R C H 1 = tP R C H 2 := by
  have h1 := mN_mP R C H
  have h2 := mP_tP R C H
  rw [← h1, Int.mul_assoc] at h2
  exact Int.eq_of_mul_eq_mul_left (mP_ne R C 0) h2
theorem mN_turn (R C H : Nat) : mN H R C = mN R C H := by
  have h1 := mN_tP R C H
  have h2 := mN_tP H R C
  rw [tP_turn R C H 1, tP_turn R C H 2, ← h1] at h2
  have := Int.eq_of_mul_eq_mul_right (tP_ne R C H 1 (by omega)) h2
  omega
theorem mN_mir (R C H : Nat) : mN C R H = mN R C H := by
  have h1 := mN_tP R C H
  have h2 := mN_tP C R H
  rw [tP_mir R C H 1, tP_mir R C H 2, ← h1] at h2
  have := Int.eq_of_mul_eq_mul_right (tP_ne R C H 1 (by omega)) h2
  omega

/-- piles of so many cubes more -/
def svr (C H : Nat) : Nat → List Nat → Nat → Nat
  | 0, _, l => if l = 0 then 1 else 0
  | d + 1, X, l => ((List.range (min (moX C H X X.length) l + 1)).map fun n => svr C H d (X ++ [n]) (l - n)).sum

theorem sr_sum {C H : Nat} : ∀ (d : Nat) (X Y : List Nat), Y ∈ sr C H d X → X.sum ≤ Y.sum
  | 0, X, Y, h => by simp only [sr, List.mem_singleton] at h; subst h; exact Nat.le_refl _
  | d + 1, X, Y, h => by
    simp only [sr, List.mem_flatMap] at h
    obtain ⟨n, _, h⟩ := h
    have := sr_sum d _ _ h
    rw [List.sum_append] at this; omega
theorem sum_cut {f : Nat → Nat} {k : Nat} : ∀ m, (∀ n, k ≤ n → n < k + m → f n = 0) → ((List.range (k + m)).map f).sum = ((List.range k).map f).sum
  | 0, _ => rfl
  | m + 1, h => by
    rw [show k + (m + 1) = (k + m) + 1 by omega, List.range_succ, List.map_append, List.sum_append, sum_cut m (fun n h1 h2 => h n h1 (by omega))]
    simp [h (k + m) (by omega) (by omega)]
theorem svr_is {C H : Nat} : ∀ (d : Nat) (X : List Nat) (l : Nat), ((sr C H d X).filter fun Y => decide (Y.sum = X.sum + l)).length = svr C H d X l
  | 0, X, l => by
    simp only [sr, svr]
    by_cases h : l = 0
    · subst h; simp
    · rw [if_neg h, List.filter_cons_of_neg (by simp; omega)]; rfl
  | d + 1, X, l => by
    simp only [sr, svr]
    rw [List.filter_flatMap, List.length_flatMap]
    have e : ∀ n, ((sr C H d (X ++ [n])).filter fun Y => decide (Y.sum = X.sum + l)).length = if n ≤ l then svr C H d (X ++ [n]) (l - n) else 0 := fun n => by
      by_cases h : n ≤ l
      · rw [if_pos h, ← svr_is d (X ++ [n]) (l - n)]
        congr 2
        funext Y
        rw [List.sum_append]
        simp only [List.sum_cons, List.sum_nil]
        congr 1
        exact propext (by omega)
      · rw [if_neg h]
        refine List.length_eq_zero_iff.2 (List.filter_eq_nil_iff.2 (fun Y hY => ?_))
        have := sr_sum d _ _ hY
        rw [List.sum_append] at this
        simp at this ⊢
        omega
    rw [List.map_congr_left (g := fun n => if n ≤ l then svr C H d (X ++ [n]) (l - n) else 0) (fun n _ => e n)]
    obtain ⟨k, hk⟩ : ∃ k, moX C H X X.length + 1 = (min (moX C H X X.length) l + 1) + k := ⟨moX C H X X.length - min (moX C H X X.length) l, by omega⟩
    rw [hk, sum_cut k (fun n h1 h2 => by rw [if_neg (by omega)])]
    congr 1
    refine List.map_congr_left (fun n hn => ?_)
    have := List.mem_range.1 hn
    rw [if_pos (by omega)]

def serN : Nat → Nat
  | 0 => 1
  | 1 => 1
  | 2 => 3
  | 3 => 6
  | 4 => 13
  | _ => 24
/-- products of the program's lists -/
def ovN (R C H : Nat) : Nat := ((List.range R).map fun i => ((List.range C).map fun j => i + j + H + 1).foldl (· * ·) 1).foldl (· * ·) 1
def roomOk (R C H m : Nat) : Bool := decide (2000 * ovN R C 0 < ovN R C H) || decide (min R (min C H) < m) || decide (svr C H (R * C) [] m = serN m)
def rooms : Bool := (List.range 8).all fun R => (List.range 8).all fun C => (List.range 8).all fun H => (List.range 6).all fun m => roomOk (R + 1) (C + 1) (H + 1) m

set_option maxRecDepth 100000 in
theorem rooms_ok : rooms = true := by decide +kernel

end Go.Proofs.YtpdlhnniibjfaaiDoor
