/-
  The text of a number, by its groups.
-/
import Derived.Test.YtlghldfolfmoeaaDoorWTxt
namespace Go.Proofs.YtlghldfolfmoeaaDoor
open Go.RowKit

theorem valF_shift (f : Nat → Nat) : ∀ n, valF f (n + 1) = f 0 + 1000000000 * valF (fun i => f (i + 1)) n
  | 0 => by simp [valF]
  | n + 1 => by
    rw [valF, valF_shift f n, valF, Nat.mul_add, Nat.pow_succ, Nat.add_assoc]
    congr 2
    ac_rfl
/-- How many groups. -/
def ngr : Nat → Nat → Nat
  | 0, _ => 0
  | k + 1, x => if x = 0 then 0 else ngr k (x / 1000000000) + 1
def dgt (x i : Nat) : Nat := x / 1000000000 ^ i % 1000000000
theorem dgt_succ (x i : Nat) : dgt x (i + 1) = dgt (x / 1000000000) i := by
  unfold dgt; rw [Nat.div_div_eq_div_mul, Nat.pow_succ, Nat.mul_comm]
theorem can_ngr : ∀ k x, x ≤ k → Can (ngr k x) (dgt x) x
  | 0, x, h => by
    obtain rfl : x = 0 := by omega
    exact ⟨fun j hj => by simp [ngr] at hj, fun h => by simp [ngr] at h, rfl⟩
  | k + 1, x, h => by
    rw [ngr]
    by_cases e : x = 0
    · rw [if_pos e, e]; exact ⟨fun j hj => by omega, fun h => by omega, rfl⟩
    · rw [if_neg e]
      have ih := can_ngr k (x / 1000000000) (by have := Nat.div_lt_self (show 0 < x by omega) (show 1 < 1000000000 by omega); omega)
      refine ⟨fun j _ => Nat.mod_lt _ (by omega), fun _ => ?_, ?_⟩
      · rw [Nat.add_sub_cancel]
        rcases Nat.eq_zero_or_pos (ngr k (x / 1000000000)) with q | q
        · rw [q]
          have hv := ih.val
          rw [q, valF] at hv
          unfold dgt
          have := Nat.mod_add_div x 1000000000
          simp; omega
        · obtain ⟨m, hm⟩ : ∃ m, ngr k (x / 1000000000) = m + 1 := ⟨_, (Nat.succ_pred_eq_of_pos q).symm⟩
          rw [hm, dgt_succ]
          have := ih.top q
          rw [hm, Nat.add_sub_cancel] at this
          exact this
      · rw [valF_shift, show (fun i => dgt x (i + 1)) = dgt (x / 1000000000) from funext fun i => dgt_succ x i, ih.val]
        unfold dgt
        have := Nat.mod_add_div x 1000000000
        simp; omega
/-- The text of x. -/
def numT (x : Nat) : List UInt8 := textG (dgt x) (ngr x x)
theorem txtG_congr {f g : Nat → Nat} {n : Nat} (h : ∀ i, i < n → f i = g i) : ∀ k, k ≤ n → txtG f n k = txtG g n k
  | 0, _ => rfl
  | k + 1, hk => by rw [txtG, txtG, txtG_congr h k (by omega), grpT, grpT, h _ (by omega)]
theorem Can.text {n : Nat} {f : Nat → Nat} {x : Nat} (h : Can n f x) : textG f n = numT x := by
  obtain ⟨e1, e2⟩ := h.same (can_ngr x x (Nat.le_refl _))
  unfold numT textG
  rw [← e1]
  split
  · rfl
  · exact txtG_congr e2 n (Nat.le_refl _)
theorem dec_zero : Lib.decDigits 0 = [48] := by rw [Lib.decDigits_one (by omega)]; rfl
theorem numT_small {x : Nat} (h : x < 1000000000) : numT x = Lib.decDigits x := by
  rcases Nat.eq_zero_or_pos x with e | e
  · subst e
    rw [← (can_zero).text, dec_zero]; rfl
  · have hc : Can 1 (fun _ => x) x := ⟨fun _ _ => h, fun _ => by show x ≠ 0; omega, by simp [valF]⟩
    rw [← hc.text]
    simp [textG, txtG, grpT]
theorem numT_ne {x : Nat} (h : x ≠ 0) : numT x ≠ [48] := by
  by_cases hx : x < 1000000000
  · rw [numT_small hx]
    intro e
    have hl : (Lib.decDigits x).length = 1 := by rw [e]; rfl
    by_cases h10 : x < 10
    · rw [Lib.decDigits_one h10] at e
      have e2 := congrArg (fun l : List UInt8 => (l.headD 0).toNat) e
      simp at e2
      omega
    · rw [Lib.decDigits_length, Lib.nDigits_big h10] at hl
      have := Lib.nDigits_pos (x / 10)
      omega
  · have hc := can_ngr x x (Nat.le_refl _)
    have hn : 1 < ngr x x := by
      rcases Nat.lt_or_ge 1 (ngr x x) with q | q
      · exact q
      · have := hc.lt
        have := Nat.pow_le_pow_right (show 0 < 1000000000 by omega) q
        omega
    intro e
    have hl : (numT x).length = 1 := by rw [e]; rfl
    unfold numT textG at hl
    rw [if_neg (by omega)] at hl
    obtain ⟨m, hm⟩ : ∃ m, ngr x x = m + 2 := ⟨ngr x x - 2, by omega⟩
    rw [hm] at hl
    rw [txtG, txtG, List.length_append, List.length_append] at hl
    have h1 : 1 ≤ (grpT (dgt x) (m + 2) (m + 2 - 1 - (m + 1))).length := by
      unfold grpT; rw [List.length_append]; have := Lib.nDigits_pos (dgt x (m + 2 - 1 - (m + 1))); rw [Lib.decDigits_length]; omega
    have h2 : 1 ≤ (grpT (dgt x) (m + 2) (m + 2 - 1 - m)).length := by
      unfold grpT; rw [List.length_append]; have := Lib.nDigits_pos (dgt x (m + 2 - 1 - m)); rw [Lib.decDigits_length]; omega
    omega

end Go.Proofs.YtlghldfolfmoeaaDoor
