/-
  The text of a number, group by group, is its decimal digits (split off HDec).
  The text of groups of nine digits is the number's own; what digits tell.
-/
import Derived.Test.YtbiakncblkjmhaaGreatDoorHTxt
import Derived.Test.YtbiakncblkjmhaaGreatDoorASet
namespace Go.Proofs.YtbiakncblkjmhaaGreatDoor
open Go.RowKit

theorem dec_step {y : Nat} (h : ¬ y < 10) : Lib.decDigits y = Lib.decDigits (y / 10) ++ [UInt8.ofNat (48 + y % 10)] := by
  rw [Lib.decDigits, dif_neg h]
/-- k digits of r. -/
def padK : Nat → Nat → List UInt8
  | 0, _ => []
  | k + 1, r => padK k (r / 10) ++ [UInt8.ofNat (48 + r % 10)]
theorem dec_join : ∀ (k q r : Nat), 0 < q → r < 10 ^ k → Lib.decDigits (q * 10 ^ k + r) = Lib.decDigits q ++ padK k r
  | 0, q, r, _, hr => by
    have : r = 0 := by simpa using hr
    subst this; simp [padK]
  | k + 1, q, r, hq, hr => by
    have h1 : (q * 10 ^ (k + 1) + r) / 10 = q * 10 ^ k + r / 10 := by
      rw [Nat.pow_succ, ← Nat.mul_assoc]; omega
    have h2 : (q * 10 ^ (k + 1) + r) % 10 = r % 10 := by
      rw [Nat.pow_succ, ← Nat.mul_assoc]; omega
    have h3 : 1 ≤ 10 ^ k := Nat.one_le_pow _ _ (by omega)
    have h4 : 1 * 10 ^ k ≤ q * 10 ^ k := Nat.mul_le_mul_right _ hq
    rw [dec_step (by rw [Nat.pow_succ, ← Nat.mul_assoc]; omega), h1, h2, dec_join k q (r / 10) hq (by rw [Nat.pow_succ] at hr; omega), padK, List.append_assoc]
theorem rep_succ (n : Nat) : Lib.repeatL [(48 : UInt8)] n ++ [48] = Lib.repeatL [48] (n + 1) := by
  induction n with
  | zero => rfl
  | succ n ih => simp [Lib.repeatL] at ih ⊢; exact ih
theorem padK_zero : ∀ k, padK k 0 = Lib.repeatL [(48 : UInt8)] k
  | 0 => rfl
  | k + 1 => by rw [padK, padK_zero k, ← rep_succ]; rfl
theorem padK_dec : ∀ (k r : Nat), r < 10 ^ (k + 1) → padK (k + 1) r = Lib.repeatL [(48 : UInt8)] (k + 1 - (Lib.decDigits r).length) ++ Lib.decDigits r
  | 0, r, h => by
    rw [Lib.decDigits_one (by simpa using h)]
    simp [padK, Lib.repeatL]
    congr 1; omega
  | k + 1, r, h => by
    by_cases h10 : r < 10
    · rw [padK, Nat.div_eq_of_lt h10, padK_zero, Lib.decDigits_one h10, Nat.mod_eq_of_lt h10]; rfl
    · rw [padK, padK_dec k (r / 10) (by rw [Nat.pow_succ] at h; omega), dec_step h10, List.append_assoc]
      congr 2
      simp
theorem txtG_shift (f : Nat → Nat) (n : Nat) : ∀ k, k ≤ n → txtG f (n + 1) k = txtG (fun i => f (i + 1)) n k
  | 0, _ => rfl
  | k + 1, h => by
    rw [txtG, txtG, txtG_shift f n k (by omega)]
    congr 1
    unfold grpT
    rw [show n + 1 - 1 - k = n - 1 - k + 1 by omega]
    by_cases c : n - 1 - k + 1 < n
    · rw [if_pos (by omega), if_pos c]
    · rw [if_neg (by omega), if_neg c]
theorem numT_dec (x : Nat) : numT x = Lib.decDigits x := by
  induction x using Nat.strongRecOn with
  | _ x IH =>
    by_cases hx : x < 1000000000
    · exact numT_small hx
    · obtain ⟨k, rfl⟩ : ∃ k, x = k + 1 := ⟨x - 1, by omega⟩
      have hle : (k + 1) / 1000000000 ≤ k := by omega
      have hc := can_ngr k ((k + 1) / 1000000000) hle
      obtain ⟨n, hn⟩ : ∃ n, ngr k ((k + 1) / 1000000000) = n + 1 := by
        rcases Nat.eq_zero_or_pos (ngr k ((k + 1) / 1000000000)) with e | e
        · rw [e] at hc
          have := hc.val
          simp [valF] at this
          omega
        · exact ⟨_, (Nat.succ_pred_eq_of_pos e).symm⟩
      have ht := hc.text
      rw [IH _ (by omega), hn, textG, if_neg (by omega)] at ht
      unfold numT
      rw [ngr, if_neg (by omega), hn, textG, if_neg (by omega), txtG, txtG_shift _ _ _ (Nat.le_refl _), show (fun i => dgt (k + 1) (i + 1)) = dgt ((k + 1) / 1000000000) from funext fun i => dgt_succ _ i, ht]
      have hj := dec_join 9 ((k + 1) / 1000000000) ((k + 1) % 1000000000) (by omega) (by omega)
      rw [show (k + 1) / 1000000000 * 10 ^ 9 + (k + 1) % 1000000000 = k + 1 by omega] at hj
      rw [hj]
      congr 1
      rw [padK_dec 8 _ (by omega)]
      unfold grpT
      rw [if_pos (by omega), show n + 1 + 1 - 1 - (n + 1) = 0 by omega]
      have : dgt (k + 1) 0 = (k + 1) % 1000000000 := by unfold dgt; simp
      rw [this]
end Go.Proofs.YtbiakncblkjmhaaGreatDoor

namespace Go.Proofs.YtbiakncblkjmhaaGreatDoor
open Go.RowKit

theorem digit_ofNat {y : Nat} (h : y < 10) : (UInt8.ofNat (48 + y)).toNat = 48 + y := by
  rw [UInt8.toNat_ofNat']; omega
theorem dec_val (x : Nat) : dvl (Lib.decDigits x) = x := by
  induction x using Nat.strongRecOn with
  | _ x IH =>
    by_cases h : x < 10
    · rw [Lib.decDigits_one h]
      have := dvl_snoc [] (UInt8.ofNat (48 + x))
      rw [digit_ofNat h] at this
      simpa [dvl] using this
    · rw [dec_step h, dvl_snoc, IH _ (by omega), digit_ofNat (by omega)]; omega
theorem dec_digits (x : Nat) : ∀ c ∈ Lib.decDigits x, 48 ≤ c.toNat ∧ c.toNat ≤ 57 := by
  induction x using Nat.strongRecOn with
  | _ x IH =>
    by_cases h : x < 10
    · rw [Lib.decDigits_one h]
      intro c hc
      rw [List.mem_singleton] at hc
      rw [hc, digit_ofNat h]; omega
    · rw [dec_step h]
      intro c hc
      rcases List.mem_append.1 hc with q | q
      · exact IH _ (by omega) c q
      · rw [List.mem_singleton] at q
        rw [q, digit_ofNat (by omega)]; omega
theorem dec_len {x k : Nat} (h : x < 10 ^ (k + 1)) : 0 < (Lib.decDigits x).length ∧ (Lib.decDigits x).length ≤ k + 1 := by
  constructor
  · by_cases q : x < 10
    · rw [Lib.decDigits_one q]; simp
    · rw [dec_step q]; simp
  · rw [Lib.decDigits_length]; exact nDig_pow k x h

end Go.Proofs.YtbiakncblkjmhaaGreatDoor
