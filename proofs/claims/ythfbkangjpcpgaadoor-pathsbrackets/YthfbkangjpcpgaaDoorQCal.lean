/-
  What the law PathsCycle calls, in one form each; ranks there and back.
-/
import Derived.Test.YthfbkangjpcpgaaDoorQRnk
import Derived.Test.YthfbkangjpcpgaaDoorQUnr
import Derived.Test.YthfbkangjpcpgaaDoorQCnt
import Derived.Test.YthfbkangjpcpgaaDoorQTrn
namespace Go.Proofs.YthfbkangjpcpgaaDoor
open Go.RowKit

theorem lsB_is : ∀ x y : List UInt8, Op.bytesLess x y = lsB x y := by
  intro x y
  induction x generalizing y with
  | nil => cases y <;> rfl
  | cons a x ih =>
    cases y with
    | nil => rfl
    | cons b y => rw [Op.bytesLess, lsB, ih]

/-- The code of Turns, and its places. -/
def tuC (s : ByteArray) : Int := if 60 < s.size then 2 else if allB s.data.toList = true then 0 else 1
def tuL (s : ByteArray) : List Int := if tuC s = 0 then plN s.data.toList s.size else []
theorem tuC_zero {s : ByteArray} : tuC s = 0 ↔ s.size ≤ 60 ∧ allB s.data.toList = true := by
  unfold tuC
  by_cases h : 60 < s.size
  · rw [if_pos h]; constructor
    · intro q; cases q
    · rintro ⟨q, _⟩; omega
  · rw [if_neg h]
    by_cases h2 : allB s.data.toList = true
    · rw [if_pos h2]; exact ⟨fun _ => ⟨by omega, h2⟩, fun _ => rfl⟩
    · rw [if_neg h2]; constructor
      · intro q; cases q
      · rintro ⟨_, q⟩; exact absurd q h2
theorem Turns_all (s : ByteArray) (w : World) :
    Calls Tryd.prog 10 #[.string s] w fun e w' => ∃ v, e = .returned (.tuple #[v, .int .i64 (tuC s)]) ∧ Hid (Owns w' w.heap.size v (tuL s)) ∧ Hid (Below w.heap.size w w') := by
  by_cases h : tuC s = 0
  · obtain ⟨h1, h2⟩ := tuC_zero.1 h
    refine (Turns_ok s h1 h2 w).mono ?_
    rintro e w' ⟨v, rfl, h3, h4⟩
    exact ⟨v, by rw [h], by unfold tuL; rw [if_pos h]; exact h3, h4⟩
  · have hL : tuL s = [] := by unfold tuL; rw [if_neg h]
    rw [hL]
    by_cases h1 : 60 < s.size
    · refine (Turns_long s h1 w).mono ?_
      rintro e w' ⟨rfl, rfl⟩
      exact ⟨.slice none 0 0, by unfold tuC; rw [if_pos h1], World.ownsRow_nil _ _ _ _, Below.refl _ _⟩
    · have h2 : allB s.data.toList = false := by
        cases hb : allB s.data.toList with
        | true => exact absurd (tuC_zero.2 ⟨by omega, hb⟩) h
        | false => rfl
      refine (Turns_bad s (by omega) h2 w).mono ?_
      rintro e w' ⟨rfl, rfl⟩
      exact ⟨.slice none 0 0, by unfold tuC; rw [if_neg h1, if_neg (by rw [h2]; simp)], World.ownsRow_nil _ _ _ _, Below.refl _ _⟩

/-- .. of Unrank. -/
def unB (n k : Int) : Bool := decide (0 ≤ n) && decide (n ≤ 30) && decide (0 ≤ k) && decide (k < (eW (2 * n.toNat) 0 : Int))
def unC (n k : Int) : Int := if unB n k = true then 0 else 1
def unS (n k : Int) : ByteArray := if unB n k = true then ⟨(ur (2 * n.toNat) 0 k.toNat).toArray⟩ else ⟨#[]⟩
theorem unB_iff {n k : Int} : unB n k = true ↔ 0 ≤ n ∧ n ≤ 30 ∧ 0 ≤ k ∧ k < (eW (2 * n.toNat) 0 : Int) := by
  unfold unB
  simp only [Bool.and_eq_true, decide_eq_true_eq]
  constructor
  · rintro ⟨⟨⟨a, b⟩, c⟩, d⟩; exact ⟨a, b, c, d⟩
  · rintro ⟨a, b, c, d⟩; exact ⟨⟨⟨a, b⟩, c⟩, d⟩
theorem Unrank_all (n k : Int) (w : World) :
    Calls Tryd.prog 6 #[.int .i64 n, .int .i64 k] w fun e w' => e = .returned (.tuple #[.string (unS n k), .int .i64 (unC n k)]) ∧ Hid (Below w.heap.size w w') := by
  by_cases hU : unB n k = true
  · obtain ⟨a, b, c, d⟩ := unB_iff.1 hU
    unfold unS unC
    rw [if_pos hU, if_pos hU]
    obtain ⟨p, rfl⟩ : ∃ p : Nat, n = (p : Int) := ⟨n.toNat, by omega⟩
    obtain ⟨q, rfl⟩ : ∃ q : Nat, k = (q : Int) := ⟨k.toNat, by omega⟩
    rw [Int.toNat_natCast] at d ⊢
    exact Unrank_ok p q (by omega) (by omega) w
  · unfold unS unC
    rw [if_neg hU, if_neg hU]
    by_cases h1 : n < 0 ∨ 30 < n
    · refine (Unrank_out n k h1 w).mono ?_
      rintro e w' ⟨rfl, rfl⟩
      exact ⟨rfl, Below.refl _ _⟩
    · obtain ⟨p, rfl⟩ : ∃ p : Nat, n = (p : Int) := ⟨n.toNat, by omega⟩
      refine Unrank_none p k (by omega) ?_ w
      rcases Int.lt_or_le k 0 with h2 | h2
      · exact Or.inl h2
      · refine Or.inr ?_
        rcases Int.lt_or_le k (eW (2 * p) 0 : Int) with h3 | h3
        · exact absurd (unB_iff.2 ⟨by omega, by omega, h2, by rw [Int.toNat_natCast]; exact h3⟩) hU
        · exact h3

/-- .. of Rank. -/
def raC (s : ByteArray) : Int := if 60 < s.size then 2 else if rt 0 s.data.toList = true then 0 else 1
def raV (s : ByteArray) : Int := if raC s = 0 then (rk 0 s.data.toList : Int) else 0
theorem raC_zero {s : ByteArray} : raC s = 0 ↔ s.size ≤ 60 ∧ rt 0 s.data.toList = true := by
  unfold raC
  by_cases h : 60 < s.size
  · rw [if_pos h]; constructor
    · intro q; cases q
    · rintro ⟨q, _⟩; omega
  · rw [if_neg h]
    by_cases h2 : rt 0 s.data.toList = true
    · rw [if_pos h2]; exact ⟨fun _ => ⟨by omega, h2⟩, fun _ => rfl⟩
    · rw [if_neg h2]; constructor
      · intro q; cases q
      · rintro ⟨_, q⟩; exact absurd q h2
theorem Rank_all (s : ByteArray) (w : World) :
    Calls Tryd.prog 9 #[.string s] w fun e w' => e = .returned (.tuple #[.int .i64 (raV s), .int .i64 (raC s)]) ∧ Hid (Below w.heap.size w w') := by
  by_cases h : raC s = 0
  · obtain ⟨h1, h2⟩ := raC_zero.1 h
    unfold raV
    rw [if_pos h, h]
    exact Rank_ok s h1 h2 w
  · unfold raV
    rw [if_neg h]
    by_cases h1 : 60 < s.size
    · refine (Rank_long s h1 w).mono ?_
      rintro e w' ⟨rfl, rfl⟩
      exact ⟨by unfold raC; rw [if_pos h1], Below.refl _ _⟩
    · have h2 : rt 0 s.data.toList = false := by
        cases hb : rt 0 s.data.toList with
        | true => exact absurd (raC_zero.2 ⟨by omega, hb⟩) h
        | false => rfl
      refine (Rank_wrong s (by omega) h2 w).mono ?_
      rintro e w' ⟨rfl, rfl⟩
      exact ⟨by unfold raC; rw [if_neg h1, if_neg (by rw [h2]; simp)], Below.refl _ _⟩

/-- There and back. -/
theorem un_ra {s : ByteArray} (h : raC s = 0) : unS ((s.size / 2 : Nat) : Int) (raV s) = s ∧ unC ((s.size / 2 : Nat) : Int) (raV s) = 0 := by
  obtain ⟨h1, h2⟩ := raC_zero.1 h
  have h3 := rt_even _ _ h2
  have hl : s.data.toList.length = s.size := by simp
  have h4 := rk_lt _ _ h2
  have e : 2 * (s.size / 2) = s.data.toList.length := by omega
  have hv : raV s = (rk 0 s.data.toList : Int) := by unfold raV; rw [if_pos h]
  have hU : unB ((s.size / 2 : Nat) : Int) (raV s) = true := unB_iff.2 ⟨by omega, by omega, by rw [hv]; omega, by rw [hv, Int.toNat_natCast, e]; omega⟩
  unfold unS unC
  rw [if_pos hU, if_pos hU, hv, Int.toNat_natCast, Int.toNat_natCast, e, ur_rk _ _ h2]
  exact ⟨rfl, rfl⟩
theorem ra_un {n k : Int} (h : unC n k = 0) : raC (unS n k) = 0 ∧ raV (unS n k) = k := by
  have hU : unB n k = true := by
    cases hb : unB n k with
    | true => rfl
    | false => unfold unC at h; rw [hb] at h; cases h
  obtain ⟨a, b, c, d⟩ := unB_iff.1 hU
  have hk := ur_ok (2 * n.toNat) 0 k.toNat (by omega)
  have hs : unS n k = ⟨(ur (2 * n.toNat) 0 k.toNat).toArray⟩ := by unfold unS; rw [if_pos hU]
  have h0 : raC (unS n k) = 0 := by
    rw [raC_zero, hs]
    refine ⟨?_, hk.1⟩
    show (ur (2 * n.toNat) 0 k.toNat).toArray.size ≤ 60
    rw [List.size_toArray, ur_len]; omega
  refine ⟨h0, ?_⟩
  unfold raV
  rw [if_pos h0, hs]
  show (rk 0 (ur (2 * n.toNat) 0 k.toNat) : Int) = k
  rw [hk.2]; omega
theorem un_less {n k : Int} (h : unC n k = 0) (h2 : unC n (k + 1) = 0) : lsB (unS n k).data.toList (unS n (k + 1)).data.toList = true := by
  have hU : unB n k = true := by
    cases hb : unB n k with
    | true => rfl
    | false => unfold unC at h; rw [hb] at h; cases h
  have hU2 : unB n (k + 1) = true := by
    cases hb : unB n (k + 1) with
    | true => rfl
    | false => unfold unC at h2; rw [hb] at h2; cases h2
  obtain ⟨a, b, c, d⟩ := unB_iff.1 hU
  obtain ⟨_, _, _, d2⟩ := unB_iff.1 hU2
  unfold unS
  rw [if_pos hU, if_pos hU2]
  exact ur_less (2 * n.toNat) 0 k.toNat (k + 1).toNat (by omega) (by omega)
theorem un_bd {n k : Int} (h : unC n k = 0) : 0 ≤ k ∧ k ≤ 1152921504606846976 := by
  have hU : unB n k = true := by
    cases hb : unB n k with
    | true => rfl
    | false => unfold unC at h; rw [hb] at h; cases h
  obtain ⟨a, b, c, d⟩ := unB_iff.1 hU
  have := Nat.le_trans (eW_le (2 * n.toNat) 0) (Nat.pow_le_pow_right (by omega) (by omega : 2 * n.toNat ≤ 60))
  have e : (2 : Nat) ^ 60 = 1152921504606846976 := by decide
  omega

end Go.Proofs.YthfbkangjpcpgaaDoor
