/-
  domino.cells.lie, stand.
-/
import Derived.Test.YtcnmndbckjmliaaDoorNCel
namespace Go.Proofs.YtcnmndbckjmliaaDoor
open Go.RowKit

theorem and_pow0 (c n : Nat) : decide (c &&& 2 ^ n = 0) = !c.testBit n := by
  cases h : c.testBit n with
  | true =>
    refine decide_eq_false (fun e => ?_)
    have := congrArg (fun x => Nat.testBit x n) e
    simp [Nat.testBit_and, h] at this
  | false =>
    refine decide_eq_true (Nat.eq_of_testBit_eq (fun q => ?_))
    rw [Nat.testBit_and, Nat.testBit_two_pow, Nat.zero_testBit]
    by_cases e : n = q
    · subst e; rw [h]; rfl
    · simp [e]
theorem pow_pos64 {n : Nat} (h : n < 64) : 2 ^ n ≤ allC ∧ 2 ^ n ≠ 0 := by
  have h1 : 2 ^ n < 2 ^ 64 := Nat.pow_lt_pow_right (by omega) h
  have h2 : 0 < 2 ^ n := Nat.two_pow_pos n
  unfold allC; omega
set_option maxHeartbeats 1000000 in
theorem clie_at (c : Nat) (w : World) (hc : c < allC) (hT : TabAt 1 Lib.deBruijn64tab w) (o : Bool) (ho : o = mayL c) :
    Calls Tryd.prog 35 #[.int .u64 (c : Int)] w fun e w' => ∃ d : Nat, e = .returned (.tuple #[.int .u64 (d : Int), .bool o]) ∧ Hid (o = true → d = lieC c) ∧ w' = w := by
  obtain ⟨p, HP⟩ : ∃ p, Hid (p = fstC c) := ⟨_, rfl⟩
  have HF := hid_w (firstFree_at c p w hc HP.out hT)
  have hp64 : p < 64 := by rw [HP.out]; exact (fst_spec hc).1
  obtain ⟨i, hi⟩ : ∃ i, i = p / 8 := ⟨_, rfl⟩
  obtain ⟨j, hj⟩ : ∃ j, j = p % 8 := ⟨_, rfl⟩
  rw [← hi, ← hj] at HF
  obtain ⟨a, HA⟩ : ∃ a : Nat, Hid (a = 2 ^ p) := ⟨_, rfl⟩
  obtain ⟨b, HBb⟩ : ∃ b : Nat, Hid (b = if j + 1 < 8 then 2 ^ (p + 1) else 0) := ⟨if j + 1 < 8 then 2 ^ (p + 1) else 0, rfl⟩
  have HC1 := hid_w (cellAt_at i j (by omega) (by omega) w a (by rw [HA.out, if_pos (by omega)]; congr 1; omega))
  have HC2 : Hid (Calls Tryd.prog 55 #[.int .i64 (i : Int), .int .i64 ((j : Int) + 1)] w fun e w' => e = .returned (.int .u64 (b : Int)) ∧ w' = w) := by
    have h := cellAt_at i (j + 1) (by omega) (by omega) w b (by
      rw [HBb.out]
      by_cases q : j + 1 < 8
      · rw [if_pos q, if_pos (by omega)]; congr 1; omega
      · rw [if_neg q, if_neg (by omega)])
    rw [show ((j + 1 : Nat) : Int) = (j : Int) + 1 by omega] at h
    exact h
  have ha : a ≤ allC := by rw [HA.out]; exact (pow_pos64 hp64).1
  have hb : b ≤ allC := by
    rw [HBb.out]; split
    · exact (pow_pos64 (by omega)).1
    · exact Nat.zero_le _
  obtain ⟨d, HD⟩ : ∃ d : Nat, Hid (d = c ||| a ||| b) := ⟨_, rfl⟩
  have HL := hid_w (lay_at c a b w (by omega) ha hb o (by
    rw [ho, HBb.out]
    unfold mayL
    rw [← HP.out]
    by_cases q : j + 1 < 8
    · rw [if_pos q, and_pow0, decide_eq_true (pow_pos64 (by omega)).2, decide_eq_true (by omega)]
    · rw [if_neg q, decide_eq_false (by omega)]; simp) d HD.out)
  have HE : Hid (o = true → d = lieC c) := fun h => by
    have hq : j + 1 < 8 := by
      rw [h] at ho
      have := ho.symm
      unfold mayL at this
      simp only [Bool.and_eq_true, decide_eq_true_eq] at this
      rw [← HP.out] at this; omega
    rw [HD.out, HA.out, HBb.out, if_pos hq]
    unfold lieC addC
    rw [← HP.out]
  have hw : IntKind.i64.wrap ((j : Int) + 1) = (j : Int) + 1 := by rw [IntKind.wrap_i64]; omega
  have hj8 : j < 8 := by omega
  have hi8 : i < 8 := by omega
  clear hi hj ho ha hb hp64 hT hc
  go_enter Tryd.func35, Tryd.ntmps35
  go_wp2_with (first | (go_at_call 34; with_reducible (refine HF.out.mono ?_); rintro e v1 ⟨rfl, rfl⟩) | (go_at_call 55; with_reducible (refine HC1.out.mono ?_); rintro e v2 ⟨rfl, rfl⟩) | (go_at_call 55; with_reducible (refine HC2.out.mono ?_); rintro e v3 ⟨rfl, rfl⟩) | (go_at_call 57; with_reducible (refine HL.out.mono ?_); rintro e v4 ⟨rfl, rfl⟩))
  go_ret2
  exact ⟨d, rfl, HE, rfl⟩
set_option maxHeartbeats 1000000 in
theorem cstand_at (c : Nat) (w : World) (hc : c < allC) (hT : TabAt 1 Lib.deBruijn64tab w) (o : Bool) (ho : o = mayS c) :
    Calls Tryd.prog 37 #[.int .u64 (c : Int)] w fun e w' => ∃ d : Nat, e = .returned (.tuple #[.int .u64 (d : Int), .bool o]) ∧ Hid (o = true → d = staC c) ∧ w' = w := by
  obtain ⟨p, HP⟩ : ∃ p, Hid (p = fstC c) := ⟨_, rfl⟩
  have HF := hid_w (firstFree_at c p w hc HP.out hT)
  have hp64 : p < 64 := by rw [HP.out]; exact (fst_spec hc).1
  obtain ⟨i, hi⟩ : ∃ i, i = p / 8 := ⟨_, rfl⟩
  obtain ⟨j, hj⟩ : ∃ j, j = p % 8 := ⟨_, rfl⟩
  rw [← hi, ← hj] at HF
  obtain ⟨a, HA⟩ : ∃ a : Nat, Hid (a = 2 ^ p) := ⟨_, rfl⟩
  obtain ⟨b, HBb⟩ : ∃ b : Nat, Hid (b = if i + 1 < 8 then 2 ^ (p + 8) else 0) := ⟨if i + 1 < 8 then 2 ^ (p + 8) else 0, rfl⟩
  have HC1 := hid_w (cellAt_at i j (by omega) (by omega) w a (by rw [HA.out, if_pos (by omega)]; congr 1; omega))
  have HC2 : Hid (Calls Tryd.prog 55 #[.int .i64 ((i : Int) + 1), .int .i64 (j : Int)] w fun e w' => e = .returned (.int .u64 (b : Int)) ∧ w' = w) := by
    have h := cellAt_at (i + 1) j (by omega) (by omega) w b (by
      rw [HBb.out]
      by_cases q : i + 1 < 8
      · rw [if_pos q, if_pos (by omega)]; congr 1; omega
      · rw [if_neg q, if_neg (by omega)])
    rw [show ((i + 1 : Nat) : Int) = (i : Int) + 1 by omega] at h
    exact h
  have ha : a ≤ allC := by rw [HA.out]; exact (pow_pos64 hp64).1
  have hb : b ≤ allC := by
    rw [HBb.out]; split
    · exact (pow_pos64 (by omega)).1
    · exact Nat.zero_le _
  obtain ⟨d, HD⟩ : ∃ d : Nat, Hid (d = c ||| a ||| b) := ⟨_, rfl⟩
  have HL := hid_w (lay_at c a b w (by omega) ha hb o (by
    rw [ho, HBb.out]
    unfold mayS
    rw [← HP.out]
    by_cases q : i + 1 < 8
    · rw [if_pos q, and_pow0, decide_eq_true (pow_pos64 (by omega)).2, decide_eq_true (by omega)]
    · rw [if_neg q, decide_eq_false (by omega)]; simp) d HD.out)
  have HE : Hid (o = true → d = staC c) := fun h => by
    have hq : i + 1 < 8 := by
      rw [h] at ho
      have := ho.symm
      unfold mayS at this
      simp only [Bool.and_eq_true, decide_eq_true_eq] at this
      rw [← HP.out] at this; omega
    rw [HD.out, HA.out, HBb.out, if_pos hq]
    unfold staC addC
    rw [← HP.out]
  have hw : IntKind.i64.wrap ((i : Int) + 1) = (i : Int) + 1 := by rw [IntKind.wrap_i64]; omega
  have hj8 : j < 8 := by omega
  have hi8 : i < 8 := by omega
  clear hi hj ho ha hb hp64 hT hc
  go_enter Tryd.func37, Tryd.ntmps37
  go_wp2_with (first | (go_at_call 34; with_reducible (refine HF.out.mono ?_); rintro e v1 ⟨rfl, rfl⟩) | (go_at_call 55; with_reducible (refine HC1.out.mono ?_); rintro e v2 ⟨rfl, rfl⟩) | (go_at_call 55; with_reducible (refine HC2.out.mono ?_); rintro e v3 ⟨rfl, rfl⟩) | (go_at_call 57; with_reducible (refine HL.out.mono ?_); rintro e v4 ⟨rfl, rfl⟩))
  go_ret2
  exact ⟨d, rfl, HE, rfl⟩

end Go.Proofs.YtcnmndbckjmliaaDoor
