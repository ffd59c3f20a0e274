/-
  domino.cellAt, lay, firstFree, lie, stand.
-/
import Derived.Test.YtcnmndbckjmliaaDoorNBit
import Derived.Laws.Bits64
namespace Go.Proofs.YtcnmndbckjmliaaDoor
open Go.RowKit

theorem cellAt_at (i j : Nat) (hi : i ≤ 8) (hj : j ≤ 8) (w : World) (x : Nat) (hx : x = if i < 8 ∧ j < 8 then 2 ^ (i * 8 + j) else 0) :
    Calls Tryd.prog 55 #[.int .i64 (i : Int), .int .i64 (j : Int)] w fun e w' => e = .returned (.int .u64 (x : Int)) ∧ w' = w := by
  by_cases h1 : i = 8
  · have hx0 : x = 0 := by rw [hx, if_neg (by omega)]
    clear hx
    subst hx0
    have g1 : (i : Int) ≥ 8 := by omega
    go_enter Tryd.func55, Tryd.ntmps55
    go_wp2
    go_ret
    exact ⟨rfl, rfl⟩
  · by_cases h2 : j = 8
    · have hx0 : x = 0 := by rw [hx, if_neg (by omega)]
      clear hx
      subst hx0
      have g1 : ¬ ((i : Int) ≥ 8) := by omega
      have g2 : (j : Int) ≥ 8 := by omega
      go_enter Tryd.func55, Tryd.ntmps55
      go_wp2
      go_ret
      exact ⟨rfl, rfl⟩
    · obtain ⟨k, hk⟩ : ∃ k : Nat, k = i * 8 + j := ⟨_, rfl⟩
      have hkI : (i : Int) * 8 + (j : Int) = (k : Int) := by omega
      have hk64 : k < 64 := by omega
      have hxp : x = 2 ^ k := by rw [hx, if_pos (by omega), hk]
      have g1 : ¬ ((i : Int) ≥ 8) := by omega
      have g2 : ¬ ((j : Int) ≥ 8) := by omega
      have hx64 : x < 18446744073709551616 := by rw [hxp]; exact Nat.pow_lt_pow_right (by omega) hk64
      have hsh : IntKind.u64.wrap (2 ^ k) = (x : Int) := by
        rw [IntKind.wrap_u64, hxp]
        have h2 : (2 : Nat) ^ k < 18446744073709551616 := by rw [← hxp]; exact hx64
        have e : ((2 : Int) ^ k) = ((2 ^ k : Nat) : Int) := by simp
        rw [e]; omega
      clear hx hk hxp
      go_enter Tryd.func55, Tryd.ntmps55
      go_wp2
      go_ret
      exact ⟨rfl, rfl⟩

theorem or_le {a b : Nat} (ha : a ≤ allC) (hb : b ≤ allC) : a ||| b ≤ allC := by
  have h := Nat.or_lt_two_pow (x := a) (y := b) (n := 64) (by unfold allC at ha; omega) (by unfold allC at hb; omega)
  unfold allC; omega
theorem lay_at (c a b : Nat) (w : World) (hc : c ≤ allC) (ha : a ≤ allC) (hb : b ≤ allC) (o : Bool) (ho : o = (decide (b ≠ 0) && decide (c &&& b = 0))) (d : Nat) (hd : d = c ||| a ||| b) :
    Calls Tryd.prog 57 #[.int .u64 (c : Int), .int .u64 (a : Int), .int .u64 (b : Int)] w fun e w' => e = .returned (.tuple #[.int .u64 (d : Int), .bool o]) ∧ w' = w := by
  have h1 : bits .or .u64 (c : Int) (a : Int) = ((c ||| a : Nat) : Int) := bits_or_u64_nat c a (by unfold allC at hc; omega) (by unfold allC at ha; omega)
  have h2 : bits .or .u64 ((c ||| a : Nat) : Int) (b : Int) = (d : Int) := by
    rw [hd]
    have := or_le hc ha
    exact bits_or_u64_nat _ b (by unfold allC at this; omega) (by unfold allC at hb; omega)
  obtain ⟨e, he⟩ : ∃ e : Nat, e = c ||| a := ⟨_, rfl⟩
  rw [← he] at h1 h2
  obtain ⟨f, hf⟩ : ∃ f : Nat, f = c &&& b := ⟨_, rfl⟩
  have h3 : bits .and .u64 (c : Int) (b : Int) = (f : Int) := by rw [hf]; exact bits_and_u64_nat c b (by unfold allC at hc; omega) (by unfold allC at hb; omega)
  rw [← hf] at ho
  clear hd he hf hc ha
  by_cases hb0 : b = 0
  · subst hb0
    have h2' : bits .or .u64 (e : Int) 0 = (d : Int) := h2
    obtain rfl : o = false := by rw [ho]; rfl
    clear ho h2
    go_enter Tryd.func57, Tryd.ntmps57
    go_wp2
    go_ret2
    exact ⟨rfl, rfl⟩
  · have hbb : ((b : Int) != 0) = true := by simp; omega
    obtain ⟨g, hg⟩ : ∃ g : Bool, ((f : Int) == 0) = g := ⟨_, rfl⟩
    obtain rfl : o = g := by
      rw [ho, ← hg, decide_eq_true hb0, Bool.true_and, Bool.eq_iff_iff]
      simp
    clear ho hb0
    go_enter Tryd.func57, Tryd.ntmps57
    go_wp2
    go_ret2
    exact ⟨rfl, rfl⟩
theorem co_xor (c : Nat) (hc : c ≤ allC) : allC ^^^ c = allC - c := by
  apply Nat.eq_of_testBit_eq
  intro q
  by_cases h : q < 64
  · rw [co_bit c q hc h, Nat.testBit_xor]
    have : allC.testBit q = true := by
      have := Nat.testBit_two_pow_sub_one 64 q
      rw [show 2 ^ 64 - 1 = allC from rfl] at this
      rw [this]; simpa using h
    rw [this]; cases c.testBit q <;> rfl
  · rw [Nat.testBit_lt_two_pow (x := allC ^^^ c), Nat.testBit_lt_two_pow (x := allC - c)]
    · exact Nat.lt_of_lt_of_le (show allC - c < 2 ^ 64 by unfold allC; omega) (Nat.pow_le_pow_right (by omega) (by omega))
    · exact Nat.lt_of_lt_of_le (Nat.xor_lt_two_pow (show allC < 2 ^ 64 by unfold allC; omega) (show c < 2 ^ 64 by unfold allC at hc; omega)) (Nat.pow_le_pow_right (by omega) (by omega))
theorem firstFree_at (c p : Nat) (w : World) (hc : c < allC) (hp : p = fstC c) (hT : TabAt 1 Lib.deBruijn64tab w) :
    Calls Tryd.prog 34 #[.int .u64 (c : Int)] w fun e w' => e = .returned (.tuple #[.int .i64 ((p / 8 : Nat) : Int), .int .i64 ((p % 8 : Nat) : Int)]) ∧ w' = w := by
  have hx : bits .xor .u64 (if IntKind.u64.signed = true then -1 else IntKind.u64.max) (c : Int) = ((allC - c : Nat) : Int) := by
    have h := bits_xor_u64_nat allC c (by unfold allC; omega) (by unfold allC at hc; omega)
    rw [co_xor c (by omega)] at h
    exact h
  have HC := hid_w (TZ64_at (allC - c) (by unfold allC; omega) (by omega) w hT)
  have h64 : p < 64 := by rw [hp]; exact (fst_spec hc).1
  unfold fstC at hp
  rw [← hp] at HC
  obtain ⟨x, hxx⟩ : ∃ x : Nat, x = allC - c := ⟨_, rfl⟩
  rw [← hxx] at hx HC
  obtain ⟨a, ha⟩ : ∃ a : Nat, a = p / 8 := ⟨_, rfl⟩
  obtain ⟨b, hb⟩ : ∃ b : Nat, b = p % 8 := ⟨_, rfl⟩
  have ha8 : a < 8 := by omega
  have hb8 : b < 8 := by omega
  have ha' : (p : Int).tdiv 8 = (a : Int) := by rw [ha, Int.tdiv_eq_ediv_of_nonneg (by omega)]; omega
  have hb' : (p : Int).tmod 8 = (b : Int) := by rw [hb, Int.tmod_eq_emod_of_nonneg (by omega)]; omega
  rw [← ha, ← hb]
  clear hp hxx ha hb hT
  go_enter Tryd.func34, Tryd.ntmps34
  go_wp2_with (go_at_call 56; with_reducible (refine HC.out.mono ?_); rintro e v1 ⟨rfl, rfl⟩)
  go_ret2
  exact ⟨rfl, rfl⟩

end Go.Proofs.YtcnmndbckjmliaaDoor
