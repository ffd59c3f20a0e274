/-
  The contract of ferref.Piles: MACMAHON'S product, fraction by fraction.
-/
import Derived.Test.YtbiakncblkjmhaaGreatDoorARas
import Derived.Test.YtbiakncblkjmhaaGreatDoorARam
import Derived.Test.YtbiakncblkjmhaaGreatDoorDQs
import Derived.Test.YtbiakncblkjmhaaGreatDoorHDec
namespace Go.Proofs.YtbiakncblkjmhaaGreatDoor
open Go.RowKit

theorem dig_100 {x : Nat} (h : x < 4294967296 ^ 100) (h0 : 0 < x) : (dig x).length ≤ 1000000 := by
  obtain ⟨k, hk⟩ : ∃ k, k = 100 := ⟨_, rfl⟩
  rw [← hk] at h
  have h1 : x < 10 ^ (10 * k) := by
    rw [Nat.pow_mul]
    exact Nat.lt_of_lt_of_le h (Nat.pow_le_pow_left (by decide +kernel) _)
  obtain ⟨m, hm⟩ : ∃ m, m + 1 = 10 * k := ⟨10 * k - 1, by omega⟩
  rw [← hm] at h1
  have := (dec_len h1).2
  rw [dig, if_neg (by omega)]
  omega

/-- a fraction in lowest terms, told by a fraction that need not be -/
def LowQ (w : World) (B p N D : Nat) : Prop := ∃ x y, LowT N D x y ∧ Qz w B p x y
theorem LowQ.below {w w' : World} {B p N D : Nat} (h : LowQ w B p N D) (hb : Below w.heap.size w w') : LowQ w' B p N D := by
  obtain ⟨x, y, h1, h2⟩ := h
  exact ⟨x, y, h1, h2.below hb⟩
theorem LowQ.scale {w : World} {B p N D s : Nat} (h : LowQ w B p N D) (hs : 0 < s) : LowQ w B p (N * s) (D * s) := by
  obtain ⟨x, y, h1, h2⟩ := h
  exact ⟨x, y, h1.scale hs, h2⟩
theorem lowMul {W : World} {B p q N D u v N' D' : Nat} (h : LowQ W B p N D) (hq : Qz W B q (u / Nat.gcd u v) (v / Nat.gcd u v)) (hB : B ≤ p) (hN : 0 < N) (hu : 0 < u) (hN' : 0 < N') (e : N * u * D' = N' * (D * v)) (b1 : N < 4294967296 ^ 100) (b2 : D < 4294967296 ^ 100) (b3 : u < 4294967296 ^ 100) (b4 : v < 4294967296 ^ 100) :
    Calls Tryz.prog 28 #[.pointer (some ⟨p, 0, none⟩), .pointer (some ⟨p, 0, none⟩), .pointer (some ⟨q, 0, none⟩)] W fun e w' => e = .returned (.pointer (some ⟨p, 0, none⟩)) ∧ Hid (LowQ w' B p N' D') ∧ Hid (Put W w' B p) := by
  obtain ⟨x, y, h1, h2⟩ := h
  have hl := h1.le
  refine (RMul_at p q B B x y _ _ W h2 hq hB (Nat.lt_of_le_of_lt hl.1 b1) (Nat.lt_of_le_of_lt hl.2 b2) (Nat.lt_of_le_of_lt (Nat.div_le_self _ _) b3) (Nat.lt_of_le_of_lt (Nat.div_le_self _ _) b4)).mono ?_
  rintro e w' ⟨rfl, r1, r2⟩
  exact ⟨rfl, ⟨_, _, h1.mul hN hu hN' e, r1.out⟩, r2⟩

theorem pz_rel (A D s k : Nat) : A * (s + k) * (s + k + 1) * (D * s) = A * (s + k + 1) * (D * s * (s + k)) := by
  generalize s + k + 1 = q
  generalize s + k = p
  simp only [Nat.mul_comm, Nat.mul_left_comm]

set_option maxHeartbeats 8000000 in
set_option maxRecDepth 100000 in
theorem Piles_at (a b c : Nat) (w : World) (ha : a ≤ 20) (hb : b ≤ 20) (hc : c ≤ 20) :
    Calls Tryz.prog 11 #[.int .i64 (a : Int), .int .i64 (b : Int), .int .i64 (c : Int)] w fun e w' => e = .returned (.string ⟨(Lib.decDigits (mN a b c)).toArray⟩) ∧ Hid (Below w.heap.size w w') := by
  obtain ⟨B, HB0⟩ : ∃ B, Hid (B = w.heap.size) := ⟨_, rfl⟩
  have HN1 : Hid (Calls Tryz.prog 27 #[.int .i64 1, .int .i64 1] w fun e w' => ∃ p, e = .returned (.pointer (some ⟨p, 0, none⟩)) ∧ Hid (LowQ w' B p (prP b c 0 0) (prP b 0 0 0) ∧ B ≤ p) ∧ Hid (Below B w w')) := by
    refine (NewRat_at 1 1 w (by omega) (by omega) (by omega) (by omega)).mono ?_
    rintro e w' ⟨p, rfl, h1, h2⟩
    rw [HB0.out]
    refine ⟨p, rfl, ⟨⟨1, 1, ?_, by simpa using h1.out⟩, h1.out.2.1⟩, h2⟩
    rw [prP_zero, prP_zero]
    exact ⟨by simp, by simp⟩
  have HNew : Hid (∀ (W : World) (x y : Nat), x = y + 1 → 1 ≤ y → y ≤ 100 → B ≤ W.heap.size → Calls Tryz.prog 27 #[.int .i64 (x : Int), .int .i64 (y : Int)] W fun e w' => ∃ q, e = .returned (.pointer (some ⟨q, 0, none⟩)) ∧ Hid (Qz w' B q (x / Nat.gcd x y) (y / Nat.gcd x y)) ∧ Hid (Below W.heap.size W w')) := fun W x y hx hy hy2 hB => by
    refine (NewRat_at x y W (by omega) (by omega) (by omega) (by omega)).mono ?_
    rintro e w' ⟨q, rfl, h1, h2⟩
    exact ⟨q, rfl, h1.out.mono hB, h2⟩
  go_enter Tryz.func11, Tryz.ntmps11
  go_wp2_with fail
  refine HN1.out.mono ?_
  rintro e w1 ⟨p, rfl, HQ1, HB1⟩
  have HBp : Hid (B ≤ p) := HQ1.out.2
  have HL1 : Hid (LowQ w1 B p (prP b c 0 0) (prP b 0 0 0)) := HQ1.out.1
  clear HN1 HQ1
  go_wp2
  go_loopw [8] (fun iv wr => ∃ i : Nat, i ≤ a ∧ iv = .int .i64 ((i : Int) + 1) ∧ Hid (LowQ wr B p (prP b c i 0) (prP b 0 i 0)) ∧ Hid (Below B w wr)) (fun iv _ => a + 1 - (intOf iv).toNat)
  case atStart => exact ⟨0, Nat.zero_le _, rfl, HL1, HB1⟩
  case round =>
    clear HL1 HB1
    obtain ⟨i, hi, rfl, HL, HB⟩ := hrel
    by_cases hia : i < a
    · have hia' : (i : Int) + 1 ≤ (a : Int) := by omega
      go_wp2
      go_loopw [9] (fun jv wr => ∃ j : Nat, j ≤ b ∧ jv = .int .i64 ((j : Int) + 1) ∧ Hid (LowQ wr B p (prP b c i j) (prP b 0 i j)) ∧ Hid (Below B w wr)) (fun jv _ => b + 1 - (intOf jv).toNat)
      case atStart => exact ⟨0, Nat.zero_le _, rfl, HL, HB⟩
      case round =>
        clear HL HB
        obtain ⟨j, hj, rfl, HL, HB⟩ := hrel
        by_cases hjb : j < b
        · have hjb' : (j : Int) + 1 ≤ (b : Int) := by omega
          obtain ⟨A, HA⟩ : ∃ A, Hid (A = prP b c i j ∧ 0 < A ∧ A < 4294967296 ^ 80) := ⟨_, rfl, prP_pos _ _ _ _, prP_lt hb hc (by omega) hj⟩
          obtain ⟨D, HD⟩ : ∃ D, Hid (D = prP b 0 i j ∧ 0 < D ∧ D < 4294967296 ^ 80) := ⟨_, rfl, prP_pos _ _ _ _, prP_lt hb (by omega) (by omega) hj⟩
          obtain ⟨s, HS⟩ : ∃ s, Hid (s = i + j + 1) := ⟨_, rfl⟩
          have HL2 : Hid (LowQ wr B p (A * (s + 0)) (D * s)) := by
            rw [HA.out.1, HD.out.1, Nat.add_zero]
            exact HL.out.scale (by rw [HS.out]; omega)
          clear HL
          go_wp2
          go_loopw [10] (fun kv wr => ∃ k : Nat, k ≤ c ∧ kv = .int .i64 ((k : Int) + 1) ∧ Hid (LowQ wr B p (A * (s + k)) (D * s)) ∧ Hid (Below B w wr)) (fun kv _ => c + 1 - (intOf kv).toNat)
          case atStart => exact ⟨0, Nat.zero_le _, rfl, HL2, HB⟩
          case round =>
            clear HL2 HB
            obtain ⟨k, hk, rfl, HL, HB⟩ := hrel
            by_cases hkc : k < c
            · have hkc' : (k : Int) + 1 ≤ (c : Int) := by omega
              obtain ⟨y, HY⟩ : ∃ y : Nat, Hid (y = i + j + k + 1) := ⟨_, rfl⟩
              obtain ⟨x, HX⟩ : ∃ x : Nat, Hid (x = y + 1) := ⟨_, rfl⟩
              have hy : (i : Int) + 1 + ((j : Int) + 1) + ((k : Int) + 1) - 2 = (y : Int) := by rw [HY.out]; omega
              have hx : (i : Int) + 1 + ((j : Int) + 1) + ((k : Int) + 1) - 1 = (x : Int) := by rw [HX.out, HY.out]; omega
              have hsz : B ≤ wr.heap.size := by have := HB.out.size; rw [← HB0.out] at this; exact this
              have HC1 := hid_w (HNew.out wr x y HX.out (by rw [HY.out]; omega) (by rw [HY.out]; omega) hsz)
              have HC2 : Hid (∀ W q, Below wr.heap.size wr W → Qz W B q (x / Nat.gcd x y) (y / Nat.gcd x y) → Calls Tryz.prog 28 #[.pointer (some ⟨p, 0, none⟩), .pointer (some ⟨p, 0, none⟩), .pointer (some ⟨q, 0, none⟩)] W fun e w' => e = .returned (.pointer (some ⟨p, 0, none⟩)) ∧ Hid (LowQ w' B p (A * (s + (k + 1))) (D * s)) ∧ Hid (Below B w w')) := fun W q hW hq => by
                have hs1 : y = s + k := by rw [HY.out, HS.out]; omega
                have q1 := HA.out.2
                have q2 := HD.out.2
                have hsb : s < 4294967296 := by rw [HS.out]; omega
                refine (lowMul (N' := A * (s + (k + 1))) (D' := D * s) (HL.out.below hW) hq HBp.out (Nat.mul_pos q1.1 (by rw [HS.out]; omega)) (by rw [HX.out]; omega) (Nat.mul_pos q1.1 (by omega)) ?_ (up_100 q1.2 (by rw [HS.out]; omega)) (up_100 q2.2 hsb) ?_ ?_).mono ?_
                · rw [HX.out, hs1, ← Nat.add_assoc]; exact pz_rel A D s k
                · exact Nat.lt_of_lt_of_le (show x < 4294967296 ^ 1 by rw [HX.out, HY.out]; omega) (Nat.pow_le_pow_right (by omega) (by omega))
                · exact Nat.lt_of_lt_of_le (show y < 4294967296 ^ 1 by rw [HY.out]; omega) (Nat.pow_le_pow_right (by omega) (by omega))
                · rintro e w' ⟨rfl, r1, r2⟩
                  exact ⟨rfl, r1, (HB.out.trans (hW.mono hsz)).trans r2.out.below⟩
              clear HL HB hsz
              go_wp2_with (first
                | (go_at_call 27; with_reducible (refine HC1.out.mono ?_); rintro e w2 ⟨q, rfl, HQ2, HB2⟩; have HC3 := hid_w (HC2.out w2 q HB2.out HQ2.out))
                | (go_at_call 28; with_reducible (refine HC3.out.mono ?_); rintro e w3 ⟨rfl, HL3, HB3⟩))
              go_roundw
              case rel => exact ⟨k + 1, by omega, by go_num, HL3, HB3⟩
              case measure => simp [intOf]; omega
            · have hkc' : ¬ (k : Int) + 1 ≤ (c : Int) := by omega
              obtain rfl : k = c := by omega
              have HL4 : Hid (LowQ wr B p (prP b k i (j + 1)) (prP b 0 i (j + 1))) := by
                have h := HL.out
                rw [HA.out.1, HD.out.1, HS.out] at h
                rw [prP_succ hjb, prP_succ hjb, show i + j + k + 1 = i + j + 1 + k by omega]
                exact h
              go_wp2
              go_roundw
              case rel => exact ⟨j + 1, by omega, by go_num, HL4, HB⟩
              case measure => simp [intOf]; omega
        · have hjb' : ¬ (j : Int) + 1 ≤ (b : Int) := by omega
          obtain rfl : j = b := by omega
          have HL4 : Hid (LowQ wr B p (prP j c (i + 1) 0) (prP j 0 (i + 1) 0)) := by
            rw [← prP_row, ← prP_row]; exact HL
          go_wp2
          go_roundw
          case rel => exact ⟨i + 1, by omega, by go_num, HL4, HB⟩
          case measure => simp [intOf]; omega
    · have hia' : ¬ (i : Int) + 1 ≤ (a : Int) := by omega
      obtain rfl : i = a := by omega
      have HF : Hid (Calls Tryz.prog 29 #[.pointer (some ⟨p, 0, none⟩)] wr fun e w' => e = .returned (.string ⟨(Lib.decDigits (mN i b c)).toArray⟩) ∧ Hid (Below wr.heap.size wr w')) := by
        obtain ⟨x, y, h1, h2⟩ := HL.out
        obtain ⟨rfl, rfl⟩ := h1.whole (prP_pos b 0 i 0) (prP_mN i b c)
        have hlt : mN i b c < 4294967296 ^ 100 := by
          have h3 := h1.le.1
          exact Nat.lt_of_le_of_lt h3 (Nat.lt_of_lt_of_le (prP_lt0 hb hc ha) (Nat.pow_le_pow_right (by omega) (by omega)))
        exact RatString_one p B _ wr h2 hlt (dig_100 hlt h2.2.2.1)
      have hsz : B ≤ wr.heap.size := by have := HB.out.size; rw [← HB0.out] at this; exact this
      go_wp2_with fail
      refine HF.out.mono ?_
      rintro e w9 ⟨rfl, HB9⟩
      go_wp2
      go_ret
      exact ⟨rfl, by rw [← HB0.out]; exact HB.out.trans (HB9.out.mono hsz)⟩
end Go.Proofs.YtbiakncblkjmhaaGreatDoor
