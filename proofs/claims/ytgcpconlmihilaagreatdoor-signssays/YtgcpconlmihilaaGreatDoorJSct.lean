/-
  The contract of ferref.SignCount.
-/
import Derived.Test.YtgcpconlmihilaaGreatDoorDQm
import Derived.Test.YtgcpconlmihilaaGreatDoorZBin
import Derived.Test.YtgcpconlmihilaaGreatDoorJCnu
namespace Go.Proofs.YtgcpconlmihilaaGreatDoor
open Go.RowKit

/-- how many matrices, from one size to the next -/
def asmA : Nat → Nat
  | 0 => 1
  | k + 1 => asmA k * binG (3 * k + 1) k / binG (2 * k) k
def asmAll : Bool := (List.range 30).all fun k => decide (asmA (k + 1) * binG (2 * k) k = asmA k * binG (3 * k + 1) k) && decide (0 < asmA (k + 1)) && decide (asmA (k + 1) < 10 ^ 200) && decide (pL (unN (k + 1) (k + 1)) * asmA (k + 1) = pL (ovN (k + 1) (k + 1))) && decide (0 < binG (3 * k + 1) k) && decide (binG (3 * k + 1) k < 10 ^ 200) && decide (0 < binG (2 * k) k) && decide (binG (2 * k) k < 10 ^ 200) && (unN (k + 1) (k + 1)).all (fun d => decide (0 < d))
theorem asm_all : asmAll = true := by decide +kernel
structure AsmK (k : Nat) : Prop where
  step : asmA (k + 1) * binG (2 * k) k = asmA k * binG (3 * k + 1) k
  pos : 0 < asmA (k + 1)
  lt : asmA (k + 1) < 10 ^ 200
  prod : pL (unN (k + 1) (k + 1)) * asmA (k + 1) = pL (ovN (k + 1) (k + 1))
  u0 : 0 < binG (3 * k + 1) k
  u1 : binG (3 * k + 1) k < 10 ^ 200
  v0 : 0 < binG (2 * k) k
  v1 : binG (2 * k) k < 10 ^ 200
  all : ∀ d ∈ unN (k + 1) (k + 1), 0 < d
theorem asm_k {k : Nat} (hk : k < 30) : AsmK k := by
  have h1 := List.all_eq_true.1 asm_all k (List.mem_range.2 hk)
  simp only [Bool.and_eq_true, decide_eq_true_eq, List.all_eq_true] at h1
  obtain ⟨⟨⟨⟨⟨⟨⟨⟨a1, a2⟩, a3⟩, a4⟩, a5⟩, a6⟩, a7⟩, a8⟩, a9⟩ := h1
  exact ⟨a1, a2, a3, a4, a5, a6, a7, a8, a9⟩
theorem asmA_pos {k : Nat} (hk : k ≤ 30) : 0 < asmA k ∧ asmA k < 10 ^ 200 := by
  cases k with
  | zero => decide +kernel
  | succ k => exact ⟨(asm_k (show k < 30 by omega)).pos, (asm_k (show k < 30 by omega)).lt⟩
theorem asm_low {n : Nat} (n1 : 1 ≤ n) (n30 : n ≤ 30) : pL (lows (unN n n) (ovN n n)) = asmA n := by
  obtain ⟨k, rfl⟩ : ∃ k, n = k + 1 := ⟨n - 1, by omega⟩
  have h := asm_k (show k < 30 by omega)
  have h3 := lows_prod (unN (k + 1) (k + 1)) (ovN (k + 1) (k + 1)) h.all ⟨_, h.prod.symm⟩
  rw [← h.prod, Nat.mul_comm] at h3
  exact Nat.eq_of_mul_eq_mul_left (pL_pos h.all) h3
theorem to_100 {x : Nat} (h : x < 10 ^ 200) : x < 4294967296 ^ 100 := Nat.lt_trans h (by decide +kernel)

set_option maxHeartbeats 8000000 in
set_option maxRecDepth 100000 in
theorem SignCount_at (n : Nat) (w : World) (n30 : n ≤ 30) (n1 : 1 ≤ n) :
    Calls Tryz.prog 7 #[.int .i64 (n : Int)] w fun e w' => e = .returned (.string ⟨(Lib.decDigits (asmA n)).toArray⟩) ∧ Hid (Below w.heap.size w w') := by
  obtain ⟨B, HB0⟩ : ∃ B, Hid (B = w.heap.size) := ⟨_, rfl⟩
  have HN1 : Hid (Calls Tryz.prog 18 #[.int .i64 1, .int .i64 1] w fun e w' => ∃ p, e = .returned (.pointer (some ⟨p, 0, none⟩)) ∧ Hid (LowQ w' B p (asmA 1) 1 ∧ B ≤ p) ∧ Hid (Below B w w')) := by
    refine (NewRat_at 1 1 w (by omega) (by omega) (by omega) (by omega)).mono ?_
    rintro e w' ⟨p, rfl, h1, h2⟩
    rw [HB0.out]
    have e1 : asmA 1 = 1 := by decide +kernel
    refine ⟨p, rfl, ⟨⟨1, 1, ?_, by simpa using h1.out⟩, h1.out.2.1⟩, h2⟩
    rw [e1]
    exact ⟨by simp, by simp⟩
  go_enter Tryz.func7, Tryz.ntmps7
  go_wp2_with fail
  refine HN1.out.mono ?_
  rintro e w1 ⟨p, rfl, HQ1, HB1⟩
  have HBp : Hid (B ≤ p) := HQ1.out.2
  have HL1 : Hid (LowQ w1 B p (asmA (2 - 1)) 1) := HQ1.out.1
  clear HN1 HQ1
  go_wp2
  go_loopw [4] (fun kv wr => ∃ k : Nat, 2 ≤ k ∧ k ≤ n + 1 ∧ kv = .int .i64 (k : Int) ∧ Hid (LowQ wr B p (asmA (k - 1)) 1) ∧ Hid (Below B w wr)) (fun kv _ => n + 1 - (intOf kv).toNat)
  case atStart => exact ⟨2, by omega, by omega, rfl, HL1, HB1⟩
  case round =>
    clear HL1 HB1
    obtain ⟨k, hk2, hk, rfl, HL, HB⟩ := hrel
    by_cases hkn : k ≤ n
    · have hkn' : (k : Int) ≤ (n : Int) := by omega
      obtain ⟨j, HJ⟩ : ∃ j : Nat, Hid (k = j + 1) := ⟨k - 1, by show _ = _; omega⟩
      obtain ⟨a1, HA1⟩ : ∃ a1 : Nat, Hid (a1 = 3 * j + 1) := ⟨_, rfl⟩
      obtain ⟨a2, HA2⟩ : ∃ a2 : Nat, Hid (a2 = 2 * j) := ⟨_, rfl⟩
      have e1 : 3 * (k : Int) - 2 = (a1 : Int) := by have := HJ.out; have := HA1.out; omega
      have e2 : 2 * (k : Int) - 2 = (a2 : Int) := by have := HJ.out; have := HA2.out; omega
      have e3 : (k : Int) - 1 = (j : Int) := by have := HJ.out; omega
      have hk30 : k ≤ 30 := by omega
      have HK := hid_w (asm_k (show j < 30 by have := HJ.out; omega))
      have hsz : B ≤ wr.heap.size := by have := HB.out.size; rw [← HB0.out] at this; exact this
      have HSz : Hid (B ≤ wr.heap.size) := hsz
      obtain ⟨R, HR⟩ : ∃ R, Hid (R = wr.heap.size) := ⟨_, rfl⟩
      obtain ⟨W0, HW0⟩ : ∃ W0, Hid (W0 = (wr.alloc (.cells #[.bool false, .slice none 0 0, .bool false, .slice none 0 0] 48)).alloc (.cells #[.bool false, .slice none 0 0] 46)) := ⟨_, rfl⟩
      have HB2 : Hid (Below wr.heap.size wr W0) := by
        rw [HW0.out]; exact ((Below.refl _ _).alloc (Nat.le_refl _) _).alloc (by simp) _
      have HRr : Hid (W0.heap[R]? = some (.cells #[.bool false, .slice none 0 0, .bool false, .slice none 0 0] 48 (0, 0))) := by
        show _ = _
        rw [HW0.out, HR.out, Below.heap_alloc _ _ _ (by simp)]; exact heap_alloc_new _ _
      have HI1 : Hid (W0.heap[R + 1]? = some (.cells #[.bool false, .slice none 0 0] 46 (0, 0))) := by
        have h := heap_alloc_new (wr.alloc (.cells #[.bool false, .slice none 0 0, .bool false, .slice none 0 0] 48)) (.cells #[.bool false, .slice none 0 0] 46)
        show _ = _
        rw [HW0.out, HR.out]; simpa using h
      have HBg : Hid (binG a1 j = binG (3 * j + 1) j ∧ binG a2 j = binG (2 * j) j) := ⟨by rw [HA1.out], by rw [HA2.out]⟩
      have hW0s : W0.heap.size = R + 2 := by rw [HW0.out, HR.out]; simp
      have HC1 := hid_w (binLoop_at (R + 1) (R + 1) false (.slice none 0 0) a1 j (lesK a1 j) W0 HI1.out (Nat.le_refl _) (by omega) (by have := HA1.out; have := HJ.out; omega) (by have := HA1.out; omega) rfl)
      have HBR : Hid (B ≤ R) := by rw [HR.out]; exact hsz
      clear hsz
      go_wp2_with fail
      rw [← HW0.out, ← HR.out]
      refine HC1.out.mono ?_
      rintro e w2 ⟨rfl, HX2, HP2⟩
      clear HC1
      have HB3 : Hid (Below R wr w2) := by
        have h := HB2.out
        rw [← HR.out] at h
        exact h.trans (HP2.out.below.mono (by omega))
      have HR2 : Hid (w2.heap[R]? = some (.cells #[.bool false, .slice none 0 0, .bool false, .slice none 0 0] 48 (0, 0))) := (HP2.out.below.block R (by omega)).trans HRr.out
      have hs2 : R + 2 ≤ w2.heap.size := by have := HP2.out.below.size; omega
      have HS2 : Hid (R + 2 ≤ w2.heap.size) := hs2
      obtain ⟨I, HI⟩ : ∃ I, Hid (I = w2.heap.size) := ⟨_, rfl⟩
      obtain ⟨W3, HW3⟩ : ∃ W3, Hid (W3 = w2.alloc (.cells #[.bool false, .slice none 0 0] 46)) := ⟨_, rfl⟩
      have HB4 : Hid (Below I w2 W3) := by rw [HW3.out, HI.out]; exact (Below.refl _ _).alloc (Nat.le_refl _) _
      have HI2 : Hid (W3.heap[I]? = some (.cells #[.bool false, .slice none 0 0] 46 (0, 0))) := by rw [HW3.out, HI.out]; exact heap_alloc_new _ _
      have hW3s : W3.heap.size = I + 1 := by rw [HW3.out, HI.out]; simp
      have HC2 := hid_w (binLoop_at I I false (.slice none 0 0) a2 j (lesK a2 j) W3 HI2.out (Nat.le_refl _) (by omega) (by have := HA2.out; have := HJ.out; omega) (by have := HA2.out; omega) rfl)
      clear hs2
      go_wp2_with fail
      rw [← HW3.out, ← HI.out]
      refine HC2.out.mono ?_
      rintro e w4 ⟨rfl, HX4, HP4⟩
      clear HC2
      have HB5 : Hid (Below I w2 w4) := HB4.out.trans (HP4.out.below)
      have HSF : Hid (Calls Tryz.prog 20 #[.pointer (some ⟨R, 0, none⟩), .pointer (some ⟨R + 1, 0, none⟩), .pointer (some ⟨I, 0, none⟩)] w4 fun e w' => e = .returned (.pointer (some ⟨R, 0, none⟩)) ∧ Hid (Qz w' B R (binG a1 j / Nat.gcd (binG a1 j) (binG a2 j)) (binG a2 j / Nat.gcd (binG a1 j) (binG a2 j))) ∧ Hid (Below R wr w')) := by
        have hi : I = w2.heap.size := HI.out
        have h2 : Bz w4 (R + 1) (R + 1) (binG a1 j) := HX2.out.below (by rw [← hi]; exact HB5.out)
        obtain ⟨⟨v1, us1, i1⟩, _⟩ := h2
        obtain ⟨⟨v2, us2, i2⟩, _⟩ := HX4.out
        have hu := HK.out.u0
        have hu1 := HK.out.u1
        have hv := HK.out.v0
        have hv1 := HK.out.v1
        rw [← HBg.out.1] at hu hu1
        rw [← HBg.out.2] at hv hv1
        have l1 := Bz.len i1 hu1
        have l2 := Bz.len i2 hv1
        have hr4 : w4.heap[R]? = some (.cells #[.bool false, .slice none 0 0, .bool false, .slice none 0 0] 48 (0, 0)) := (HB5.out.block R (by have := HS2.out; omega)).trans HR2.out
        refine (RSetFrac_at R (R + 1) I (R + 1) I R _ _ _ _ v1 v2 us1 us2 (binG a1 j) (binG a2 j) w4 i1 i2 hr4 (Nat.le_refl _) hu hv (by omega) (by omega)).mono ?_
        rintro e w' ⟨rfl, r1, r2⟩
        obtain ⟨va', xs', vb', ys', r⟩ := r1.out
        have hg := Nat.gcd_pos_of_pos_left (binG a2 j) hu
        have hs4 : B ≤ w4.heap.size := by have := HB5.out.size; have := HBR.out; have := HS2.out; omega
        refine ⟨rfl, ⟨⟨va', xs', vb', ys', r.row, r.up.mono hs4, r.dn.mono hs4⟩, HBR.out, Nat.div_pos (Nat.gcd_le_left _ hu) hg, Nat.div_pos (Nat.gcd_le_right _ hv) hg⟩, ?_⟩
        exact (HB3.out.trans (HB5.out.mono (by have := HS2.out; omega))).trans r2.out.below
      clear HX2 HP2 HX4 HP4 HB4
      go_wp2_with fail
      refine HSF.out.mono ?_
      rintro e w5 ⟨rfl, HQ5, HB6⟩
      clear HSF
      have HM : Hid (Calls Tryz.prog 19 #[.pointer (some ⟨p, 0, none⟩), .pointer (some ⟨p, 0, none⟩), .pointer (some ⟨R, 0, none⟩)] w5 fun e w' => e = .returned (.pointer (some ⟨p, 0, none⟩)) ∧ Hid (LowQ w' B p (asmA k) 1) ∧ Hid (Below B w w')) := by
        have hL := HL.out.below (by rw [← HR.out]; exact HB6.out)
        have hkj : k - 1 = j := by have := HJ.out; omega
        have hkj1 : k = j + 1 := HJ.out
        rw [hkj] at hL
        rw [hkj1]
        have hp := asmA_pos (k := j) (by omega)
        refine (lowMul (N' := asmA (j + 1)) (D' := 1) hL HQ5.out HBp.out hp.1 (by rw [HBg.out.1]; exact HK.out.u0) HK.out.pos (by rw [HBg.out.1, HBg.out.2, Nat.mul_one, Nat.one_mul]; exact HK.out.step.symm) (to_100 hp.2) (Nat.one_lt_pow (by omega) (by omega)) (by rw [HBg.out.1]; exact to_100 HK.out.u1) (by rw [HBg.out.2]; exact to_100 HK.out.v1)).mono ?_
        rintro e w' ⟨rfl, r1, r2⟩
        exact ⟨rfl, r1, (HB.out.trans (HB6.out.mono HBR.out)).trans r2.out.below⟩
      clear HL HQ5
      go_wp2_with fail
      refine HM.out.mono ?_
      rintro e w6 ⟨rfl, HL6, HB7⟩
      clear HM
      go_wp2
      go_roundw
      case rel => exact ⟨k + 1, by omega, by omega, by go_num, by rw [Nat.add_sub_cancel]; exact HL6, HB7⟩
      case measure => simp [intOf]; omega
    · obtain rfl : k = n + 1 := by omega
      have hkn' : ¬ ((n + 1 : Nat) : Int) ≤ (n : Int) := by omega
      have HF : Hid (Calls Tryz.prog 22 #[.pointer (some ⟨p, 0, none⟩)] wr fun e w' => e = .returned (.string ⟨(Lib.decDigits (asmA n)).toArray⟩) ∧ Hid (Below wr.heap.size wr w')) := by
        have hL := HL.out
        rw [Nat.add_sub_cancel] at hL
        obtain ⟨x, y, h1, h2⟩ := hL
        obtain ⟨rfl, rfl⟩ := h1.whole (q := asmA n) (by omega) (by rw [Nat.one_mul])
        have hlt := to_100 (asmA_pos n30).2
        exact RatString_one p B _ wr h2 hlt (dig_100 hlt h2.2.2.1)
      have hsz : B ≤ wr.heap.size := by have := HB.out.size; rw [← HB0.out] at this; exact this
      go_wp2_with fail
      refine HF.out.mono ?_
      rintro e w9 ⟨rfl, HB9⟩
      go_wp2
      go_ret
      exact ⟨rfl, by rw [← HB0.out]; exact HB.out.trans (HB9.out.mono hsz)⟩
end Go.Proofs.YtgcpconlmihilaaGreatDoor
