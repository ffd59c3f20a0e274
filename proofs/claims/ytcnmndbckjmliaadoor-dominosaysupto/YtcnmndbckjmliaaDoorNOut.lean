/-
  domino.sheet.outside.
-/
import Derived.Test.YtcnmndbckjmliaaDoorNCls
import Derived.Test.YtcnmndbckjmliaaDoorNDi
namespace Go.Proofs.YtcnmndbckjmliaaDoor
open Go.RowKit

theorem bits_andNot_u64_nat (a b : Nat) (ha : a ≤ allC) (hb : b ≤ allC) : bits .andNot .u64 (a : Int) (b : Int) = ((a &&& (allC - b) : Nat) : Int) := by
  have hx : a &&& (allC - b) < 2 ^ 64 := Nat.and_lt_two_pow _ (by unfold allC; omega)
  have h1 : (BitVec.ofInt 64 (a : Int)).toNat = a := by
    rw [BitVec.ofInt_natCast, BitVec.toNat_ofNat]; unfold allC at ha; exact Nat.mod_eq_of_lt (by omega)
  have h2 : (BitVec.ofInt 64 (b : Int)).toNat = b := by
    rw [BitVec.ofInt_natCast, BitVec.toNat_ofNat]; unfold allC at hb; exact Nat.mod_eq_of_lt (by omega)
  show IntKind.u64.wrap ((BitVec.ofInt 64 (a : Int) &&& ~~~ BitVec.ofInt 64 (b : Int)).toNat : Int) = _
  rw [BitVec.toNat_and, BitVec.toNat_not, h1, h2, IntKind.wrap_u64, show 2 ^ 64 - 1 - b = allC - b by unfold allC; omega]
  omega
/-- Has the board a cell there? -/
def isC (r c : Nat) (f : Nat → UInt8) (k : Nat) : Bool := decide (k / 8 < r) && decide (k % 8 < c) && decide (f k = 35)
/-- All but the cells of the board, as far as row i and column j. -/
def OutP (r c : Nat) (f : Nat → UInt8) (i j x : Nat) : Prop := x ≤ allC ∧ ∀ k, k < 64 → x.testBit k = !(isC r c f k && decide (k < i * 8 + j))
theorem allC_bit (k : Nat) (hk : k < 64) : allC.testBit k = true := by
  have := Nat.testBit_two_pow_sub_one 64 k
  rw [show 2 ^ 64 - 1 = allC from rfl] at this
  rw [this]; simpa using hk
theorem out_start (r c : Nat) (f : Nat → UInt8) : OutP r c f 0 0 allC := ⟨Nat.le_refl _, fun k hk => by rw [allC_bit k hk]; simp⟩
theorem out_row {r c : Nat} {f : Nat → UInt8} {i x : Nat} (h : OutP r c f i c x) (hc : c ≤ 8) : OutP r c f (i + 1) 0 x := ⟨h.1, fun k hk => by
  rw [h.2 k hk]
  congr 1
  unfold isC
  by_cases q : k % 8 < c
  · have : decide (k < i * 8 + c) = decide (k < (i + 1) * 8 + 0) := by
      apply decide_eq_decide.2; omega
    rw [this]
  · rw [decide_eq_false q]; simp⟩
theorem out_skip {r c : Nat} {f : Nat → UInt8} {i j x : Nat} (h : OutP r c f i j x) (hn : f (i * 8 + j) ≠ 35) : OutP r c f i (j + 1) x := ⟨h.1, fun k hk => by
  rw [h.2 k hk]
  congr 1
  by_cases q : k = i * 8 + j
  · subst q
    unfold isC
    rw [decide_eq_false hn]; simp
  · have : decide (k < i * 8 + j) = decide (k < i * 8 + (j + 1)) := by
      apply decide_eq_decide.2; omega
    rw [this]⟩
theorem out_take {r c : Nat} {f : Nat → UInt8} {i j x : Nat} (h : OutP r c f i j x) (hi : i < r) (hj : j < c) (hr : r ≤ 8) (hc : c ≤ 8) (hn : f (i * 8 + j) = 35) : OutP r c f i (j + 1) (x &&& (allC - 2 ^ (i * 8 + j))) := by
  have hp := pow_pos64 (n := i * 8 + j) (by omega)
  refine ⟨Nat.le_trans Nat.and_le_left h.1, fun k hk => ?_⟩
  rw [Nat.testBit_and, h.2 k hk, co_bit _ k hp.1 hk, Nat.testBit_two_pow]
  by_cases q : i * 8 + j = k
  · subst q
    have : isC r c f (i * 8 + j) = true := by
      unfold isC
      rw [hn, decide_eq_true (by omega), decide_eq_true (by omega)]; rfl
    rw [this]; simp
  · have : decide (k < i * 8 + j) = decide (k < i * 8 + (j + 1)) := by
      apply decide_eq_decide.2; omega
    rw [this, decide_eq_false q]; simp

set_option maxHeartbeats 4000000 in
set_option maxRecDepth 100000 in
theorem outside_at (G r c : Nat) (f : Nat → UInt8) (w : World) (hG : w.heap[G]? = some (.cells (shC r c f) 62 (0, 0))) (hr : r ≤ 8) (hc : c ≤ 8) :
    Calls Tryd.prog 33 #[.pointer (some ⟨G, 0, none⟩)] w fun e w' => ∃ x : Nat, e = .returned (.int .u64 (x : Int)) ∧ Hid (OutP r c f r 0 x) ∧ w' = w := by
  have HG : Hid (w.heap[G]? = some (.cells (shC r c f) 62 (0, 0))) := hG
  have c0 : w.cell? ⟨G, 0, none⟩ = some (.int .i64 (r : Int)) := by rw [cell_of_row w G _ _ _ _ hG, shC_get _ _ _ _ (by omega)]; rfl
  have c1 : w.cell? ⟨G, 1, none⟩ = some (.int .i64 (c : Int)) := by rw [cell_of_row w G _ _ _ _ hG, shC_get _ _ _ _ (by omega)]; rfl
  have HO0 : Hid (OutP r c f 0 0 allC) := out_start r c f
  have hca : (18446744073709551615 : Int) = ((allC : Nat) : Int) := rfl
  clear hG
  go_enter Tryd.func33, Tryd.ntmps33
  go_wp2_with fail
  go_loopw [3, 10] (fun xv v wr => ∃ (i x : Nat), i ≤ r ∧ v = .int .i64 (i : Int) ∧ xv = .int .u64 (x : Int) ∧ Hid (OutP r c f i 0 x) ∧ w = wr) (fun _ v _ => r - (intOf v).toNat)
  case atStart => exact ⟨0, allC, Nat.zero_le _, rfl, by first | rfl | (rw [← hca]), HO0, rfl⟩
  case round =>
    clear HO0
    obtain ⟨i, x, hi, rfl, rfl, HO, rfl⟩ := hrel
    by_cases hlt : i < r
    · have hlt' : (i : Int) < (r : Int) := by omega
      go_wp2_with fail
      go_loopw [3, 17] (fun xv v wr => ∃ (j x : Nat), j ≤ c ∧ v = .int .i64 (j : Int) ∧ xv = .int .u64 (x : Int) ∧ Hid (OutP r c f i j x) ∧ w = wr) (fun _ v _ => c - (intOf v).toNat)
      case atStart => exact ⟨0, x, Nat.zero_le _, rfl, rfl, HO, rfl⟩
      case round =>
        clear HO
        obtain ⟨j, x, hj, rfl, rfl, HO, rfl⟩ := hrel
        by_cases hltj : j < c
        · have hltj' : (j : Int) < (c : Int) := by omega
          have hi8 : (i : Int) < 8 := by omega
          have hj8 : (j : Int) < 8 := by omega
          obtain ⟨y, HY⟩ : ∃ y : Nat, Hid (y = (f (i * 8 + j)).toNat) := ⟨_, rfl⟩
          have cy : w.cell? ⟨G, 2 + i * 8 + j, none⟩ = some (.int .u8 (y : Int)) := by
            have h := sh_cell (w := w) HG.out (i * 8 + j) (by omega)
            rw [← Nat.add_assoc, ← HY.out] at h; exact h
          by_cases hy : y = 35
          · have hf : f (i * 8 + j) = 35 := (byteN (n := 35) (by omega)).1 (by rw [← HY.out]; exact hy)
            obtain ⟨a, HA⟩ : ∃ a : Nat, Hid (a = 2 ^ (i * 8 + j)) := ⟨_, rfl⟩
            have HC := hid_w (cellAt_at i j (by omega) (by omega) w a (by rw [HA.out, if_pos (by omega)]))
            obtain ⟨z, HZ⟩ : ∃ z : Nat, Hid (z = x &&& (allC - a)) := ⟨_, rfl⟩
            have hz : bits .andNot .u64 (x : Int) (a : Int) = (z : Int) := by
              rw [HZ.out]; exact bits_andNot_u64_nat x a HO.out.1 (by rw [HA.out]; exact (pow_pos64 (by omega)).1)
            have HO2 : Hid (OutP r c f i (j + 1) z) := by rw [HZ.out, HA.out]; exact out_take HO.out hlt hltj hr hc hf
            clear HY hf
            subst hy
            go_wp2_with (go_at_call 55; with_reducible (refine HC.out.mono ?_); rintro e v1 ⟨rfl, rfl⟩)
            go_roundw
            case rel => exact ⟨j + 1, z, by omega, by go_num, by first | rfl | (rw [← hz]), HO2, by first | rfl | trivial⟩
            case measure => simp [intOf]; omega
          · have hyb : ((y : Int) == 35) = false := by simp; omega
            have HO2 : Hid (OutP r c f i (j + 1) x) := out_skip HO.out (fun q => hy (by rw [HY.out, q]; rfl))
            clear hy
            go_wp2_with fail
            go_roundw
            case rel => exact ⟨j + 1, x, by omega, by go_num, rfl, HO2, by first | rfl | trivial⟩
            case measure => simp [intOf]; omega
        · obtain rfl : j = c := by omega
          have HO2 := hid_w (out_row HO.out hc)
          go_wp2_with fail
          go_roundw
          case rel => exact ⟨i + 1, x, by omega, by go_num, rfl, HO2, by first | rfl | trivial⟩
          case measure => simp [intOf]; omega
    · obtain rfl : i = r := by omega
      go_wp2_with fail
      go_ret
      exact ⟨x, rfl, HO, rfl⟩

end Go.Proofs.YtcnmndbckjmliaaDoor
