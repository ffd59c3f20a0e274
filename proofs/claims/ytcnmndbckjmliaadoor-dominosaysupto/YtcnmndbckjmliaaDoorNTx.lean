/-
  domino.sheet.text.
-/
import Derived.Test.YtcnmndbckjmliaaDoorNRdz
namespace Go.Proofs.YtcnmndbckjmliaaDoor
open Go.RowKit

theorem rwo_getD (c : Nat) (f : Nat → UInt8) (i j : Nat) (hj : j < c) : (rwo c f i).getD j 0 = f (i * 8 + j) := by
  unfold rwo
  simp [List.getD, hj]
theorem tx_len8 (r c : Nat) (f : Nat → UInt8) (hr : r ≤ 8) (hc : c ≤ 8) : (tx r c f).length ≤ 71 := by
  cases r with
  | zero => rw [tx_zero]; simp
  | succ r =>
    rw [tx_length]
    have : (r + 1) * (c + 1) ≤ 8 * 9 := Nat.mul_le_mul (by omega) (by omega)
    omega

set_option maxHeartbeats 4000000 in
set_option maxRecDepth 100000 in
theorem dtext_at (G r c : Nat) (f : Nat → UInt8) (w : World) (hG : w.heap[G]? = some (.cells (shC r c f) 62 (0, 0))) (hr : r ≤ 8) (hc : c ≤ 8) :
    Calls Tryd.prog 39 #[.pointer (some ⟨G, 0, none⟩)] w fun e w' => e = .returned (.string ⟨(tx r c f).toArray⟩) ∧ Hid (Below w.heap.size w w') := by
  have HG : Hid (∀ W, Below w.heap.size w W → W.heap[G]? = some (.cells (shC r c f) 62 (0, 0))) := fun W hW => by rw [hW.block G (lt_someN hG)]; exact hG
  have hcI : (c : Int) ≤ 8 := by omega
  have HGl := hid_w (lt_someN hG)
  have HB0 : Hid (Below w.heap.size w (w.alloc (.cells #[.pointer none, .slice none 0 0] 97))) := (Below.refl _ _).alloc (Nat.le_refl _) _
  have HI0 : Hid (Lib.IsBuilder 97 5 w.heap.size w.heap.size (Lib.byteCells (tx 0 c f)) (w.alloc (.cells #[.pointer none, .slice none 0 0] 97))) :=
    Or.inl ⟨Nat.le_refl _, .slice none 0 0, heap_alloc_new _ _, World.ownsRow_nil _ _ _ _, by simp [Value.ownBlock]⟩
  have HW : Hid (∀ W l k, Lib.IsBuilder 97 5 w.heap.size w.heap.size (Lib.byteCells l) W → l.length ≤ 100 → k < 8 → Below w.heap.size w W → Calls Tryd.prog 59 #[.pointer (some ⟨w.heap.size, 0, none⟩), .slice (some ⟨G, 2 + k * 8, none⟩) c 8] W.drew fun e w' => e = .returned (.tuple #[.int .i64 (c : Int), .nilIface]) ∧ Hid (Lib.IsBuilder 97 5 w.heap.size w.heap.size (Lib.byteCells (l ++ rwo c f k)) w') ∧ Hid (Below w.heap.size w w')) := fun W l k h1 h2 hk h3 => by
    have hd : Below w.heap.size w W.drew := h3.drew
    refine (Write_z w.heap.size w.heap.size l (rwo c f k) G (2 + k * 8) c 8 W.drew (isb_belowN h1 (Below.refl _ _).drew) (by rw [rwo_length]) (fun j hj => ?_) HGl.out (by rw [rwo_length]; omega) hd.size).mono ?_
    · rw [rwo_length] at hj
      rw [rwo_getD c f k j hj]
      have h := sh_cell (HG.out W.drew hd) (k * 8 + j) (by omega)
      rw [← Nat.add_assoc] at h
      exact h
    · rintro e w' ⟨rfl, k1, k2⟩
      exact ⟨rfl, k1, hd.trans k2.out⟩
  have g0 : (w.alloc (.cells #[.pointer none, .slice none 0 0] 97)).cell? ⟨G, 0, none⟩ = some (.int .i64 (r : Int)) := by rw [cell_of_row _ G _ _ _ _ (HG.out _ HB0.out), shC_get _ _ _ _ (by omega)]; rfl
  clear hG
  go_enter Tryd.func39, Tryd.ntmps39
  go_wp2_with fail
  go_loopw [9] (fun v wr => ∃ k : Nat, k ≤ r ∧ v = .int .i64 (k : Int) ∧ Hid (Lib.IsBuilder 97 5 w.heap.size w.heap.size (Lib.byteCells (tx k c f)) wr) ∧ Hid (Below w.heap.size w wr)) (fun v _ => r - (intOf v).toNat)
  case atStart => exact ⟨0, Nat.zero_le _, rfl, HI0, HB0⟩
  case round =>
    clear HI0 HB0 g0
    obtain ⟨k, hk, rfl, HI, HB⟩ := hrel
    by_cases hlt : k < r
    · have hlt' : (k : Int) < (r : Int) := by omega
      have hk8 : (k : Int) < 8 := by omega
      by_cases hk0 : k = 0
      · have hk0' : ¬ ((k : Int) > 0) := by omega
        have HK0 : Hid (k = 0) := hk0
        clear hk0
        have s1 : wr.drew.cell? ⟨G, 1, none⟩ = some (.int .i64 (c : Int)) := by rw [cell_of_row _ G _ _ _ _ (HG.out _ HB.out.drew), shC_get _ _ _ _ (by omega)]; rfl
        have HWc := hid_w (HW.out wr _ k HI.out (by rw [HK0.out, tx_zero]; simp) (by omega) HB.out)
        have HTk : Hid (tx (k + 1) c f = tx k c f ++ rwo c f k) := by show _ = _; rw [HK0.out, tx_zero, tx_first]; rfl
        rw [← HTk.out] at HWc
        clear HW
        go_wp2_with fail
        go_region_with (go_at_call 59; with_reducible (refine HWc.out.mono ?_); rintro e w3 ⟨rfl, HI3, HB3⟩)
        all_goals (
          go_wp2_with fail
          go_roundw
          case rel => exact ⟨k + 1, by omega, by go_num, HI3, HB3⟩
          case measure => simp [intOf]; omega)
      · have hk0' : (k : Int) > 0 := by omega
        obtain ⟨q, HQ⟩ : ∃ q, Hid (k = q + 1) := ⟨k - 1, by show _ = _; omega⟩
        have HL : Hid ((tx k c f).length ≤ 71) := tx_len8 k c f (by omega) hc
        have HWb : Hid (Calls Tryd.prog 58 #[.pointer (some ⟨w.heap.size, 0, none⟩), .int .u8 47] wr fun e w' => e = .returned .nilIface ∧ Hid (Lib.IsBuilder 97 5 w.heap.size w.heap.size (Lib.byteCells (tx k c f ++ [47])) w') ∧ Hid (Below w.heap.size wr w')) := WriteB_z w.heap.size w.heap.size (tx k c f) 47 wr HI.out (by have := HL.out; omega) HB.out.size
        have HN : Hid (∀ W, Below w.heap.size wr W → Hid (Lib.IsBuilder 97 5 w.heap.size w.heap.size (Lib.byteCells (tx k c f ++ [47])) W) → Calls Tryd.prog 59 #[.pointer (some ⟨w.heap.size, 0, none⟩), .slice (some ⟨G, 2 + k * 8, none⟩) c 8] W.drew fun e w' => e = .returned (.tuple #[.int .i64 (c : Int), .nilIface]) ∧ Hid (Lib.IsBuilder 97 5 w.heap.size w.heap.size (Lib.byteCells (tx (k + 1) c f)) w') ∧ Hid (Below w.heap.size w w')) := fun W hb hi => by
          have h := HW.out W _ k hi.out (by rw [List.length_append]; have := HL.out; simp; omega) (by omega) (HB.out.trans hb)
          have e : tx (k + 1) c f = tx k c f ++ [47] ++ rwo c f k := by rw [HQ.out, tx_snoc, List.append_assoc]; rfl
          rw [e]; exact h
        have HS1 : Hid (∀ W, Below w.heap.size wr W → W.drew.cell? ⟨G, 1, none⟩ = some (.int .i64 (c : Int))) := fun W hW => by rw [cell_of_row _ G _ _ _ _ (HG.out _ (HB.out.trans hW).drew), shC_get _ _ _ _ (by omega)]; rfl
        clear HW HL
        go_wp2_with (go_at_call 58; with_reducible (refine HWb.out.mono ?_); rintro e w2 ⟨rfl, HI2, HB2⟩)
        have s1 := HS1.out w2 HB2.out
        have HNc := hid_w (HN.out w2 HB2.out HI2)
        go_region_with (go_at_call 59; with_reducible (refine HNc.out.mono ?_); rintro e w3 ⟨rfl, HI3, HB3⟩)
        all_goals (
          go_wp2_with fail
          go_roundw
          case rel => exact ⟨k + 1, by omega, by go_num, HI3, HB3⟩
          case measure => simp [intOf]; omega)
    · obtain rfl : k = r := by omega
      have HS := hid_w (Go.Proofs.Tryd.Builder_String_any w.heap.size w.heap.size (tx k c f) wr HI.out HB.out.size)
      obtain ⟨t, HTt⟩ : ∃ t : ByteArray, Hid (t = ⟨(tx k c f).toArray⟩) := ⟨_, rfl⟩
      rw [← HTt.out] at HS
      go_wp2_with (go_at_call 60; with_reducible (refine HS.out.mono ?_); rintro e w5 ⟨rfl, hb5⟩)
      have HB5 : Hid (Below w.heap.size w w5) := HB.out.trans hb5
      go_ret
      exact ⟨by rw [← HTt.out]; rfl, HB5⟩

end Go.Proofs.YtcnmndbckjmliaaDoor
