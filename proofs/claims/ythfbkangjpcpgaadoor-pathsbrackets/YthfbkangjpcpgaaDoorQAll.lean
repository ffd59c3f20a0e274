/-
  paths.allEndings.
-/
import Derived.Test.YthfbkangjpcpgaaDoorQArr
import Derived.Deep.CutBlock
namespace Go.Proofs.YthfbkangjpcpgaaDoor
open Go.RowKit

set_option maxHeartbeats 4000000 in
set_option maxRecDepth 100000 in
theorem allEndings_at (w : World) :
    Calls Tryd.prog 14 #[] w fun e w' => e = .returned (.pointer (some ⟨w.heap.size, 0, none⟩)) ∧ Hid (ArrE w' w.heap.size tF) ∧ Hid (Below w.heap.size w w') := by
  obtain ⟨C0, HC0⟩ : ∃ C0, Hid (C0 = celE fun _ => 0) := ⟨_, rfl⟩
  have hz : ∀ W : World, (zeroValue 62).run Tryd.prog W = .ok (.agg C0) W := fun W => by rw [HC0.out]; exact run_zeroE W
  obtain ⟨g, HG⟩ : ∃ g, Hid (g = w.heap.size) := ⟨_, rfl⟩
  have HA0 : Hid (ArrE (w.alloc (.cells C0 62)) g (fun _ => 0)) := by
    show _ = _
    rw [HG.out, HC0.out]
    show (w.heap.push _)[w.heap.size]? = _
    rw [Array.getElem?_push_size]
  have hc0 : (w.alloc (.cells C0 62)).cell? ⟨w.heap.size, 0, none⟩ = some (.int .i64 0) := by rw [← HG.out]; exact HA0.out.cell (j := 0) (by omega)
  have hf0 : (w.alloc (.cells C0 62)).frozen? ⟨w.heap.size, 0, none⟩ = false := by rw [← HG.out]; exact HA0.out.frozen 0
  rw [← HG.out] at hc0 hf0
  go_enter Tryd.func14, Tryd.ntmps14
  go_upto_region 2 with fail
  rw [← HG.out]
  have HA1 : Hid (ArrE ((w.alloc (.cells C0 62)).setCell ⟨g, 0, none⟩ (.int .i64 1)) g (tE 1 0)) := (HA0.out.store 0 1).congr tE_start
  have HB1 : Hid (Below w.heap.size w ((w.alloc (.cells C0 62)).setCell ⟨g, 0, none⟩ (.int .i64 1))) := ((Below.refl _ _).alloc (Nat.le_refl _) _).setCell (p := ⟨g, 0, none⟩) (by rw [HG.out]; exact Nat.le_refl _) _
  go_wp2_with fail
  clear hc0 hf0 HA0
  go_loopw [2] (fun lv wr => ∃ l : Nat, l ≤ 60 ∧ lv = .int .i64 ((l + 1 : Nat) : Int) ∧ Hid (ArrE wr g (tE (l + 1) 0)) ∧ Hid (Below w.heap.size w wr)) (fun lv _ => 62 - (intOf lv).toNat)
  case atStart => exact ⟨0, by omega, rfl, HA1, HB1⟩
  case round =>
    clear HA1 HB1
    obtain ⟨l, hl, rfl, HA, HB⟩ := hrel
    by_cases hlt : l < 60
    · have hlt' : ((l + 1 : Nat) : Int) ≤ 60 := by omega
      go_wp2_with fail
      go_loopw [10] (fun ov wq => ∃ o : Nat, o ≤ 61 ∧ ov = .int .i64 (o : Int) ∧ Hid (ArrE wq g (tE (l + 1) o)) ∧ Hid (Below w.heap.size w wq)) (fun ov _ => 61 - (intOf ov).toNat)
      case atStart => exact ⟨0, by omega, rfl, HA, HB⟩
      case round =>
        clear HA HB
        obtain ⟨o, ho, rfl, HA, HB⟩ := hrel
        by_cases hlo : o < 61
        · have hlo' : (o : Int) < 61 := by omega
          obtain ⟨x, HX⟩ : ∃ x : Nat, Hid (x = eW l (o + 1)) := ⟨_, rfl⟩
          have hx60 : x ≤ 1152921504606846976 := by
            rw [HX.out]
            exact Nat.le_trans (eW_le l (o + 1)) (Nat.pow_le_pow_right (by omega) (by omega : l ≤ 60))
          have HD : Hid (ArrE wr.drew g (tE (l + 1) o)) := HA.out.same rfl
          have c1 : wr.drew.cell? ⟨g, l * 62 + (o + 1), none⟩ = some (.int .i64 (x : Int)) := by
            rw [HD.out.cell (by omega), tE_low (by omega) (by omega), HX.out]
          obtain ⟨u, c2⟩ : ∃ u, wr.drew.cell? ⟨g, (l + 1) * 62 + o, none⟩ = some (.int .i64 u) := ⟨_, HD.out.cell (by omega)⟩
          have f2 : wr.drew.frozen? ⟨g, (l + 1) * 62 + o, none⟩ = false := HD.out.frozen _
          obtain ⟨W1, HW1⟩ : ∃ W1, Hid (W1 = (wr.setCell ⟨g, (l + 1) * 62 + o, none⟩ (.int .i64 (x : Int))).drew) := ⟨_, rfl⟩
          have HA1 : Hid (ArrE W1 g (upE (tE (l + 1) o) ((l + 1) * 62 + o) (x : Int))) := by rw [HW1.out]; exact (HA.out.store _ _).same rfl
          have HGg : Hid (w.heap.size ≤ g) := by rw [HG.out]; exact Nat.le_refl _
          have HB1 : Hid (Below w.heap.size w W1) := by
            rw [HW1.out]
            exact below_drewN (HB.out.setCell (p := ⟨g, (l + 1) * 62 + o, none⟩) HGg.out _) 1
          by_cases ho0 : o = 0
          · subst ho0
            have HA2 : Hid (ArrE W1 g (tE (l + 1) 1)) := HA1.out.congr fun k _ => by
              have e : eW (l + 1) 0 = x := by rw [eW_step, if_neg (by omega), Nat.add_zero, HX.out]
              rw [← e]; exact tE_step (l + 1) 0 (by omega) k
            clear HA1
            rw [Nat.add_zero] at c2 f2 HW1
            rw [Nat.zero_add] at c1
            go_upto_region 9 with fail
            go_region
            rw [← HW1.out]
            go_wp2
            go_roundw
            case rel => exact ⟨1, by omega, by go_num, HA2, HB1⟩
            case measure => simp [intOf]
          · obtain ⟨q, rfl⟩ : ∃ q, o = q + 1 := ⟨o - 1, by omega⟩
            have ho0' : ((q + 1 : Nat) : Int) > 0 := by omega
            obtain ⟨y, HY⟩ : ∃ y : Nat, Hid (y = eW l q) := ⟨_, rfl⟩
            have hy60 : y ≤ 1152921504606846976 := by
              rw [HY.out]
              exact Nat.le_trans (eW_le l q) (Nat.pow_le_pow_right (by omega) (by omega : l ≤ 60))
            have HD1 : Hid (ArrE W1.drew g (upE (tE (l + 1) (q + 1)) ((l + 1) * 62 + (q + 1)) (x : Int))) := HA1.out.same rfl
            have d1 : W1.drew.cell? ⟨g, (l + 1) * 62 + (q + 1), none⟩ = some (.int .i64 (x : Int)) := by
              rw [HD1.out.cell (by omega)]; simp [upE]
            have d2 : W1.drew.cell? ⟨g, l * 62 + q, none⟩ = some (.int .i64 (y : Int)) := by
              rw [HD1.out.cell (by omega), upE, if_neg (by omega), tE_low (by omega) (by omega), HY.out]
            have f3 : W1.drew.frozen? ⟨g, (l + 1) * 62 + (q + 1), none⟩ = false := HD1.out.frozen _
            have HA2 : Hid (ArrE (W1.setCell ⟨g, (l + 1) * 62 + (q + 1), none⟩ (.int .i64 ((x : Int) + (y : Int)))).drew g (tE (l + 1) (q + 1 + 1))) := ((HA1.out.store ((l + 1) * 62 + (q + 1)) ((x : Int) + (y : Int))).congr fun k _ => by
              rw [← tE_step (l + 1) (q + 1) (by omega), eW_step, if_pos (by omega), Nat.add_sub_cancel, ← HX.out, ← HY.out]
              unfold upE
              by_cases h : k = (l + 1) * 62 + (q + 1)
              · rw [if_pos h, if_pos h]; omega
              · rw [if_neg h, if_neg h, if_neg h]).same rfl
            have HB2 : Hid (Below w.heap.size w (W1.setCell ⟨g, (l + 1) * 62 + (q + 1), none⟩ (.int .i64 ((x : Int) + (y : Int)))).drew) :=
              below_drewN (HB1.out.setCell (p := ⟨g, (l + 1) * 62 + (q + 1), none⟩) HGg.out _) 1
            clear HA1 HD1
            go_upto_region 9 with fail
            go_region
            rw [← HW1.out]
            go_upto_region 11 with fail
            go_region
            go_wp2
            go_roundw
            case rel => exact ⟨q + 1 + 1, by omega, by go_num, HA2, HB2⟩
            case measure => simp [intOf]; omega
        · obtain rfl : o = 61 := by omega
          have HA2 : Hid (ArrE wr g (tE (l + 1 + 1) 0)) := HA.out.congr fun k _ => tE_row (l + 1) (by omega) k
          go_wp2
          go_roundw
          case rel => exact ⟨l + 1, by omega, by go_num, HA2, HB⟩
          case measure => simp [intOf]; omega
    · obtain rfl : l = 60 := by omega
      have HA2 : Hid (ArrE wr w.heap.size tF) := by rw [← HG.out]; exact HA.out.congr tE_all
      go_wp2
      go_ret
      exact ⟨by rw [HG.out]; rfl, HA2, HB⟩

end Go.Proofs.YthfbkangjpcpgaaDoor
