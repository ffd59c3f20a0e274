/-
  domino.diamond, Aztec.
-/
import Derived.Test.YtcnmndbckjmliaaDoorNTx
import Derived.Deep.DeepCutAuto
namespace Go.Proofs.YtcnmndbckjmliaaDoor
open Go.RowKit

/-- The boxes of F before row i and column j, and none behind. -/
def pfx (F : Nat → UInt8) (i j k : Nat) : UInt8 := if k / 8 < i ∨ (k / 8 = i ∧ k % 8 < j) then F k else 0
theorem pfx_zero (F : Nat → UInt8) : pfx F 0 0 = fun _ => 0 := by
  funext k; unfold pfx; rw [if_neg (by omega)]
theorem pfx_row (F : Nat → UInt8) (i c : Nat) (_hc : c ≤ 8) (h : ∀ k, c ≤ k % 8 → F k = 0) : pfx F i c = pfx F (i + 1) 0 := by
  funext k; unfold pfx
  by_cases h1 : k / 8 < i ∨ (k / 8 = i ∧ k % 8 < c)
  · rw [if_pos h1, if_pos (by omega)]
  · rw [if_neg h1]
    by_cases h2 : k / 8 < i + 1 ∨ (k / 8 = i + 1 ∧ k % 8 < 0)
    · rw [if_pos h2, h k (by omega)]
    · rw [if_neg h2]
theorem pfx_put (F : Nat → UInt8) (i j : Nat) (hj : j < 8) : upB (pfx F i j) (i * 8 + j) (F (i * 8 + j)) = pfx F i (j + 1) := by
  funext k; unfold upB pfx
  by_cases h : k = i * 8 + j
  · rw [if_pos h, if_pos (by omega), h]
  · rw [if_neg h]
    by_cases h1 : k / 8 < i ∨ (k / 8 = i ∧ k % 8 < j)
    · rw [if_pos h1, if_pos (by omega)]
    · rw [if_neg h1, if_neg (by omega)]
theorem pfx_all (F : Nat → UInt8) (r : Nat) (h : ∀ k, r ≤ k / 8 → F k = 0) : pfx F r 0 = F := by
  funext k; unfold pfx
  by_cases h1 : k / 8 < r ∨ (k / 8 = r ∧ k % 8 < 0)
  · rw [if_pos h1]
  · rw [if_neg h1, h k (by omega)]
theorem upB_two (f : Nat → UInt8) (j : Nat) (a b : UInt8) : upB (upB f j a) j b = upB f j b := by
  funext k; unfold upB
  by_cases h : k = j
  · rw [if_pos h, if_pos h]
  · rw [if_neg h, if_neg h, if_neg h]

set_option maxHeartbeats 4000000 in
set_option maxRecDepth 100000 in
theorem diamond_at (n : Nat) (w : World) (hn : n ≤ 4) :
    Calls Tryd.prog 45 #[.int .i64 (n : Int)] w fun e w' => e = .returned (.agg (shC (2 * n) (2 * n) (dmF n))) ∧ Hid (Below w.heap.size w w') := by
  obtain ⟨Z, HZ⟩ : ∃ Z, Hid (Z = shC 0 0 fun _ => 0) := ⟨_, rfl⟩
  have hz : ∀ W : World, (zeroValue 62).run Tryd.prog W = .ok (.agg Z) W := fun W => by rw [HZ.out]; exact (zero_of_info zeroS).1 W
  have HZ6 : Hid (C66 Z) := by rw [HZ.out]; exact shC_66 _ _ _
  obtain ⟨Q, HQ⟩ : ∃ Q, Hid (Q = w.heap.size) := ⟨_, rfl⟩
  obtain ⟨W0, HW0⟩ : ∃ W0, Hid (W0 = w.alloc (.cells Z 62)) := ⟨_, rfl⟩
  have HB0 : Hid (Below w.heap.size w W0) := by rw [HW0.out]; exact (Below.refl _ _).alloc (Nat.le_refl _) _
  have HQ0 : Hid (W0.heap[Q]? = some (.cells Z 62 (0, 0))) := by
    show _ = _
    rw [HW0.out, HQ.out]; exact heap_alloc_last _ _
  obtain ⟨d, HD⟩ : ∃ d, Hid (d = 2 * n) := ⟨_, rfl⟩
  have hd2 : (2 : Int) * (n : Int) = (d : Int) := by have := HD.out; omega
  have hd8 : d ≤ 8 := by have := HD.out; omega
  obtain ⟨F, HF⟩ : ∃ F, Hid (F = dmF n) := ⟨_, rfl⟩
  rw [← HD.out, ← HF.out]
  have HF1 : Hid (∀ k, d ≤ k % 8 → F k = 0) := fun k hk => by rw [HF.out]; unfold dmF; rw [if_neg (by have := HD.out; omega)]
  have HF2 : Hid (∀ k, d ≤ k / 8 → F k = 0) := fun k hk => by rw [HF.out]; unfold dmF; rw [if_neg (by have := HD.out; omega)]
  obtain ⟨T, HT⟩ : ∃ T, Hid (T = W0.heap.size) := ⟨_, rfl⟩
  obtain ⟨S, HS⟩ : ∃ S, Hid (S = shC d d fun _ => 0) := ⟨_, rfl⟩
  have HS6 : Hid (C66 S) := by rw [HS.out]; exact shC_66 _ _ _
  go_enter Tryd.func45, Tryd.ntmps45
  go_upto_region 1 with fail
  rw [← HQ.out, ← HW0.out]
  go_upto_region 2 with (first | (refine wpList_build2 rfl (.tmp 8) (.tmp 10) rfl d d rfl rfl S HS.out ?_) | (refine wpList_store66 rfl (.tmp 3) (.tmp 11) rfl W0.heap.size S Z rfl rfl (heap_alloc_last _ _) HS6.out HZ6.out ?_))
  simp only [Act.put]
  obtain ⟨W3, HW3⟩ : ∃ W3, Hid (W3 = (W0.alloc (.cells Z 62)).setRow W0.heap.size S) := ⟨_, rfl⟩
  rw [← HW3.out, ← HT.out]
  have hb13 : Below W0.heap.size W0 W3 := by
    rw [HW3.out]; exact below_setRowN ((Below.refl _ _).alloc (Nat.le_refl _) _) _ (Nat.le_refl _) _
  have HB3 : Hid (Below w.heap.size w W3) := HB0.out.trans (hb13.mono HB0.out.size)
  have HT3 : Hid (W3.heap[T]? = some (.cells (shC d d (pfx F 0 0)) 62 (0, 0))) := by
    show _ = _
    rw [HW3.out, HT.out, pfx_zero, ← HS.out]; exact setRow_heap _ _ _ _ _ _ (heap_alloc_last _ _)
  have HQ3 : Hid (W3.heap[Q]? = some (.cells Z 62 (0, 0))) := by
    show _ = _
    rw [hb13.block Q (lt_someN HQ0.out)]; exact HQ0.out
  have HQT : Hid (Q ≠ T ∧ w.heap.size ≤ T) := ⟨by have h1 := lt_someN HQ0.out; have h2 := HT.out; omega, by rw [HT.out]; exact HB0.out.size⟩
  clear hb13
  have s0 : W3.cell? ⟨T, 0, none⟩ = some (.int .i64 (d : Int)) := by rw [cell_of_row W3 T _ _ _ _ HT3.out, shC_get _ _ _ _ (by omega)]; rfl
  go_wp2_with fail
  go_loopw [14] (fun v wr => ∃ i : Nat, i ≤ d ∧ v = .int .i64 (i : Int) ∧ Hid (wr.heap[T]? = some (.cells (shC d d (pfx F i 0)) 62 (0, 0))) ∧ Hid (wr.heap[Q]? = some (.cells Z 62 (0, 0))) ∧ Hid (Below w.heap.size w wr)) (fun v _ => d - (intOf v).toNat)
  case atStart => exact ⟨0, Nat.zero_le _, rfl, HT3, HQ3, HB3⟩
  case round =>
    clear s0 HT3 HQ3 HB3
    obtain ⟨i, hi, rfl, HTi, HQi, HBi⟩ := hrel
    by_cases hlt : i < d
    · have hlt' : (i : Int) < (d : Int) := by omega
      have s1 : wr.cell? ⟨T, 1, none⟩ = some (.int .i64 (d : Int)) := by rw [cell_of_row wr T _ _ _ _ HTi.out, shC_get _ _ _ _ (by omega)]; rfl
      obtain ⟨m, HM⟩ : ∃ m, Hid (m = min i (d - 1 - i)) := ⟨_, rfl⟩
      have hmn : min (i : Int) ((d : Int) - 1 - (i : Int)) = (m : Int) := by have := HM.out; omega
      go_wp2_with fail
      go_loopw [26] (fun v wr => ∃ j : Nat, j ≤ d ∧ v = .int .i64 (j : Int) ∧ Hid (wr.heap[T]? = some (.cells (shC d d (pfx F i j)) 62 (0, 0))) ∧ Hid (wr.heap[Q]? = some (.cells Z 62 (0, 0))) ∧ Hid (Below w.heap.size w wr)) (fun v _ => d - (intOf v).toNat)
      case atStart => exact ⟨0, Nat.zero_le _, rfl, HTi, HQi, HBi⟩
      case round =>
        clear s1 HTi HQi HBi
        obtain ⟨j, hj, rfl, HTj, HQj, HBj⟩ := hrel
        by_cases hltj : j < d
        · have hltj' : (j : Int) < (d : Int) := by omega
          have hi8 : (i : Int) < 8 := by omega
          have hj8 : (j : Int) < 8 := by omega
          have c0 : wr.cell? ⟨T, 2 + i * 8 + j, none⟩ = some (.int .u8 ((pfx F i j (i * 8 + j)).toNat : Int)) := by
            have h := sh_cell (w := wr) HTj.out (i * 8 + j) (by omega)
            rw [← Nat.add_assoc] at h; exact h
          have f0 : wr.frozen? ⟨T, 2 + i * 8 + j, none⟩ = false := frozen_of_row wr T _ _ _ HTj.out
          obtain ⟨W1, HW1⟩ : ∃ W1, Hid (W1 = wr.setCell ⟨T, 2 + i * 8 + j, none⟩ (.int .u8 46)) := ⟨_, rfl⟩
          have HT1 : Hid (W1.heap[T]? = some (.cells (shC d d (upB (pfx F i j) (i * 8 + j) 46)) 62 (0, 0))) := by
            show _ = _
            rw [HW1.out]
            have h := sh_store (w := wr) HTj.out (i * 8 + j) 46
            rw [← Nat.add_assoc] at h; exact h
          have HK1 : Hid (∀ k, k ≠ T → W1.heap[k]? = wr.heap[k]?) := fun k hk => by rw [HW1.out, heap_setCell_other _ _ _ _ hk]
          have HQ1 : Hid (W1.heap[Q]? = some (.cells Z 62 (0, 0))) := (HK1.out Q HQT.out.1).trans HQj.out
          have HB1 : Hid (Below w.heap.size w W1) := by
            refine HBj.out.trans ⟨by rw [HW1.out]; rfl, by rw [HW1.out]; rfl, by rw [HW1.out]; rfl, by rw [HW1.out]; simp, fun k hk => HK1.out k (by have := HQT.out.2; omega)⟩
          have HFv : Hid (F (i * 8 + j) = dmB n i j) := by
            show _ = _
            rw [HF.out, dmF_at (by have := HD.out; omega) (by have := HD.out; omega) hn]
          by_cases hge : (j : Int) ≥ (n : Int) - 1 - (m : Int)
          · by_cases hle : (j : Int) ≤ (n : Int) + (m : Int)
            · have HE : Hid (F (i * 8 + j) = 35) := by
                show _ = _
                rw [HFv.out]; unfold dmB; rw [if_pos (by have := HM.out; have := HD.out; omega)]
              have HT2 : Hid ((W1.setCell ⟨T, 2 + i * 8 + j, none⟩ (.int .u8 35)).heap[T]? = some (.cells (shC d d (pfx F i (j + 1))) 62 (0, 0))) := by
                show _ = _
                have h := sh_store (w := W1) HT1.out (i * 8 + j) 35
                rw [← Nat.add_assoc, upB_two] at h
                rw [← pfx_put F i j (by omega), HE.out]; exact h
              have HQ2 : Hid ((W1.setCell ⟨T, 2 + i * 8 + j, none⟩ (.int .u8 35)).heap[Q]? = some (.cells Z 62 (0, 0))) := by
                show _ = _
                rw [heap_setCell_other _ _ _ _ HQT.out.1]; exact HQ1.out
              have HB2 : Hid (Below w.heap.size w (W1.setCell ⟨T, 2 + i * 8 + j, none⟩ (.int .u8 35))) :=
                HB1.out.trans ⟨rfl, rfl, rfl, by simp, fun k hk => heap_setCell_other _ _ _ _ (show k ≠ T by have := HQT.out.2; omega)⟩
              have c1 : W1.cell? ⟨T, 2 + i * 8 + j, none⟩ = some (.int .u8 ((upB (pfx F i j) (i * 8 + j) 46 (i * 8 + j)).toNat : Int)) := by
                have h := sh_cell (w := W1) HT1.out (i * 8 + j) (by omega)
                rw [← Nat.add_assoc] at h; exact h
              have f1 : W1.frozen? ⟨T, 2 + i * 8 + j, none⟩ = false := frozen_of_row W1 T _ _ _ HT1.out
              go_upto_region 10 with fail
              rw [← HW1.out]
              go_wp2_with fail
              go_roundw
              case rel => exact ⟨j + 1, by omega, by go_num, HT2, HQ2, HB2⟩
              case measure => simp [intOf]; omega
            · have HE : Hid (F (i * 8 + j) = 46) := by
                show _ = _
                rw [HFv.out]; unfold dmB; rw [if_neg (by have := HM.out; have := HD.out; omega)]
              have HT2 : Hid (W1.heap[T]? = some (.cells (shC d d (pfx F i (j + 1))) 62 (0, 0))) := by
                show _ = _
                rw [← pfx_put F i j (by omega), HE.out]; exact HT1.out
              go_upto_region 10 with fail
              rw [← HW1.out]
              go_wp2_with fail
              go_roundw
              case rel => exact ⟨j + 1, by omega, by go_num, HT2, HQ1, HB1⟩
              case measure => simp [intOf]; omega
          · have HE : Hid (F (i * 8 + j) = 46) := by
              show _ = _
              rw [HFv.out]; unfold dmB; rw [if_neg (by have := HM.out; have := HD.out; omega)]
            have HT2 : Hid (W1.heap[T]? = some (.cells (shC d d (pfx F i (j + 1))) 62 (0, 0))) := by
              show _ = _
              rw [← pfx_put F i j (by omega), HE.out]; exact HT1.out
            go_upto_region 10 with fail
            rw [← HW1.out]
            go_wp2_with fail
            go_roundw
            case rel => exact ⟨j + 1, by omega, by go_num, HT2, HQ1, HB1⟩
            case measure => simp [intOf]; omega
        · obtain rfl : j = d := by omega
          have HT2 : Hid (wr.heap[T]? = some (.cells (shC j j (pfx F (i + 1) 0)) 62 (0, 0))) := by
            show _ = _
            rw [← pfx_row F i j hd8 HF1.out]; exact HTj.out
          go_wp2_with fail
          go_roundw
          case rel => exact ⟨i + 1, by omega, by go_num, HT2, HQj, HBj⟩
          case measure => simp [intOf]; omega
    · obtain rfl : i = d := by omega
      obtain ⟨Y, HY⟩ : ∃ Y, Hid (Y = shC i i F) := ⟨_, rfl⟩
      have HY6 : Hid (C66 Y) := by rw [HY.out]; exact shC_66 _ _ _
      rw [pfx_all F i HF2.out, ← HY.out] at HTi
      have HLd : Hid ((loadVar 62 ⟨Q, 0, none⟩).run Tryd.prog (wr.setRow Q Y) = .ok (.agg Y) (wr.setRow Q Y)) := load_66 _ _ _ HY6.out (setRow_heap _ _ _ _ _ _ HQi.out)
      have HBd : Hid (Below w.heap.size w (wr.setRow Q Y)) := below_setRowN HBi.out Q (by rw [HQ.out]; exact Nat.le_refl _) _
      go_wp2_with (first | (refine wpList_load66 rfl (.tmp 3) rfl T Y rfl HTi.out HY6.out ?_) | (refine wpList_store66 rfl (.tmp 2) (.tmp 54) rfl Q Y Z rfl rfl HQi.out HY6.out HZ6.out ?_))
      refine bodyPost_ret (v := .agg Y) ?_ rfl ⟨by rw [HY.out], HBd⟩
      exact results_cell_row rfl _ _ Q 62 Y (0, 0) _ rfl (setRow_heap _ _ _ _ _ _ HQi.out) Tryd.underlying62 rfl (by rw [infoS, HY6.out.1])

end Go.Proofs.YtcnmndbckjmliaaDoor
