/-
  domino.readTiling.
-/
import Derived.Test.YtcnmndbckjmliaaDoorNRd
namespace Go.Proofs.YtcnmndbckjmliaaDoor
open Go.RowKit

def lrud : List UInt8 := [108, 114, 117, 100, 46]
/-- A tiling, as domino.readTiling reads it. -/
def Til (s : List UInt8) (r c : Nat) : Prop := Shz lrud r c (pz s) ∧ OkT r c (cef (pz s))
def RtP (s : List UInt8) (v : Value) : Prop := (∃ r c, Til s r c ∧ v = .tuple #[.agg (shC r c (cef (pz s))), .int .i64 0]) ∨ ((∀ r c, ¬ Til s r c) ∧ v = .tuple #[.agg (shC 0 0 fun _ => 0), .int .i64 1])

set_option maxHeartbeats 4000000 in
set_option maxRecDepth 100000 in
theorem readT_at (s : ByteArray) (m : Int) (w : World) (hm : w.cell? ⟨0, 0, none⟩ = some (.int .i64 m)) :
    Calls Tryd.prog 40 #[.string s] w fun e w' => ∃ v, e = .returned v ∧ Hid (RtP s.data.toList v) ∧ Hid (Below w.heap.size w w') := by
  obtain ⟨Z, HZ⟩ : ∃ Z, Hid (Z = shC 0 0 fun _ => 0) := ⟨_, rfl⟩
  have hz : ∀ W : World, (zeroValue 62).run Tryd.prog W = .ok (.agg Z) W := fun W => by rw [HZ.out]; exact (zero_of_info zeroS).1 W
  have HZ6 : Hid (C66 Z) := by rw [HZ.out]; exact shC_66 _ _ _
  obtain ⟨Q, HQ⟩ : ∃ Q, Hid (Q = w.heap.size) := ⟨_, rfl⟩
  obtain ⟨W0, HW0⟩ : ∃ W0, Hid (W0 = w.alloc (.cells Z 62)) := ⟨_, rfl⟩
  have HB0 : Hid (Below w.heap.size w W0) := by rw [HW0.out]; exact (Below.refl _ _).alloc (Nat.le_refl _) _
  have HQ0 : Hid (W0.heap[Q]? = some (.cells Z 62 (0, 0))) := by
    show _ = _
    rw [HW0.out, HQ.out]; exact heap_alloc_last _ _
  have hm0 : W0.cell? ⟨0, 0, none⟩ = some (.int .i64 m) := by rw [HW0.out, World.cell?_alloc_past _ _ _ (World.block_lt_of_cell? w ⟨0, 0, none⟩ hm)]; exact hm
  have HFail : Hid (∀ (W : World) (Y : Array Value), C66 Y → W.heap[Q]? = some (.cells Z 62 (0, 0)) → Below w.heap.size w W → (loadVar 62 ⟨Q, 0, none⟩).run Tryd.prog (W.setRow Q Y) = .ok (.agg Y) (W.setRow Q Y) ∧ Below w.heap.size w (W.setRow Q Y)) := fun W Y hY h hb =>
    ⟨load_66 _ _ _ hY (setRow_heap _ _ _ _ _ _ h), below_setRowN hb Q (by rw [HQ.out]; omega) _⟩
  have HCr := hid_w (read_at s ⟨#[108, 114, 117, 100, 46]⟩ m W0 hm0)
  clear hm hm0
  go_enter Tryd.func40, Tryd.ntmps40
  go_upto_region 1 with fail
  rw [← HQ.out, ← HW0.out]
  go_upto_region 2 with (first | (go_at_call 54; with_reducible (refine HCr.out.mono ?_); rintro e W1 ⟨v, rfl, HR, HB1⟩; obtain ⟨Y, er, rfl, HY6, HYr⟩ := HR.out.parts) | (refine wpList_store66 rfl (.tmp 4) (.tmp 11) rfl W1.heap.size Y Z rfl rfl (heap_alloc_last _ _) HY6.out HZ6.out ?_))
  try simp only [Act.put]
  obtain ⟨T, HT⟩ : ∃ T, Hid (T = W1.heap.size) := ⟨_, rfl⟩
  obtain ⟨W3, HW3⟩ : ∃ W3, Hid (W3 = (W1.alloc (.cells Z 62)).setRow W1.heap.size Y) := ⟨_, rfl⟩
  rw [← HW3.out, ← HT.out]
  have HB3 : Hid (Below w.heap.size w W3) := by
    have hb : Below W0.heap.size W0 W3 := by
      rw [HW3.out]; exact below_setRowN (HB1.out.alloc HB1.out.size _) _ HB1.out.size _
    exact HB0.out.trans (hb.mono HB0.out.size)
  have HT3 : Hid (W3.heap[T]? = some (.cells Y 62 (0, 0))) := by
    show _ = _
    rw [HW3.out, HT.out]; exact setRow_heap _ _ _ _ _ _ (heap_alloc_last _ _)
  have HQ3 : Hid (W3.heap[Q]? = some (.cells Z 62 (0, 0))) := by
    have hb : Below W0.heap.size W0 W3 := by
      rw [HW3.out]; exact below_setRowN (HB1.out.alloc HB1.out.size _) _ HB1.out.size _
    show _ = _
    rw [hb.block Q (lt_someN HQ0.out)]; exact HQ0.out
  rcases HYr.out with ⟨rfl, r, c, hsz, hY⟩ | ⟨rfl, hY, hno⟩
  case inr =>
    have HP : Hid (RtP s.data.toList (.tuple #[.agg Z, .int .i64 1])) := Or.inr ⟨fun r c h => hno r c h.1, by rw [HZ.out]⟩
    obtain ⟨hl, hb⟩ := HFail.out W3 Z HZ6.out HQ3.out HB3.out
    have HL := hid_w hl
    have HB := hid_w hb
    clear hl hb hno hY HYr HR
    go_wp2_with (first | (refine wpList_build66 rfl rfl Z HZ.out ?_) | (refine wpList_store66 rfl (.tmp 2) (.tmp 15) rfl Q Z Z rfl rfl HQ3.out HZ6.out HZ6.out ?_))
    refine bodyPost_ret (v := .tuple #[.agg Z, .int .i64 1]) ?_ rfl ⟨_, rfl, HP, HB⟩
    rw [results_cell_tmp rfl]
    simp [asAddr, Result.andThen, HL.out]
  obtain ⟨f, HF⟩ : ∃ f, Hid (f = cef (pz s.data.toList)) := ⟨_, rfl⟩
  rw [← HF.out] at hY
  have HYf : Hid (Y = shC r c f) := hY
  have HSz : Hid (Shz lrud r c (pz s.data.toList)) := hsz
  have hr8 : r ≤ 8 := hsz.2.2.1
  have hc8 : c ≤ 8 := hsz.2.2.2.2.1
  have HTf : Hid (W3.heap[T]? = some (.cells (shC r c f) 62 (0, 0))) := by rw [← HYf.out]; exact HT3.out
  have s0 : W3.cell? ⟨T, 0, none⟩ = some (.int .i64 (r : Int)) := by rw [cell_of_row W3 T _ _ _ _ HTf.out, shC_get _ _ _ _ (by omega)]; rfl
  have s1 : W3.cell? ⟨T, 1, none⟩ = some (.int .i64 (c : Int)) := by rw [cell_of_row W3 T _ _ _ _ HTf.out, shC_get _ _ _ _ (by omega)]; rfl
  have HNo : Hid (∀ i j, i < r → j < c → prB r c f i j = false → RtP s.data.toList (.tuple #[.agg Z, .int .i64 1])) := fun i j hi hj h => by
    refine Or.inr ⟨fun r' c' q => ?_, by rw [HZ.out]⟩
    obtain ⟨q1, q2⟩ := q
    have e1 := shz_eq q1
    have e2 := shz_eq HSz.out
    obtain rfl : r' = r := e1.1.trans e2.1.symm
    obtain rfl : c' = c := e1.2.trans e2.2.symm
    have := q2 i hi j hj
    rw [← HF.out, h] at this
    cases this
  obtain ⟨hl, hb⟩ := HFail.out W3 Z HZ6.out HQ3.out HB3.out
  have HL := hid_w hl
  have HB := hid_w hb
  obtain ⟨hl2, hb2⟩ := HFail.out W3 Y HY6.out HQ3.out HB3.out
  have HL2 := hid_w hl2
  have HBe := hid_w hb2
  clear hl hb hl2 hb2 hsz hY HYr HR
  go_wp2_with fail
  go_loopw [19] (fun v wr => ∃ i : Nat, i ≤ r ∧ v = .int .i64 (i : Int) ∧ W3 = wr ∧ Hid (∀ i', i' < i → ∀ j, j < c → prB r c f i' j = true)) (fun v _ => r - (intOf v).toNat)
  case atStart => exact ⟨0, Nat.zero_le _, rfl, rfl, fun i' hi' => by omega⟩
  case round =>
    obtain ⟨i, hi, rfl, rfl, HI⟩ := hrel
    by_cases hlt : i < r
    · have hlt' : (i : Int) < (r : Int) := by omega
      go_wp2_with fail
      go_loopw [24] (fun v wr => ∃ j : Nat, j ≤ c ∧ v = .int .i64 (j : Int) ∧ W3 = wr ∧ Hid (∀ j', j' < j → prB r c f i j' = true)) (fun v _ => c - (intOf v).toNat)
      case atStart => exact ⟨0, Nat.zero_le _, rfl, rfl, fun i' hi' => by omega⟩
      case round =>
        obtain ⟨j, hj, rfl, rfl, HJ⟩ := hrel
        by_cases hltj : j < c
        · have hltj' : (j : Int) < (c : Int) := by omega
          obtain ⟨b, Hb⟩ : ∃ b, Hid (prB r c f i j = b) := ⟨_, rfl⟩
          have HCp := hid_w (dpair_at T r c f i j W3 HTf.out hr8 hc8 (by omega) (by omega) b Hb.out)
          cases b with
          | true =>
            go_wp2_with (go_at_call 61; with_reducible (refine HCp.out.mono ?_); rintro e v1 ⟨rfl, rfl⟩)
            go_roundw
            case rel => exact ⟨j + 1, by omega, by go_num, by first | trivial | rfl, fun j' hj' => by
                          by_cases e : j' = j
                          · rw [e]; exact Hb.out
                          · exact HJ.out j' (by omega)⟩
            case measure => simp [intOf]; omega
          | false =>
            have HP := hid_w (HNo.out i j hlt hltj Hb.out)
            go_wp2_with (first | (go_at_call 61; with_reducible (refine HCp.out.mono ?_); rintro e v1 ⟨rfl, rfl⟩) | (refine wpList_build66 rfl rfl Z HZ.out ?_) | (refine wpList_store66 rfl (.tmp 2) (.tmp 31) rfl Q Z Z rfl rfl HQ3.out HZ6.out HZ6.out ?_))
            refine bodyPost_ret (v := .tuple #[.agg Z, .int .i64 1]) ?_ rfl ⟨_, rfl, HP, HB⟩
            rw [results_cell_tmp rfl]
            simp [asAddr, Result.andThen, HL.out]
        · obtain rfl : j = c := by omega
          go_wp2_with fail
          go_roundw
          case rel => exact ⟨i + 1, by omega, by go_num, by first | trivial | rfl, fun i' hi' => by
                        by_cases e : i' = i
                        · rw [e]; exact HJ.out
                        · exact HI.out i' (by omega)⟩
          case measure => simp [intOf]; omega
    · obtain rfl : i = r := by omega
      have HP : Hid (RtP s.data.toList (.tuple #[.agg Y, .int .i64 0])) := Or.inl ⟨i, c, ⟨HSz.out, by rw [← HF.out]; exact HI.out⟩, by rw [← HF.out, HYf.out]⟩
      go_wp2_with (first | (refine wpList_load66 rfl (.tmp 4) rfl T Y rfl HT3.out HY6.out ?_) | (refine wpList_store66 rfl (.tmp 2) (.tmp 34) rfl Q Y Z rfl rfl HQ3.out HY6.out HZ6.out ?_))
      refine bodyPost_ret (v := .tuple #[.agg Y, .int .i64 0]) ?_ rfl ⟨_, rfl, HP, HBe⟩
      rw [results_cell_tmp rfl]
      simp [asAddr, Result.andThen, HL2.out]

theorem RtP.parts {s : List UInt8} {v : Value} (h : RtP s v) : ∃ (Y : Array Value) (er : Int), v = .tuple #[.agg Y, .int .i64 er] ∧ Hid (C66 Y) ∧ Hid ((er = 0 ∧ ∃ r c, Til s r c ∧ Y = shC r c (cef (pz s))) ∨ (er = 1 ∧ Y = (shC 0 0 fun _ => 0) ∧ ∀ r c, ¬ Til s r c)) := by
  rcases h with ⟨r, c, h, rfl⟩ | ⟨h, rfl⟩
  · exact ⟨_, 0, rfl, shC_66 _ _ _, Or.inl ⟨rfl, r, c, h, rfl⟩⟩
  · exact ⟨_, 1, rfl, shC_66 _ _ _, Or.inr ⟨rfl, rfl, h⟩⟩

end Go.Proofs.YtcnmndbckjmliaaDoor
