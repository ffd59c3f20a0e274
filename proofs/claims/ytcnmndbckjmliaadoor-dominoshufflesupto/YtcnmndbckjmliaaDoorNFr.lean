/-
  domino.shuffled, Needs, of the greatest diamond.
-/
import Derived.Test.YtcnmndbckjmliaaDoorNNee
namespace Go.Proofs.YtcnmndbckjmliaaDoor
open Go.RowKit

set_option maxHeartbeats 8000000 in
set_option maxRecDepth 100000 in
theorem shuffled4_at (s : ByteArray) (n : Nat) (m : Int) (w : World) (hm : w.cell? ⟨0, 0, none⟩ = some (.int .i64 m)) (h1 : n = 4) (h3 : n ≤ 4) (hT : Til s.data.toList (2 * n) (2 * n)) (hb : brdT s.data.toList (2 * n) (2 * n) = tx (2 * n) (2 * n) (dmF n)) :
    Calls Tryd.prog 49 #[.string s] w fun e w' => e = .returned (.tuple #[.agg (shC 0 0 fun _ => 0), .slice none 0 0, .int .i64 2]) ∧ Hid (Below w.heap.size w w') := by
  obtain ⟨Z, HZ⟩ : ∃ Z, Hid (Z = shC 0 0 fun _ => 0) := ⟨_, rfl⟩
  have hz : ∀ W : World, (zeroValue 62).run Tryd.prog W = .ok (.agg Z) W := fun W => by rw [HZ.out]; exact (zero_of_info zeroS).1 W
  have HZ6 : Hid (C66 Z) := by rw [HZ.out]; exact shC_66 _ _ _
  obtain ⟨Q, HQ⟩ : ∃ Q, Hid (Q = w.heap.size) := ⟨_, rfl⟩
  obtain ⟨W0, HW0⟩ : ∃ W0, Hid (W0 = w.alloc (.cells Z 62)) := ⟨_, rfl⟩
  have HB0 : Hid (Below w.heap.size w W0) := by rw [HW0.out]; exact (Below.refl _ _).alloc (Nat.le_refl _) _
  have HQ0 : Hid (W0.heap[Q]? = some (.cells Z 62 (0, 0))) := by
    show _ = _
    rw [HW0.out, HQ.out]; exact heap_alloc_last _ _
  obtain ⟨R, HR0⟩ : ∃ R, Hid (R = 2 * n) := ⟨_, rfl⟩
  obtain ⟨B, HBd⟩ : ∃ B, Hid (B = shC R R (dmF n)) := ⟨_, rfl⟩
  have hR2 : Int.tdiv (R : Int) 2 = (n : Int) := by rw [HR0.out, Int.tdiv_eq_ediv_of_nonneg (by omega)]; omega
  have hn4 : (n : Int) = 4 := by omega
  have hR8 : R ≤ 8 := by rw [HR0.out]; omega
  have HH := hid_w (And.intro (show 1 ≤ n by omega) h3)
  have HTl := hid_w hT
  have HBb := hid_w hb
  have hm0 : W0.cell? ⟨0, 0, none⟩ = some (.int .i64 m) := by
    rw [HW0.out, World.cell?_alloc_past _ _ _ (World.block_lt_of_cell? w ⟨0, 0, none⟩ hm)]; exact hm
  have HCr := hid_w (readT_at s m W0 hm0)
  clear hm hm0 hT hb h1
  go_enter Tryd.func49, Tryd.ntmps49
  go_upto_region 1 with fail
  rw [← HQ.out, ← HW0.out]
  go_upto_region 2 with (first | (go_at_call 40; with_reducible (refine HCr.out.mono ?_); rintro e W1 ⟨v, rfl, HR, HB1⟩; obtain ⟨Y, er, rfl, HY6, HYr⟩ := HR.out.parts) | (refine wpList_store66 rfl (.tmp 5) (.tmp 12) rfl W1.heap.size Y Z rfl rfl (heap_alloc_last _ _) HY6.out HZ6.out ?_))
  try simp only [Act.put]
  obtain ⟨T, HT⟩ : ∃ T, Hid (T = W1.heap.size) := ⟨_, rfl⟩
  obtain ⟨W3, HW3⟩ : ∃ W3, Hid (W3 = (W1.alloc (.cells Z 62)).setRow W1.heap.size Y) := ⟨_, rfl⟩
  rw [← HW3.out, ← HT.out]
  have HB13 : Hid (Below W1.heap.size W1 W3) := by
    rw [HW3.out]; exact below_setRowN ((Below.refl _ _).alloc (Nat.le_refl _) _) _ (Nat.le_refl _) _
  have HB3 : Hid (Below W0.heap.size W0 W3) := HB1.out.trans (HB13.out.mono HB1.out.size)
  have HT3 : Hid (W3.heap[T]? = some (.cells Y 62 (0, 0))) := by
    show _ = _
    rw [HW3.out, HT.out]; exact setRow_heap _ _ _ _ _ _ (heap_alloc_last _ _)
  obtain ⟨f, HF⟩ : ∃ f, Hid (f = cef (pz s.data.toList)) := ⟨_, rfl⟩
  have hYr : er = 0 ∧ Y = shC R R f := by
    rcases HYr.out with ⟨h0, r, c, htl, hY⟩ | ⟨_, _, hno⟩
    · obtain ⟨rfl, rfl⟩ := til_eqB HTl.out htl
      exact ⟨h0, by rw [hY, HR0.out, HF.out]⟩
    · exact absurd HTl.out (hno _ _)
  obtain ⟨rfl, hY⟩ := hYr
  have HYf : Hid (Y = shC R R f) := hY
  have HTf : Hid (∀ W, Below W3.heap.size W3 W → W.heap[T]? = some (.cells (shC R R f) 62 (0, 0))) := fun W hW => by rw [hW.block T (lt_someN HT3.out), ← HYf.out]; exact HT3.out
  have s0 : W3.cell? ⟨T, 0, none⟩ = some (.int .i64 (R : Int)) := by rw [cell_of_row W3 T _ _ _ _ (HTf.out W3 (Below.refl _ _)), shC_get _ _ _ _ (by omega)]; rfl
  have HCb : Hid (Calls Tryd.prog 41 #[.pointer (some ⟨T, 0, none⟩)] W3 fun e w' => e = .returned (.agg B) ∧ Hid (Below W3.heap.size W3 w')) := by
    have h := dboard_at T R R f W3 (HTf.out W3 (Below.refl _ _)) (by omega) (by omega)
    rw [HBd.out, HR0.out, ← board_dm HH.out.1 HH.out.2 HTl.out HBb.out, ← HR0.out, ← HF.out]; exact h
  have HCd : Hid (∀ W, Calls Tryd.prog 45 #[.int .i64 4] W fun e w' => e = .returned (.agg B) ∧ Hid (Below W.heap.size W w')) := fun W => by
    rw [HBd.out, HR0.out, ← hn4]; exact diamond_at n W HH.out.2
  clear hY HYr HR
  go_upto_region 5 with fail
  clear s0
  have HB03 : Hid (Below w.heap.size w W3) := HB0.out.trans (HB3.out.mono HB0.out.size)
  have HQ3 : Hid (W3.heap[Q]? = some (.cells Z 62 (0, 0))) := by
    show _ = _
    rw [HB3.out.block Q (lt_someN HQ0.out)]; exact HQ0.out
  have HLq : Hid (∀ W : World, Hid (Below W3.heap.size W3 W) → Hid (W.heap[Q]? = some (.cells Z 62 (0, 0)))) := fun W hW => by
    show _ = _
    rw [hW.out.block Q (lt_someN HQ3.out)]; exact HQ3.out
  go_upto_region 8 with (first | (go_at_call 41; with_reducible (refine HCb.out.mono ?_); rintro e W4 ⟨rfl, HB4⟩; have HCd4 := hid_w (HCd.out W4)) | (go_at_call 45; with_reducible (refine HCd4.out.mono ?_); rintro e W5 ⟨rfl, HB5⟩) | (refine wpList_neq66 rfl (.tmp 21) (.tmp 23) _ rfl B R R (dmF n) rfl rfl HBd.out (by omega) (by omega) ?_))
  have HB35 : Hid (Below W3.heap.size W3 W5) := HB4.out.trans (HB5.out.mono HB4.out.size)
  have HQ5 := hid_w (HLq.out W5 HB35)
  have HLd : Hid ((loadVar 62 ⟨Q, 0, none⟩).run Tryd.prog (W5.setRow Q Z) = .ok (.agg Z) (W5.setRow Q Z)) := load_66 _ _ _ HZ6.out (setRow_heap _ _ _ _ _ _ HQ5.out.out)
  have HB6 : Hid (Below w.heap.size w (W5.setRow Q Z)) := below_setRowN (HB03.out.trans (HB35.out.mono HB03.out.size)) Q (by rw [HQ.out]; exact Nat.le_refl _) _
  go_wp2_with (first | (refine wpList_build66 rfl rfl Z HZ.out ?_) | (refine wpList_store66 rfl (.tmp 2) (.tmp 28) rfl Q Z Z rfl rfl HQ5.out.out HZ6.out HZ6.out ?_))
  refine bodyPost_ret (v := .tuple #[.agg Z, .slice none 0 0, .int .i64 2]) ?_ rfl ⟨by rw [HZ.out], HB6⟩
  rw [results_three rfl]
  simp [asAddr, Result.andThen, HLd.out]

set_option maxHeartbeats 8000000 in
set_option maxRecDepth 100000 in
theorem Needs4_at (s : ByteArray) (n : Nat) (m : Int) (w : World) (hm : w.cell? ⟨0, 0, none⟩ = some (.int .i64 m)) (h1 : n = 4) (hT : Til s.data.toList (2 * n) (2 * n)) (hb : brdT s.data.toList (2 * n) (2 * n) = tx (2 * n) (2 * n) (dmF n)) :
    Calls Tryd.prog 25 #[.string s] w fun e w' => e = .returned (.tuple #[.int .i64 0, .int .i64 2]) ∧ Hid (Below w.heap.size w w') := by
  obtain ⟨Z, HZ⟩ : ∃ Z, Hid (Z = shC 0 0 fun _ => 0) := ⟨_, rfl⟩
  have hz : ∀ W : World, (zeroValue 62).run Tryd.prog W = .ok (.agg Z) W := fun W => by rw [HZ.out]; exact (zero_of_info zeroS).1 W
  have HZ6 : Hid (C66 Z) := by rw [HZ.out]; exact shC_66 _ _ _
  have HC := hid_w (shuffled4_at s n m w hm h1 (by omega) hT hb)
  rw [← HZ.out] at HC
  clear hm h1 hT hb
  go_enter Tryd.func25, Tryd.ntmps25
  go_upto_region 2 with (first | (go_at_call 49; with_reducible (refine HC.out.mono ?_); rintro e W1 ⟨rfl, HB1⟩) | (refine wpList_store66 rfl (.tmp 4) (.tmp 10) rfl W1.heap.size Z Z rfl rfl (heap_alloc_last _ _) HZ6.out HZ6.out ?_))
  try simp only [Act.put]
  have HB3 : Hid (Below w.heap.size w ((W1.alloc (.cells Z 62)).setRow W1.heap.size Z)) := below_setRowN (HB1.out.alloc HB1.out.size _) _ HB1.out.size _
  go_wp2_with fail
  go_ret2
  exact ⟨rfl, HB3⟩

end Go.Proofs.YtcnmndbckjmliaaDoor
