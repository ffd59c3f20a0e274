/-
  domino.Aztec.
-/
import Derived.Test.YtcnmndbckjmliaaDoorNDi
namespace Go.Proofs.YtcnmndbckjmliaaDoor
open Go.RowKit

theorem Aztec_no (n : Int) (w : World) (hn : n < 1 ∨ 4 < n) :
    Calls Tryd.prog 18 #[.int .i64 n] w fun e w' => e = .returned (.tuple #[.string ⟨#[]⟩, .int .i64 1]) ∧ w' = w := by
  by_cases h1 : n < 1
  · go_enter Tryd.func18, Tryd.ntmps18
    go_wp2
    go_ret2
    exact ⟨rfl, rfl⟩
  · have h2 : n > 4 := by omega
    go_enter Tryd.func18, Tryd.ntmps18
    go_wp2
    go_ret2
    exact ⟨rfl, rfl⟩

set_option maxHeartbeats 4000000 in
set_option maxRecDepth 100000 in
theorem Aztec_ok (n : Nat) (w : World) (h1 : 1 ≤ n) (h4 : n ≤ 4) :
    Calls Tryd.prog 18 #[.int .i64 (n : Int)] w fun e w' => e = .returned (.tuple #[.string ⟨(tx (2 * n) (2 * n) (dmF n)).toArray⟩, .int .i64 0]) ∧ Hid (Below w.heap.size w w') := by
  obtain ⟨Z, HZ⟩ : ∃ Z, Hid (Z = shC 0 0 fun _ => 0) := ⟨_, rfl⟩
  have hz : ∀ W : World, (zeroValue 62).run Tryd.prog W = .ok (.agg Z) W := fun W => by rw [HZ.out]; exact (zero_of_info zeroS).1 W
  have HZ6 : Hid (C66 Z) := by rw [HZ.out]; exact shC_66 _ _ _
  obtain ⟨S, HS⟩ : ∃ S, Hid (S = shC (2 * n) (2 * n) (dmF n)) := ⟨_, rfl⟩
  have HS6 : Hid (C66 S) := by rw [HS.out]; exact shC_66 _ _ _
  have HC := hid_w (diamond_at n w h4)
  rw [← HS.out] at HC
  obtain ⟨t, HTt⟩ : ∃ t : ByteArray, Hid (t = ⟨(tx (2 * n) (2 * n) (dmF n)).toArray⟩) := ⟨_, rfl⟩
  rw [← HTt.out]
  have HX : Hid (∀ (W : World) (T : Nat), W.heap[T]? = some (.cells S 62 (0, 0)) → Calls Tryd.prog 39 #[.pointer (some ⟨T, 0, none⟩)] W fun e w' => e = .returned (.string t) ∧ Hid (Below W.heap.size W w')) := fun W T hT => by
    rw [HTt.out]
    exact dtext_at T (2 * n) (2 * n) (dmF n) W (by rw [← HS.out]; exact hT) (by omega) (by omega)
  have g1 : ¬ ((n : Int) < 1) := by omega
  have g2 : ¬ ((n : Int) > 4) := by omega
  go_enter Tryd.func18, Tryd.ntmps18
  go_upto_region 4 with (first | (go_at_call 45; with_reducible (refine HC.out.mono ?_); rintro e W1 ⟨rfl, HB1⟩) | (refine wpList_store66 rfl (.tmp 4) (.tmp 12) rfl W1.heap.size S Z rfl rfl (heap_alloc_last _ _) HS6.out HZ6.out ?_))
  try simp only [Act.put]
  obtain ⟨W3, HW3⟩ : ∃ W3, Hid (W3 = (W1.alloc (.cells Z 62)).setRow W1.heap.size S) := ⟨_, rfl⟩
  rw [← HW3.out]
  have HB3 : Hid (Below w.heap.size w W3) := by
    rw [HW3.out]; exact below_setRowN (HB1.out.alloc HB1.out.size _) _ HB1.out.size _
  have HT3 : Hid (W3.heap[W1.heap.size]? = some (.cells S 62 (0, 0))) := by
    show _ = _
    rw [HW3.out]; exact setRow_heap _ _ _ _ _ _ (heap_alloc_last _ _)
  have HXc := hid_w (HX.out W3 _ HT3.out)
  go_wp2_with (go_at_call 39; with_reducible (refine HXc.out.mono ?_); rintro e W4 ⟨rfl, HB4⟩)
  have HB5 : Hid (Below w.heap.size w W4) := HB3.out.trans (HB4.out.mono HB3.out.size)
  go_ret2
  exact ⟨rfl, HB5⟩

end Go.Proofs.YtcnmndbckjmliaaDoor
