/-
  The contracts of wide.Of and of the product of two Numbers.
-/
import Derived.Test.YtfdhbnbmobmlpaaDoorWTim
namespace Go.Proofs.YtfdhbnbmobmlpaaDoor
open Go.RowKit

/-- A Number, laid down. -/
theorem num_store {w : World} {B : Nat} {a b x y : Value} {ty : TypeId} (h : w.heap[B]? = some (.cells #[a, b] ty (0, 0))) : ((w.setCell ⟨B, 0, none⟩ x).setCell ⟨B, 1, none⟩ y).heap[B]? = some (.cells #[x, y] ty (0, 0)) := by
  have h1 := heap_setCell_same w B 0 _ _ x h
  have h2 := heap_setCell_same _ B 1 _ _ y h1
  simpa using h2

set_option maxHeartbeats 2000000 in
theorem Of_at (x : Nat) (w : World) (hx : x ≤ 4611686018427387904) :
    Calls Tryd.prog 21 #[.int .i64 (x : Int)] w fun e w' => ∃ v, e = .returned (.agg #[.bool false, v]) ∧ GrC w' w.heap.size v x 3 ∧ Below w.heap.size w w' := by
  have hB : Below w.heap.size w (w.alloc (.cells #[.bool false, .slice none 0 0] 49)) := (Below.refl _ _).alloc (Nat.le_refl _) _
  have HB : Hid (Below w.heap.size w (w.alloc (.cells #[.bool false, .slice none 0 0] 49))) := hB
  have HG : Hid (∀ W, Calls Tryd.prog 28 #[.int .u64 (x : Int)] W fun e w' => ∃ v, e = .returned v ∧ Hid (GrC w' W.heap.size v x 3) ∧ Hid (Below W.heap.size W w')) := fun W => groupsOf_at x W (by omega)
  have hconv : IntKind.u64.wrap (x : Int) = (x : Int) := by rw [IntKind.wrap_u64]; omega
  have hneg : ¬ ((x : Int) < 0) := by omega
  clear hB
  go_enter Tryd.func21, Tryd.ntmps21
  go_wp2_with fail
  refine (HG.out _).mono ?_
  rintro e w1 ⟨v, rfl, HV, HB1⟩
  obtain ⟨a, n, cap, rfl⟩ := HV.out.shape
  have hblk : w1.heap[w.heap.size]? = some (.cells #[.bool false, .slice none 0 0] 49 (0, 0)) := by
    rw [HB1.out.block w.heap.size (by simp)]; exact heap_alloc_new _ _
  have c0 : w1.cell? ⟨w.heap.size, 0, none⟩ = some (.bool false) := by simp [World.cell?, hblk]
  have c1 : w1.cell? ⟨w.heap.size, 1, none⟩ = some (.slice none 0 0) := by simp [World.cell?, hblk]
  have f0 : w1.frozen? ⟨w.heap.size, 0, none⟩ = false := frozen_of_row w1 _ 0 _ _ hblk
  have f1 : w1.frozen? ⟨w.heap.size, 1, none⟩ = false := frozen_of_row w1 _ 1 _ _ hblk
  have HF := hid_w (num_store (x := .bool false) (y := .slice a n cap) hblk)
  have HB2 : Hid (Below w.heap.size w ((w1.setCell ⟨w.heap.size, 0, none⟩ (.bool false)).setCell ⟨w.heap.size, 1, none⟩ (.slice a n cap))) := ((HB.out.trans (HB1.out.mono HB.out.size)).setCell (p := ⟨w.heap.size, 0, none⟩) (Nat.le_refl _) _).setCell (p := ⟨w.heap.size, 1, none⟩) (Nat.le_refl _) _
  have HV2 : Hid (GrC ((w1.setCell ⟨w.heap.size, 0, none⟩ (.bool false)).setCell ⟨w.heap.size, 1, none⟩ (.slice a n cap)) w.heap.size (.slice a n cap) x 3) := ((HV.out.store (by simp)).store (by simp)).mono (by simp) (Nat.le_refl _)
  go_wp2
  have d0 : ((w1.setCell ⟨w.heap.size, 0, none⟩ (.bool false)).setCell ⟨w.heap.size, 1, none⟩ (.slice a n cap)).cell? ⟨w.heap.size, 0, none⟩ = some (.bool false) := by simp [World.cell?, HF.out]
  have d1 : ((w1.setCell ⟨w.heap.size, 0, none⟩ (.bool false)).setCell ⟨w.heap.size, 1, none⟩ (.slice a n cap)).cell? ⟨w.heap.size, 1, none⟩ = some (.slice a n cap) := by simp [World.cell?, HF.out]
  refine bodyPost_ret (v := .agg #[.bool false, .slice a n cap]) (by simp [results, go_sem, d0, d1]) rfl ⟨_, rfl, HV2.out, HB2.out⟩

/-- A product of groups. -/
theorem gtimes_c (v1 v2 : Value) (x y N M : Nat) (w : World) {l1 l2 : Nat} (h1 : GrC w l1 v1 x N) (h2 : GrC w l2 v2 y M) (hN : N ≤ 100000) (hM : M ≤ 100000) :
    Calls Tryd.prog 30 #[v1, v2] w fun e w' => ∃ v, e = .returned v ∧ GrC w' w.heap.size v (x * y) (N + M) ∧ Below w.heap.size w w' := by
  obtain ⟨n, f, g1, k1, e1⟩ := h1
  obtain ⟨m, k, g2, k2, e2⟩ := h2
  refine (gtimes_at v1 v2 n m f k w g1 g2 k1.dg k2.dg (by omega) (by omega)).mono ?_
  rintro e w' ⟨v, rfl, hv, hb⟩
  rw [k1.val, k2.val] at hv
  exact ⟨v, rfl, hv.mono (Nat.le_refl _) (by omega), hb⟩

set_option maxHeartbeats 4000000 in
theorem NTimes_at (v1 v2 : Value) (x y N M : Nat) (w : World) {l1 l2 : Nat} (h1 : GrC w l1 v1 x N) (h2 : GrC w l2 v2 y M) (hN : N ≤ 100000) (hM : M ≤ 100000) :
    Calls Tryd.prog 23 #[.agg #[.bool false, v1], .agg #[.bool false, v2]] w fun e w' => ∃ v, e = .returned (.agg #[.bool false, v]) ∧ GrC w' w.heap.size v (x * y) (N + M) ∧ Below w.heap.size w w' := by
  obtain ⟨W, hW⟩ : ∃ W, W = ((w.alloc (.cells #[.bool false, v1] 49)).alloc (.cells #[.bool false, v2] 49)).alloc (.cells #[.bool false, .slice none 0 0] 49) := ⟨_, rfl⟩
  have hB : Below w.heap.size w W := by rw [hW]; exact (((Below.refl _ _).alloc (Nat.le_refl _) _).alloc (by simp) _).alloc (by simp; omega) _
  have hWs : W.heap.size = w.heap.size + 3 := by rw [hW]; simp
  have b0 : W.heap[w.heap.size]? = some (.cells #[.bool false, v1] 49 (0, 0)) := by
    rw [hW, Below.heap_alloc _ _ _ (by simp; omega), Below.heap_alloc _ _ _ (by simp)]; exact heap_alloc_new _ _
  have b1 : W.heap[w.heap.size + 1]? = some (.cells #[.bool false, v2] 49 (0, 0)) := by
    rw [hW, Below.heap_alloc _ _ _ (by simp)]
    have := heap_alloc_new (w.alloc (.cells #[.bool false, v1] 49)) (.cells #[.bool false, v2] 49)
    simpa using this
  have b2 : W.heap[w.heap.size + 2]? = some (.cells #[.bool false, .slice none 0 0] 49 (0, 0)) := by
    rw [hW]
    have := heap_alloc_new ((w.alloc (.cells #[.bool false, v1] 49)).alloc (.cells #[.bool false, v2] 49)) (.cells #[.bool false, .slice none 0 0] 49)
    simpa using this
  have hs1 : ∃ a n c, v1 = .slice a n c := h1.shape
  have hs2 : ∃ a n c, v2 = .slice a n c := h2.shape
  have HG : Hid (Calls Tryd.prog 30 #[v1, v2] W fun e w' => ∃ v, e = .returned v ∧ Hid (GrC w' W.heap.size v (x * y) (N + M)) ∧ Hid (Below W.heap.size W w')) := gtimes_c v1 v2 x y N M W (h1.below hB) (h2.below hB) hN hM
  have HB : Hid (Below w.heap.size w W) := hB
  have HWs : Hid (W.heap.size = w.heap.size + 3) := hWs
  have HB2 : Hid (W.heap[w.heap.size + 2]? = some (.cells #[.bool false, .slice none 0 0] 49 (0, 0))) := b2
  have HB01 : Hid (W.heap[w.heap.size]? = some (.cells #[.bool false, v1] 49 (0, 0)) ∧ W.heap[w.heap.size + 1]? = some (.cells #[.bool false, v2] 49 (0, 0))) := ⟨b0, b1⟩
  have c01 : W.cell? ⟨w.heap.size, 1, none⟩ = some v1 := by simp [World.cell?, b0]
  have c11 : W.cell? ⟨w.heap.size + 1, 1, none⟩ = some v2 := by simp [World.cell?, b1]
  obtain ⟨a1, n1, cp1, rfl⟩ := hs1
  obtain ⟨a2, n2, cp2, rfl⟩ := hs2
  clear h1 h2 hB hWs b0 b1 b2
  go_enter Tryd.func23, Tryd.ntmps23
  go_upto_region 1 with fail
  rw [← hW]
  clear hW
  go_wp2_with fail
  refine HG.out.mono ?_
  rintro e w1 ⟨v, rfl, HV, HB1⟩
  obtain ⟨a, n, cap, rfl⟩ := HV.out.shape
  have hs := HWs.out
  have hblk : w1.heap[w.heap.size + 2]? = some (.cells #[.bool false, .slice none 0 0] 49 (0, 0)) := by
    rw [HB1.out.block (w.heap.size + 2) (by omega)]; exact HB2.out
  have d00 : w1.cell? ⟨w.heap.size, 0, none⟩ = some (.bool false) := by
    rw [HB1.out.cell (p := ⟨w.heap.size, 0, none⟩) (by show w.heap.size < _; omega)]; simp [World.cell?, HB01.out.1]
  have d10 : w1.cell? ⟨w.heap.size + 1, 0, none⟩ = some (.bool false) := by
    rw [HB1.out.cell (p := ⟨w.heap.size + 1, 0, none⟩) (by show w.heap.size + 1 < _; omega)]; simp [World.cell?, HB01.out.2]
  have c0 : w1.cell? ⟨w.heap.size + 2, 0, none⟩ = some (.bool false) := by simp [World.cell?, hblk]
  have c1 : w1.cell? ⟨w.heap.size + 2, 1, none⟩ = some (.slice none 0 0) := by simp [World.cell?, hblk]
  have f0 : w1.frozen? ⟨w.heap.size + 2, 0, none⟩ = false := frozen_of_row w1 _ 0 _ _ hblk
  have f1 : w1.frozen? ⟨w.heap.size + 2, 1, none⟩ = false := frozen_of_row w1 _ 1 _ _ hblk
  have HF := hid_w (num_store (x := .bool false) (y := .slice a n cap) hblk)
  have HB3 : Hid (Below w.heap.size w ((w1.setCell ⟨w.heap.size + 2, 0, none⟩ (.bool false)).setCell ⟨w.heap.size + 2, 1, none⟩ (.slice a n cap))) := ((HB.out.trans (HB1.out.mono HB.out.size)).setCell (p := ⟨w.heap.size + 2, 0, none⟩) (by show w.heap.size ≤ w.heap.size + 2; omega) _).setCell (p := ⟨w.heap.size + 2, 1, none⟩) (by show w.heap.size ≤ w.heap.size + 2; omega) _
  have HV2 : Hid (GrC ((w1.setCell ⟨w.heap.size + 2, 0, none⟩ (.bool false)).setCell ⟨w.heap.size + 2, 1, none⟩ (.slice a n cap)) w.heap.size (.slice a n cap) (x * y) (N + M)) := ((HV.out.store (by omega)).store (by omega)).mono (by omega) (Nat.le_refl _)
  clear hs
  go_wp2
  have d0 : ((w1.setCell ⟨w.heap.size + 2, 0, none⟩ (.bool false)).setCell ⟨w.heap.size + 2, 1, none⟩ (.slice a n cap)).cell? ⟨w.heap.size + 2, 0, none⟩ = some (.bool false) := by simp [World.cell?, HF.out]
  have d1 : ((w1.setCell ⟨w.heap.size + 2, 0, none⟩ (.bool false)).setCell ⟨w.heap.size + 2, 1, none⟩ (.slice a n cap)).cell? ⟨w.heap.size + 2, 1, none⟩ = some (.slice a n cap) := by simp [World.cell?, HF.out]
  refine bodyPost_ret (v := .agg #[.bool false, .slice a n cap]) (by simp [results, go_sem, d0, d1]) rfl ⟨_, rfl, HV2.out, HB3.out⟩

end Go.Proofs.YtfdhbnbmobmlpaaDoor
