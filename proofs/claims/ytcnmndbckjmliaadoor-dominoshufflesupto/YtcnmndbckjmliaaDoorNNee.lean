/-
  domino.Needs, Shuffle.
-/
import Derived.Test.YtcnmndbckjmliaaDoorNShu
import Derived.Deep.RegionHeld3
namespace Go.Proofs.YtcnmndbckjmliaaDoor
open Go.RowKit

/-- What shuffled needs to know. -/
structure ShH (s : List UInt8) (n : Nat) (N0 : Nat → UInt8) (l : List (Int × Int)) (N1 : Nat → UInt8) : Prop where
  lo : 1 ≤ n
  hi : n ≤ 3
  til : Til s (2 * n) (2 * n)
  brd : brdT s (2 * n) (2 * n) = tx (2 * n) (2 * n) (dmF n)
  eq0 : N0 = spA (2 * n) (2 * n) n (cef (pz s)) (2 * n) 0
  ok : ∀ i j, i < 2 * (n + 1) → j < 2 * (n + 1) → (cbA (2 * (n + 1)) N0 i j).1 (i * 8 + j) = 35 → i + 1 < 8 ∧ j + 1 < 8
  eql : l = (cbA (2 * (n + 1)) N0 (2 * (n + 1)) 0).2
  eq1 : N1 = (cbA (2 * (n + 1)) N0 (2 * (n + 1)) 0).1
theorem ShH.run {s : ByteArray} {n : Nat} {N0 : Nat → UInt8} {l : List (Int × Int)} {N1 : Nat → UInt8} (h : ShH s.data.toList n N0 l N1) (m : Int) (w : World) (hm : w.cell? ⟨0, 0, none⟩ = some (.int .i64 m)) (d : Nat) (hd : d = 2 * (n + 1)) :
    Calls Tryd.prog 49 #[.string s] w fun e w' => ∃ N a cp, e = .returned (.tuple #[.agg (shC d d N), .slice a l.length cp, .int .i64 0]) ∧ Hid (N = N0 ∨ N = N1) ∧ Hid (PtI w' a l) ∧ Hid (Below w.heap.size w w') := by
  subst hd
  refine (shuffled_at s n m w hm h.lo h.hi h.til h.brd N0 h.eq0 _ rfl h.ok).mono ?_
  rintro e w' ⟨N, v, rfl, hN, hO, hB⟩
  rw [← h.eql] at hO
  rw [← h.eq1] at hN
  obtain ⟨a, cp, rfl, hP, _⟩ := OwPt.open hO.out
  exact ⟨N, a, cp, rfl, hN, hP, hB⟩

set_option maxHeartbeats 8000000 in
set_option maxRecDepth 100000 in
theorem Needs_at {s : ByteArray} {n : Nat} {N0 : Nat → UInt8} {l : List (Int × Int)} {N1 : Nat → UInt8} (h : ShH s.data.toList n N0 l N1) (m : Int) (w : World) (hm : w.cell? ⟨0, 0, none⟩ = some (.int .i64 m)) (L : Nat) (hL : L = l.length) :
    Calls Tryd.prog 25 #[.string s] w fun e w' => e = .returned (.tuple #[.int .i64 (L : Int), .int .i64 0]) ∧ Hid (Below w.heap.size w w') := by
  obtain ⟨Z, HZ⟩ : ∃ Z, Hid (Z = shC 0 0 fun _ => 0) := ⟨_, rfl⟩
  have hz : ∀ W : World, (zeroValue 62).run Tryd.prog W = .ok (.agg Z) W := fun W => by rw [HZ.out]; exact (zero_of_info zeroS).1 W
  have HZ6 : Hid (C66 Z) := by rw [HZ.out]; exact shC_66 _ _ _
  have HC : Hid (Calls Tryd.prog 49 #[.string s] w fun e w' => ∃ Y a cp, e = .returned (.tuple #[.agg Y, .slice a L cp, .int .i64 0]) ∧ Hid (C66 Y) ∧ Hid (Below w.heap.size w w')) := by
    refine (h.run m w hm _ rfl).mono ?_
    rintro e w' ⟨N, a, cp, rfl, _, _, hB⟩
    exact ⟨_, a, cp, by rw [hL], shC_66 _ _ _, hB⟩
  clear hm hL h
  go_enter Tryd.func25, Tryd.ntmps25
  go_upto_region 2 with (first | (go_at_call 49; with_reducible (refine HC.out.mono ?_); rintro e W1 ⟨Y, a1, cp1, rfl, HY6, HB1⟩) | (refine wpList_store66 rfl (.tmp 4) (.tmp 10) rfl W1.heap.size Y Z rfl rfl (heap_alloc_last _ _) HY6.out HZ6.out ?_))
  try simp only [Act.put]
  have HB3 : Hid (Below w.heap.size w ((W1.alloc (.cells Z 62)).setRow W1.heap.size Y)) := below_setRowN (HB1.out.alloc HB1.out.size _) _ HB1.out.size _
  go_wp2_with fail
  go_ret2
  exact ⟨rfl, HB3⟩

/-- Blocks covered, one after the other. -/
def cvK (l : List (Int × Int)) (us : List Bool) (g : Nat → UInt8) : Nat → Nat → UInt8
  | 0 => g
  | k + 1 => cvF (cvK l us g k) (l.getD k (0, 0)).2.toNat (l.getD k (0, 0)).1.toNat (us.getD k false)
/-- The cells of a list of choices. -/
def BoI (w : World) (a : Option Addr) (us : List Bool) : Prop := ∀ j, j < us.length → ∃ b, a = some ⟨b, 0, none⟩ ∧ b < w.heap.size ∧ w.cell? ⟨b, j, none⟩ = some (.bool (us.getD j false))

set_option maxHeartbeats 8000000 in
set_option maxRecDepth 100000 in
theorem Shuffle_at {s : ByteArray} {n : Nat} {N0 : Nat → UInt8} {l : List (Int × Int)} {N1 : Nat → UInt8} (h : ShH s.data.toList n N0 l N1) (m : Int) (w : World) (hm : w.cell? ⟨0, 0, none⟩ = some (.int .i64 m)) (us : List Bool) (L : Nat) (hL : L = l.length) (hus : us.length = L) (hL64 : L ≤ 64) (ua : Option Addr) (uc : Nat) (hu : BoI w ua us)
    (hbl : ∀ k, k < l.length → ∃ i j : Nat, l.getD k (0, 0) = ((j : Int), (i : Int)) ∧ i + 1 < 8 ∧ j + 1 < 8) (x : ByteArray) (d : Nat) (hd : d = 2 * (n + 1)) (hx0 : x = ⟨(tx d d (cvK l us N0 L)).toArray⟩) (hx1 : x = ⟨(tx d d (cvK l us N1 L)).toArray⟩) :
    Calls Tryd.prog 26 #[.string s, .slice ua L uc] w fun e w' => e = .returned (.tuple #[.string x, .int .i64 0]) ∧ Hid (Below w.heap.size w w') := by
  obtain ⟨Z, HZ⟩ : ∃ Z, Hid (Z = shC 0 0 fun _ => 0) := ⟨_, rfl⟩
  have hz : ∀ W : World, (zeroValue 62).run Tryd.prog W = .ok (.agg Z) W := fun W => by rw [HZ.out]; exact (zero_of_info zeroS).1 W
  have HZ6 : Hid (C66 Z) := by rw [HZ.out]; exact shC_66 _ _ _
  have HUb : Hid (BoI w ua us) := hu
  have HUs := hid_w hus
  have HLl := hid_w hL
  have HBl := hid_w hbl
  have HD8 : Hid (1 ≤ d ∧ d ≤ 8) := by have := h.lo; have := h.hi; exact ⟨by omega, by omega⟩
  have HC : Hid (Calls Tryd.prog 49 #[.string s] w fun e w' => ∃ Y N a cp, e = .returned (.tuple #[.agg Y, .slice a L cp, .int .i64 0]) ∧ Hid (C66 Y) ∧ Hid (Y = shC d d N) ∧ Hid (x = ⟨(tx d d (cvK l us N L)).toArray⟩) ∧ Hid (PtI w' a l) ∧ Hid (Below w.heap.size w w')) := by
    refine (h.run m w hm d hd).mono ?_
    rintro e w' ⟨N, a, cp, rfl, hN, hP, hB⟩
    refine ⟨_, N, a, cp, by rw [hL], shC_66 _ _ _, rfl, ?_, hP, hB⟩
    rcases hN.out with rfl | rfl
    · exact hx0
    · exact hx1
  clear hm h hu hus hL hbl hx0 hx1 hd
  go_enter Tryd.func26, Tryd.ntmps26
  go_upto_region 2 with (first | (go_at_call 49; with_reducible (refine HC.out.mono ?_); rintro e W1 ⟨Y, N, a1, cp1, rfl, HY6, HYN, HX, HP, HB1⟩) | (refine wpList_store66 rfl (.tmp 6) (.tmp 14) rfl W1.heap.size Y Z rfl rfl (heap_alloc_last _ _) HY6.out HZ6.out ?_))
  try simp only [Act.put]
  obtain ⟨T, HT⟩ : ∃ T, Hid (T = W1.heap.size) := ⟨_, rfl⟩
  obtain ⟨W3, HW3⟩ : ∃ W3, Hid (W3 = (W1.alloc (.cells Z 62)).setRow W1.heap.size Y) := ⟨_, rfl⟩
  rw [← HW3.out, ← HT.out]
  have HB13 : Hid (Below W1.heap.size W1 W3) := by
    rw [HW3.out]; exact below_setRowN ((Below.refl _ _).alloc (Nat.le_refl _) _) _ (Nat.le_refl _) _
  have HB3 : Hid (Below w.heap.size w W3) := HB1.out.trans (HB13.out.mono HB1.out.size)
  have HT3 : Hid (W3.heap[T]? = some (.cells (shC d d (cvK l us N 0)) 62 (0, 0))) := by
    show _ = _
    rw [HW3.out, HT.out, show cvK l us N 0 = N from rfl, ← HYN.out]; exact setRow_heap _ _ _ _ _ _ (heap_alloc_last _ _)
  have HTl : Hid (w.heap.size ≤ T ∧ W1.heap.size ≤ T) := ⟨by rw [HT.out]; exact HB1.out.size, by rw [HT.out]; exact Nat.le_refl _⟩
  have HB11 : Hid (Below W1.heap.size W1 W3) := HB13
  go_wp2_with fail
  go_loopw [27] (fun v wr => ∃ k : Nat, k ≤ L ∧ v = .int .i64 (k : Int) ∧ Hid (wr.heap[T]? = some (.cells (shC d d (cvK l us N k)) 62 (0, 0))) ∧ Hid (Below W1.heap.size W1 wr)) (fun v _ => L - (intOf v).toNat)
  case atStart => exact ⟨0, Nat.zero_le _, rfl, HT3, HB11⟩
  case round =>
    clear HT3 HB11
    obtain ⟨k, hk, rfl, HTk, HBk⟩ := hrel
    by_cases hlt : k < L
    · have hlt' : (k : Int) < (L : Int) := by omega
      obtain ⟨i, j, hij, hi8, hj8⟩ := HBl.out k (by rw [← HLl.out]; exact hlt)
      have HIJ : Hid (l.getD k (0, 0) = ((j : Int), (i : Int)) ∧ i + 1 < 8 ∧ j + 1 < 8) := ⟨hij, hi8, hj8⟩
      obtain ⟨b2, o2, rfl, hb2, k0, k1⟩ := (HP.out.below HBk.out) k (by rw [← HLl.out]; exact hlt)
      rw [hij] at k0 k1
      obtain ⟨b3, rfl, hb3, k3⟩ := HUb.out k (by rw [HUs.out]; exact hlt)
      replace k3 := ((HB1.out.trans (HBk.out.mono HB1.out.size)).cell (p := ⟨b3, k, none⟩) hb3).trans k3
      obtain ⟨o, HO⟩ : ∃ o, Hid (o = us.getD k false) := ⟨_, rfl⟩
      rw [← HO.out] at k3
      have HB23 : Hid (b3 < w.heap.size) := hb3
      clear hij hb2 hb3
      go_upto_region 9 with fail
      obtain ⟨P, HPq⟩ : ∃ P, Hid (P = wr.heap.size) := ⟨_, rfl⟩
      obtain ⟨W0, HW0⟩ : ∃ W0, Hid (W0 = wr.alloc (.cells #[.int .i64 (j : Int), .int .i64 (i : Int)] 36)) := ⟨_, rfl⟩
      have HB0 : Hid (Below W1.heap.size W1 W0) := by rw [HW0.out]; exact HBk.out.alloc HBk.out.size _
      have HP0 : Hid (W0.heap[P]? = some (.cells #[.int .i64 (j : Int), .int .i64 (i : Int)] 36 (0, 0))) := by
        show _ = _
        rw [HW0.out, HPq.out]; exact heap_alloc_last _ _
      have HT0 : Hid (W0.heap[T]? = some (.cells (shC d d (cvK l us N k)) 62 (0, 0))) := by
        have hal : Below wr.heap.size wr W0 := by rw [HW0.out]; exact (Below.refl _ _).alloc (Nat.le_refl _) _
        show _ = _
        rw [hal.block T (lt_someN HTk.out)]; exact HTk.out
      have HPT : Hid (P ≠ T ∧ b3 ≠ T) := ⟨by have a := lt_someN HTk.out; have b := HPq.out; omega, by have a := HTl.out.1; have b := HB23.out; omega⟩
      have d0 : W0.drew.cell? ⟨P, 0, none⟩ = some (.int .i64 (j : Int)) := by
        show W0.cell? _ = _
        rw [cell_of_row W0 P _ _ _ _ HP0.out]; rfl
      have d1 : W0.drew.cell? ⟨P, 1, none⟩ = some (.int .i64 (i : Int)) := by
        show W0.cell? _ = _
        rw [cell_of_row W0 P _ _ _ _ HP0.out]; rfl
      have d3 : W0.drew.cell? ⟨b3, k, none⟩ = some (.bool o) := by
        show W0.cell? _ = _
        rw [HW0.out, World.cell?_alloc_past _ _ _ (World.block_lt_of_cell? wr ⟨b3, k, none⟩ k3)]; exact k3
      have HCk : Hid (Calls Tryd.prog 47 #[.pointer (some ⟨T, 0, none⟩), .int .i64 (i : Int), .int .i64 (j : Int), .bool o] W0.drew fun e w' => e = .returned (.tuple #[]) ∧ w'.cell? ⟨P, 0, none⟩ = some (.int .i64 (j : Int)) ∧ w'.cell? ⟨P, 1, none⟩ = some (.int .i64 (i : Int)) ∧ w'.cell? ⟨b3, k, none⟩ = some (.bool o) ∧ Hid (w'.heap[T]? = some (.cells (shC d d (cvK l us N (k + 1))) 62 (0, 0))) ∧ Hid (Below W1.heap.size W1 w')) := by
        refine (dcover_at T d d (cvK l us N k) i j o W0.drew HT0.out HIJ.out.2.1 HIJ.out.2.2).mono ?_
        rintro e w' ⟨rfl, hT, hK⟩
        have hc : ∀ (b q : Nat), b ≠ T → w'.cell? ⟨b, q, none⟩ = W0.drew.cell? ⟨b, q, none⟩ := fun b q hb => World.cell?_of_block (a := ⟨b, q, none⟩) (w := W0.drew) (hK.out.2.2 b hb)
        have hn : cvK l us N (k + 1) = cvF (cvK l us N k) i j o := by
          rw [HO.out]
          show cvF _ _ _ _ = _
          rw [HIJ.out.1]; rfl
        exact ⟨rfl, (hc P 0 HPT.out.1).trans d0, (hc P 1 HPT.out.1).trans d1, (hc b3 k HPT.out.2).trans d3, by rw [hn]; exact hT, below_smA (below_drewN HB0.out _) HTl.out.2 hK.out⟩
      rw [← HPq.out, ← HW0.out]
      clear k0 k1 k3
      go_region_held3 (fun W => W.cell? ⟨P, 0, none⟩ = some (.int .i64 (j : Int)) ∧ W.cell? ⟨P, 1, none⟩ = some (.int .i64 (i : Int)) ∧ W.cell? ⟨b3, k, none⟩ = some (.bool o)) (go_keep) (first
        | (go_at_call 47; with_reducible (refine HCk.out.mono ?_); rintro e W5 ⟨rfl, k0, k1, k3, HT5, HB5⟩))
      go_wp2_with fail
      go_roundw
      case rel => exact ⟨k + 1, by omega, by go_num, HT5, HB5⟩
      case measure => simp [intOf]; omega
    · obtain rfl : k = L := by omega
      have HXt : Hid (Calls Tryd.prog 39 #[.pointer (some ⟨T, 0, none⟩)] wr fun e w' => e = .returned (.string x) ∧ Hid (Below wr.heap.size wr w')) := by
        rw [HX.out]
        exact dtext_at T d d (cvK l us N k) wr HTk.out HD8.out.2 HD8.out.2
      have HBw : Hid (Below w.heap.size w wr) := HB1.out.trans (HBk.out.mono HB1.out.size)
      go_wp2_with (go_at_call 39; with_reducible (refine HXt.out.mono ?_); rintro e W6 ⟨rfl, HB6⟩)
      go_ret2
      exact ⟨rfl, HBw.out.trans (HB6.out.mono HBw.out.size)⟩

end Go.Proofs.YtcnmndbckjmliaaDoor
