/-
  Lists of texts in a block of their own.
  The contracts of cubes.pilesBySize, Series.
-/
import Derived.Test.YtbiakncblkjmhaaGreatDoorTTab
import Derived.Deep.OwnRows
import Derived.Test.YtbiakncblkjmhaaGreatDoorCFmt
import Derived.Test.YtbiakncblkjmhaaGreatDoorHTxt
import Derived.Test.YtbiakncblkjmhaaGreatDoorDQs
import Derived.Deep.RegionWith
namespace Go.Proofs.YtbiakncblkjmhaaGreatDoor
open Go.RowKit

/-- a list of texts in block X -/
def SRow (w : World) (X n : Nat) (f : Nat → ByteArray) : Prop := w.ownsRow X 9 1 (.slice (some ⟨X, 0, none⟩) n n) n ((List.range n).map fun i => Value.string (f i))
theorem SRow.cell {w : World} {X n : Nat} {f : Nat → ByteArray} (h : SRow w X n f) {i : Nat} (hi : i < n) : w.cell? ⟨X, i, none⟩ = some (.string (f i)) ∧ w.frozen? ⟨X, i, none⟩ = false ∧ X < w.heap.size := by
  refine ⟨?_, World.ownsRow.frozenAt h i, (h.lt X rfl).2⟩
  rw [World.ownsRow.cellAt h i (by omega)]
  simp [hi]
theorem SRow.below {w w' : World} {X n : Nat} {f : Nat → ByteArray} (h : SRow w X n f) (hb : Below w.heap.size w w') : SRow w' X n f := ownsRow_blocks h (fun k e => hb.block k (h.lt k e).2)
theorem SRow.congr {w : World} {X n : Nat} {f g : Nat → ByteArray} (h : SRow w X n f) (e : ∀ i, i < n → f i = g i) : SRow w X n g := by
  unfold SRow; rw [← List.map_congr_left (f := fun i => Value.string (f i)) (fun i hi => by rw [e i (List.mem_range.1 hi)])]; exact h
theorem SRow.set {w W : World} {X n : Nat} {f : Nat → ByteArray} (h : SRow w X n f) (i : Nat) (x : ByteArray) (hW : W.heap = w.heap) : SRow (W.setCell ⟨X, i, none⟩ (.string x)) X n fun k => if k = i then x else f k := by
  have h1 : W.ownsRow X 9 1 (.slice (some ⟨X, 0, none⟩) n n) n ((List.range n).map fun i => Value.string (f i)) := ownsRow_blocks h (fun k _ => by rw [hW])
  have h2 := (World.ownsRow.stored h1 i (.string x)).1
  have e : ((List.range n).map fun i => Value.string (f i)).set i (.string x) = (List.range n).map fun k => Value.string (if k = i then x else f k) := by
    refine List.ext_getElem (by simp) (fun k h1 h2 => ?_)
    rw [List.getElem_set]
    simp only [List.getElem_map, List.getElem_range]
    by_cases e : i = k
    · rw [if_pos e, if_pos e.symm]
    · rw [if_neg e, if_neg (fun x => e x.symm)]
  rw [e] at h2
  exact h2
theorem srow_made {w : World} {n : Nat} (hn : n ≤ 1000) : SRow (w.alloc (.cells (madeCells #[Value.string ⟨#[]⟩] n) 9)) w.heap.size n fun _ => ⟨#[]⟩ := by
  refine ⟨by simp, Or.inr ⟨w.heap.size, n, madeCells #[Value.string ⟨#[]⟩] n, rfl, Nat.le_refl _, heap_alloc_new _ _, Nat.le_refl _, by unfold maxLen; omega, by rw [← Array.length_toList, toList_madeCells_one]; simp, ?_⟩⟩
  rw [Nat.mul_one, List.take_of_length_le (by rw [toList_madeCells_one]; simp), toList_madeCells_one]
  symm
  rw [List.eq_replicate_iff]
  refine ⟨by simp, fun x hx => ?_⟩
  obtain ⟨_, _, rfl⟩ := List.mem_map.1 hx
  rfl

end Go.Proofs.YtbiakncblkjmhaaGreatDoor

namespace Go.Proofs.YtbiakncblkjmhaaGreatDoor
open Go.RowKit

def LeL (X Y : List Nat) : Prop := X.length = Y.length ∧ ∀ t, X.getD t 0 ≤ Y.getD t 0
theorem LeL.trans {X Y Z : List Nat} (h : LeL X Y) (h2 : LeL Y Z) : LeL X Z := ⟨h.1.trans h2.1, fun t => Nat.le_trans (h.2 t) (h2.2 t)⟩
theorem leL_set (X : List Nat) (k y : Nat) : LeL X (X.set k (X.getD k 0 + y)) := by
  refine ⟨by simp, fun t => ?_⟩
  simp only [List.getD, List.getElem?_set]
  by_cases e : k = t
  · subst e
    by_cases h : k < X.length
    · simp [h]
    · simp [h]
  · simp [e]
theorem pasS_le (s : Nat) : ∀ (d k : Nat) (X : List Nat), LeL X (pasS s d k X)
  | 0, _, _ => ⟨rfl, fun _ => Nat.le_refl _⟩
  | d + 1, k, X => (leL_set X k _).trans (pasS_le s d (k + 1) _)
theorem repS_le (n s : Nat) : ∀ (t : Nat) (X : List Nat), LeL X (repS n s t X)
  | 0, _ => ⟨rfl, fun _ => Nat.le_refl _⟩
  | t + 1, X => (pasS_le s _ _ X).trans (repS_le n s t _)
theorem szsS_le (n : Nat) : ∀ (d s : Nat) (X : List Nat), LeL X (szsS n d s X)
  | 0, _, _ => ⟨rfl, fun _ => Nat.le_refl _⟩
  | d + 1, s, X => (repS_le n s s X).trans (szsS_le n d (s + 1) _)

/-- numbers of 64 bits in block B -/
def UR (w : World) (B : Nat) (L : List Nat) : Prop := w.ownsRow B 60 1 (.slice (some ⟨B, 0, none⟩) L.length L.length) L.length (L.map fun (z : Nat) => Value.int .u64 (z : Int))
theorem UR.cell {w : World} {B : Nat} {L : List Nat} (h : UR w B L) {i : Nat} (hi : i < L.length) : w.cell? ⟨B, i, none⟩ = some (.int .u64 (L.getD i 0 : Int)) ∧ w.frozen? ⟨B, i, none⟩ = false ∧ B < w.heap.size := by
  refine ⟨?_, World.ownsRow.frozenAt h i, (h.lt B rfl).2⟩
  rw [World.ownsRow.cellAt h i (by omega)]
  simp [hi]
theorem UR.set {w W : World} {B : Nat} {L : List Nat} (h : UR w B L) (i x : Nat) (hW : W.heap = w.heap) : UR (W.setCell ⟨B, i, none⟩ (.int .u64 (x : Int))) B (L.set i x) := by
  have h1 : W.ownsRow B 60 1 (.slice (some ⟨B, 0, none⟩) L.length L.length) L.length (L.map fun (z : Nat) => Value.int .u64 (z : Int)) := ownsRow_blocks h (fun k _ => by rw [hW])
  have h2 := (World.ownsRow.stored h1 i (.int .u64 (x : Int))).1
  unfold UR
  rw [List.length_set, List.map_set]
  exact h2
theorem UR.below {w w' : World} {B : Nat} {L : List Nat} (h : UR w B L) (hb : Below w.heap.size w w') : UR w' B L := ownsRow_blocks h (fun k e => hb.block k (h.lt k e).2)
theorem ur_made {w : World} {n : Nat} (hn : n ≤ 1000) : UR (w.alloc (.cells (madeCells #[Value.int .u64 0] n) 60)) w.heap.size (List.replicate n 0) := by
  unfold UR
  rw [List.length_replicate]
  refine ⟨by simp, Or.inr ⟨w.heap.size, n, madeCells #[Value.int .u64 0] n, rfl, Nat.le_refl _, heap_alloc_new _ _, Nat.le_refl _, by unfold maxLen; omega, by rw [← Array.length_toList, toList_madeCells_one]; simp, ?_⟩⟩
  rw [Nat.mul_one, List.take_of_length_le (by rw [toList_madeCells_one]; simp), toList_madeCells_one]
  simp

set_option maxHeartbeats 4000000 in
set_option maxRecDepth 100000 in
theorem pilesBySize_at (n : Nat) (w : World) (hn : n ≤ 60) (hT : ∀ t, (totS n).getD t 0 < 9223372036854775808) :
    Calls Tryz.prog 30 #[.int .i64 (n : Int)] w fun e w' => e = .returned (.slice (some ⟨w.heap.size, 0, none⟩) (n + 1) (n + 1)) ∧ Hid (UR w' w.heap.size (totS n)) ∧ Hid ((totS n).length = n + 1) ∧ Hid (Below w.heap.size w w') := by
  have HT : Hid (∀ t, (totS n).getD t 0 < 9223372036854775808) := hT
  clear hT
  obtain ⟨B, HBe⟩ : ∃ B, Hid (B = w.heap.size) := ⟨_, rfl⟩
  obtain ⟨N, HN⟩ : ∃ N, Hid (N = n + 1) := ⟨_, rfl⟩
  have hN1 : (n : Int) + 1 = (N : Int) := by have := HN.out; omega
  have hN61 : N ≤ 61 := by have := HN.out; omega
  have hN0 : (0 : Int) < (N : Int) := by have := HN.out; omega
  have hmP : ∀ W, (Instr.makeSlice 58 (.int .i64 (N : Int)) (.int .i64 (N : Int))).run Tryz.prog W = .ok (.slice (some ⟨W.heap.size, 0, none⟩) N N) (W.alloc (.cells (madeCells #[Value.int .u64 0] N) 60)) := fun W =>
        run_make_row' (P := Tryz.prog) 58 60 (.int .u64 0) 8 Tryz.underlying58 (by kernel_rfl) rfl .i64 .i64 N (by omega) (by omega) W
  have hU0 := ur_made (w := w) (n := N) (by omega)
  have cB0 := hU0.cell (i := 0) (by rw [List.length_replicate]; omega)
  have cB := cB0.1
  rw [show (List.replicate N 0).getD 0 0 = 0 by rw [HN.out]; rfl] at cB
  have fB := cB0.2.1
  have hU1 := hU0.set (W := w.alloc (.cells (madeCells #[Value.int .u64 0] N) 60)) 0 1 rfl
  have e1 : (List.replicate N 0).set 0 1 = 1 :: List.replicate n 0 := by rw [HN.out]; rfl
  rw [e1] at hU1
  have HU1 := hid_w hU1
  have HB1 : Hid (Below w.heap.size w ((w.alloc (.cells (madeCells #[Value.int .u64 0] N) 60)).setCell ⟨w.heap.size, 0, none⟩ (.int .u64 1))) := ((Below.refl _ _).alloc (Nat.le_refl _) _).setCell (p := ⟨w.heap.size, 0, none⟩) (Nat.le_refl _) _
  have eW : (w.alloc (.cells (madeCells #[Value.int .u64 0] N) 60)).setCell ⟨w.heap.size, 0, none⟩ (.int .u64 1) = w.alloc (.cells ((madeCells #[Value.int .u64 0] N).setIfInBounds 0 (.int .u64 1)) 60) := by first | exact World.setCell_alloc_at _ _ _ _ _ _ rfl | exact World.setCell_alloc_at _ _ _ _ _ rfl
  have HU2 : Hid (UR (w.alloc (.cells ((madeCells #[Value.int .u64 0] N).setIfInBounds 0 (.int .u64 1)) 60)) w.heap.size (1 :: List.replicate n 0)) := by rw [← eW]; exact HU1
  rw [eW] at HB1
  clear hU0 cB0 hU1 e1 eW HU1
  go_enter Tryz.func30, Tryz.ntmps30
  go_wp2_with fail
  clear hmP cB fB
  rw [← HBe.out] at HU2 ⊢
  go_loopw [4] (fun q wr => ∃ (d s : Nat) (X : List Nat), s + d = n + 1 ∧ 1 ≤ s ∧ q = .int .i64 s ∧ X.length = N ∧ Hid (UR wr B X) ∧ Hid (szsS n d s X = totS n) ∧ Hid (Below w.heap.size w wr)) (fun q _ => n + 1 - (intOf q).toNat)
  case atStart => exact ⟨n, 1, 1 :: List.replicate n 0, by omega, by omega, rfl, by rw [List.length_cons, List.length_replicate, HN.out], HU2, rfl, HB1⟩
  case round =>
    clear HU2 HB1
    obtain ⟨d, s, X, hd, hs1, rfl, hXl, HU, HZ, HB⟩ := hrel
    by_cases hsl : s ≤ n
    · have hsl' : (s : Int) ≤ (n : Int) := by omega
      obtain ⟨d', rfl⟩ : ∃ d', d = d' + 1 := ⟨d - 1, by omega⟩
      have HZ1 : Hid (szsS n d' (s + 1) (repS n s s X) = totS n) := HZ.out
      clear HZ
      go_wp2
      go_loopw [17] (fun q wr => ∃ (t d2 : Nat) (X : List Nat), t + d2 = s ∧ q = .int .i64 t ∧ X.length = N ∧ Hid (UR wr B X) ∧ Hid (szsS n d' (s + 1) (repS n s d2 X) = totS n) ∧ Hid (Below w.heap.size w wr)) (fun q _ => s - (intOf q).toNat)
      case atStart => exact ⟨0, s, X, by omega, rfl, hXl, HU, HZ1, HB⟩
      case round =>
        clear HU HZ1 HB
        obtain ⟨t, d2, X, ht, rfl, hXl, HU, HZ, HB⟩ := hrel
        by_cases htl : t < s
        · have htl' : (t : Int) < (s : Int) := by omega
          obtain ⟨d3, rfl⟩ : ∃ d3, d2 = d3 + 1 := ⟨d2 - 1, by omega⟩
          have HZ1 : Hid (szsS n d' (s + 1) (repS n s d3 (pasS s (n + 1 - s) s X)) = totS n) := HZ.out
          clear HZ
          go_wp2
          go_loopw [5] (fun q wr => ∃ (k d4 : Nat) (X : List Nat), k + d4 = n + 1 ∧ s ≤ k ∧ q = .int .i64 k ∧ X.length = N ∧ Hid (UR wr B X) ∧ Hid (szsS n d' (s + 1) (repS n s d3 (pasS s d4 k X)) = totS n) ∧ Hid (Below w.heap.size w wr)) (fun q _ => n + 1 - (intOf q).toNat)
          case atStart => exact ⟨s, n + 1 - s, X, by omega, Nat.le_refl _, rfl, hXl, HU, HZ1, HB⟩
          case round =>
            clear HU HZ1 HB
            obtain ⟨k, d4, X, hk, hsk, rfl, hXl, HU, HZ, HB⟩ := hrel
            by_cases hkl : k ≤ n
            · have hkl' : (k : Int) ≤ (n : Int) := by omega
              have hkN : (k : Int) < (N : Int) := by have := HN.out; omega
              obtain ⟨d5, rfl⟩ : ∃ d5, d4 = d5 + 1 := ⟨d4 - 1, by omega⟩
              obtain ⟨q, HQ⟩ : ∃ q, Hid (q = k - s) := ⟨_, rfl⟩
              have hqe : (k : Int) - (s : Int) = (q : Int) := by have := HQ.out; omega
              have hqN : (q : Int) < (N : Int) := by have := HQ.out; omega
              have HUd : Hid (UR wr.drew B X) := HU.out.below (below_drewN (Below.refl _ _) 1)
              obtain ⟨c1, f1, b1⟩ := HUd.out.cell (i := k) (by rw [hXl]; omega)
              obtain ⟨c2, f2, b2⟩ := HUd.out.cell (i := q) (by rw [hXl]; omega)
              obtain ⟨x, HXx⟩ : ∃ x, Hid (x = X.getD k 0) := ⟨_, rfl⟩
              obtain ⟨y, HYy⟩ : ∃ y, Hid (y = X.getD q 0) := ⟨_, rfl⟩
              rw [← HXx.out] at c1
              rw [← HYy.out] at c2
              have HZ1 : Hid (szsS n d' (s + 1) (repS n s d3 (pasS s d5 (k + 1) (X.set k (x + y)))) = totS n) := by
                have h := HZ.out
                rw [pasS, ← HQ.out, ← HXx.out, ← HYy.out] at h
                exact h
              have hxy : x + y < 9223372036854775808 := by
                have h1 := ((pasS_le s d5 (k + 1) (X.set k (x + y))).trans ((repS_le n s d3 _).trans (szsS_le n d' (s + 1) _))).2 k
                rw [HZ1.out] at h1
                have h2 := HT.out k
                have e : (X.set k (x + y)).getD k 0 = x + y := by
                  simp [List.getD, show k < X.length by rw [hXl]; omega]
                omega
              have hw : IntKind.u64.wrap ((x : Int) + (y : Int)) = ((x + y : Nat) : Int) := by
                simp [IntKind.wrap, IntKind.signed, IntKind.bits]; omega
              obtain ⟨z, HZz⟩ : ∃ z, Hid (z = x + y) := ⟨_, rfl⟩
              rw [← HZz.out] at hw
              rw [← HZz.out] at HZ1
              have HU3 : Hid (UR (wr.drew.setCell ⟨B, k, none⟩ (.int .u64 (z : Int))) B (X.set k z)) := HUd.out.set k z rfl
              have HB3 : Hid (Below w.heap.size w (wr.drew.setCell ⟨B, k, none⟩ (.int .u64 (z : Int)))) := (below_drewN HB.out 1).setCell (p := ⟨B, k, none⟩) (by show _ ≤ B; rw [HBe.out]; exact Nat.le_refl _) _
              have hX3 : (X.set k z).length = N := by rw [List.length_set]; exact hXl
              have HX3 := hid_w hX3
              clear hX3 HZ HUd
              go_wp2_with fail
              go_region
              all_goals (
                go_wp2
                go_roundw)
              all_goals first | exact ⟨k + 1, d5, _, by omega, by omega, by go_num, HX3.out, HU3, HZ1, HB3⟩ | (simp [intOf]; omega)
            · have hkl' : ¬ (k : Int) ≤ (n : Int) := by omega
              have hd4 : d4 = 0 := by omega
              subst hd4
              go_wp2
              go_roundw
              case rel => exact ⟨t + 1, d3, X, by omega, by go_num, hXl, HU, HZ, HB⟩
              case measure => simp [intOf]; omega
        · have htl' : ¬ (t : Int) < (s : Int) := by omega
          have hd2 : d2 = 0 := by omega
          subst hd2
          go_wp2
          go_roundw
          case rel => exact ⟨d', s + 1, X, by omega, by omega, by go_num, hXl, HU, HZ, HB⟩
          case measure => simp [intOf]; omega
    · have hsl' : ¬ (s : Int) ≤ (n : Int) := by omega
      have hd0 : d = 0 := by omega
      subst hd0
      have HXe : Hid (X = totS n) := HZ.out
      go_wp2
      go_ret
      have HUe : Hid (UR wr B (totS n)) := by rw [← HXe.out]; exact HU
      have hlen : (totS n).length = n + 1 := by rw [← HXe.out, hXl, HN.out]
      refine ⟨?_, by rw [← HBe.out]; exact HUe, hlen, HB⟩
      rw [← HBe.out, ← HN.out]
      rfl

/-- the text of count k -/
def srT (n k : Nat) : ByteArray := ⟨(Lib.decDigits ((totS n).getD k 0)).toArray⟩
def srQ (n i k : Nat) : ByteArray := if k < i then srT n k else ⟨#[]⟩

set_option maxHeartbeats 4000000 in
set_option maxRecDepth 100000 in
theorem CbSeries_ok (n : Nat) (w : World) (hn : n ≤ 60) (hT : ∀ t, (totS n).getD t 0 < 9223372036854775808) (htab : Lib.TabIs Tryz.prog w "internal/strconv.uint64pow10" .u64 Lib.pow10Tab) :
    Calls Tryz.prog 12 #[.int .i64 (n : Int)] w fun e w' => ∃ X, e = .returned (.tuple #[.slice (some ⟨X, 0, none⟩) (n + 1) (n + 1), .int .i64 0]) ∧ Hid (SRow w' X (n + 1) (srT n)) ∧ Hid (Below w.heap.size w w') := by
  have HT : Hid (∀ t, (totS n).getD t 0 < 9223372036854775808) := hT
  have HTab : Hid (∀ W, Below w.heap.size w W → Lib.TabIs Tryz.prog W "internal/strconv.uint64pow10" .u64 Lib.pow10Tab) := fun W hW => Lib.tabBelow_of_tabIs htab W hW
  clear hT htab
  obtain ⟨N, HN⟩ : ∃ N, Hid (N = n + 1) := ⟨_, rfl⟩
  have hN1 : (n : Int) + 1 = (N : Int) := by have := HN.out; omega
  have hN61 : N ≤ 61 := by have := HN.out; omega
  have z1 : ¬ (n : Int) < 0 := by omega
  have z2 : ¬ 60 < (n : Int) := by omega
  have hmP : ∀ W, (Instr.makeSlice 34 (.int .i64 (N : Int)) (.int .i64 (N : Int))).run Tryz.prog W = .ok (.slice (some ⟨W.heap.size, 0, none⟩) N N) (W.alloc (.cells (madeCells #[Value.string ⟨#[]⟩] N) 9)) := fun W =>
        run_make_row' (P := Tryz.prog) 34 9 (.string ⟨#[]⟩) 16 Tryz.underlying34 (by kernel_rfl) rfl .i64 .i64 N (by omega) (by omega) W
  have HB0 : Hid (Below w.heap.size w (w.alloc (.cells (madeCells #[Value.string ⟨#[]⟩] N) 9))) := (Below.refl _ _).alloc (Nat.le_refl _) _
  have HR0 : Hid (SRow (w.alloc (.cells (madeCells #[Value.string ⟨#[]⟩] N) 9)) w.heap.size N (srQ n 0)) := (srow_made (w := w) (n := N) (by omega)).congr (fun i _ => by
    unfold srQ; rw [if_neg (by omega)])
  go_enter Tryz.func12, Tryz.ntmps12
  go_wp2_with fail
  refine (pilesBySize_at n _ hn HT.out).mono ?_
  rintro e w1 ⟨rfl, HU, HLt, HB1⟩
  obtain ⟨X, HX⟩ : ∃ X, Hid (X = w.heap.size) := ⟨_, rfl⟩
  obtain ⟨w9, HW9⟩ : ∃ w9, Hid (w9 = w.alloc (.cells (madeCells #[Value.string ⟨#[]⟩] N) 9)) := ⟨_, rfl⟩
  rw [← HW9.out] at HU HB1 HB0 HR0 ⊢
  rw [← HX.out] at HR0 ⊢
  obtain ⟨B, HBe⟩ : ∃ B, Hid (B = w9.heap.size) := ⟨_, rfl⟩
  rw [← HBe.out] at HU ⊢
  have HR1 : Hid (SRow w1 X N (srQ n 0)) := HR0.out.below HB1.out
  have HB2 : Hid (Below w.heap.size w w1) := HB0.out.trans (HB1.out.mono HB0.out.size)
  have HXB : Hid (X ≠ B) := by show _ ≠ _; have := (HR0.out.lt X rfl).2; rw [HBe.out]; omega
  rw [show n + 1 = N from HN.out.symm]
  rw [show n + 1 = N from HN.out.symm] at HLt
  clear HR0 HB0 HB1 HW9 hmP
  go_wp2_with fail
  go_loopw [19] (fun q wr => ∃ k : Nat, k ≤ N ∧ q = .int .i64 k ∧ Hid (SRow wr X N (srQ n k)) ∧ Hid (UR wr B (totS n)) ∧ Hid (Below w.heap.size w wr)) (fun q _ => N - (intOf q).toNat)
  case atStart => exact ⟨0, Nat.zero_le _, rfl, HR1, HU, HB2⟩
  case round =>
    clear HR1 HU HB2
    obtain ⟨k, hk, rfl, HR, HU, HB⟩ := hrel
    by_cases hkl : k < N
    · have hkl' : (k : Int) < (N : Int) := by omega
      obtain ⟨c1, -, -⟩ := HU.out.cell (i := k) (by rw [HLt.out]; exact hkl)
      obtain ⟨u, HUu⟩ : ∃ u, Hid (u = (totS n).getD k 0) := ⟨_, rfl⟩
      rw [← HUu.out] at c1
      obtain ⟨t, HTt⟩ : ∃ t : ByteArray, Hid (t = srT n k) := ⟨_, rfl⟩
      have HF : Hid (Calls Tryz.prog 31 #[.int .u64 (u : Int), .int .i64 10] wr fun e w' => e = .returned (.string t) ∧ Hid (Below wr.heap.size wr w')) := by
        have h := FormatUint_at u (by have := HT.out k; rw [← HUu.out] at this; omega) wr (HTab.out wr HB.out)
        rw [HTt.out]; unfold srT; rw [← HUu.out]; exact h
      go_wp2_with fail
      refine HF.out.mono ?_
      rintro e w3 ⟨rfl, HB3⟩
      have HR3 : Hid (SRow w3 X N (srQ n k)) := HR.out.below HB3.out
      obtain ⟨c3, f3, b3⟩ := HR3.out.cell hkl
      have HR4 : Hid (SRow (w3.setCell ⟨X, k, none⟩ (.string t)) X N (srQ n (k + 1))) := (HR3.out.set k t rfl).congr (fun i _ => by
        unfold srQ
        by_cases e : i = k
        · subst e; rw [if_pos rfl, if_pos (by omega), HTt.out]
        · rw [if_neg e]
          by_cases e2 : i < k
          · rw [if_pos e2, if_pos (by omega)]
          · rw [if_neg e2, if_neg (by omega)])
      have HU4 : Hid (UR (w3.setCell ⟨X, k, none⟩ (.string t)) B (totS n)) := ownsRow_blocks (HU.out.below HB3.out) (fun q e => by
        cases e; exact heap_setCell_other _ _ _ _ (fun e2 => HXB.out e2.symm))
      have HB4 : Hid (Below w.heap.size w (w3.setCell ⟨X, k, none⟩ (.string t))) := (HB.out.trans (HB3.out.mono HB.out.size)).setCell (p := ⟨X, k, none⟩) (by show _ ≤ X; rw [HX.out]; exact Nat.le_refl _) _
      clear HF c1
      go_wp2
      go_roundw
      case rel => exact ⟨k + 1, by omega, by go_num, HR4, HU4, HB4⟩
      case measure => simp [intOf]; omega
    · obtain rfl : k = N := by omega
      go_wp2
      go_ret2
      have HT5 : Hid (SRow wr X k (srT n)) := HR.out.congr (fun a ha => by unfold srQ; rw [if_pos ha])
      refine ⟨X, ?_, by rw [← HN.out]; exact HT5, HB⟩
      rw [← HN.out]
      rfl

end Go.Proofs.YtbiakncblkjmhaaGreatDoor
