/-
  The sheets of package domino: their cells; at, lie, stand.
  The sheets of package domino: lie, stand, cover; isSide.
-/
import Derived.Test.YtcnmndbckjmliaaDoorTApp
import Derived.Deep.DeepCutAuto
namespace Go.Proofs.YtcnmndbckjmliaaDoor
open Go.RowKit

/-- The 66 cells of a sheet: how many rows, how many columns, eight rows of eight bytes. -/
def shF (r c : Nat) (f : Nat → UInt8) (k : Nat) : Value := if k = 0 then .int .i64 (r : Int) else if k = 1 then .int .i64 (c : Int) else .int .u8 ((f (k - 2)).toNat : Int)
def shC (r c : Nat) (f : Nat → UInt8) : Array Value := ((List.range 66).map (shF r c f)).toArray
def upB (f : Nat → UInt8) (j : Nat) (b : UInt8) : Nat → UInt8 := fun k => if k = j then b else f k
theorem shC_get (r c : Nat) (f : Nat → UInt8) (j : Nat) (hj : j < 66) : (shC r c f)[j]? = some (shF r c f j) := by simp [shC, hj]
theorem shC_size (r c : Nat) (f : Nat → UInt8) : (shC r c f).size = 66 := by simp [shC]
theorem shC_put (r c : Nat) (f : Nat → UInt8) (j : Nat) (b : UInt8) : (shC r c f).setIfInBounds (2 + j) (.int .u8 (b.toNat : Int)) = shC r c (upB f j b) := by
  apply Array.ext_getElem?
  intro i
  by_cases hi : i < 66
  · rw [shC_get _ _ _ _ hi]
    by_cases e : i = 2 + j
    · subst e
      rw [Array.getElem?_setIfInBounds_self_of_lt (by rw [shC_size]; exact hi)]
      unfold shF upB
      rw [if_neg (by omega), if_neg (by omega), if_pos (by omega)]
    · rw [Array.getElem?_setIfInBounds_ne (by omega), shC_get _ _ _ _ hi]
      unfold shF upB
      by_cases h0 : i = 0
      · rw [if_pos h0, if_pos h0]
      · by_cases h1 : i = 1
        · rw [if_neg h0, if_neg h0, if_pos h1, if_pos h1]
        · rw [if_neg h0, if_neg h0, if_neg h1, if_neg h1, if_neg (by omega)]
  · rw [Array.getElem?_eq_none (by rw [Array.size_setIfInBounds, shC_size]; omega), Array.getElem?_eq_none (by rw [shC_size]; omega)]
/-- What is in a row and a column; round the sheet there is nothing. -/
def atB (r c : Nat) (f : Nat → UInt8) (i j : Int) : UInt8 := if 0 ≤ i ∧ i < (r : Int) ∧ 0 ≤ j ∧ j < (c : Int) then f (i.toNat * 8 + j.toNat) else 46

set_option maxHeartbeats 4000000 in
set_option maxRecDepth 100000 in
theorem dat_at (G r c : Nat) (f : Nat → UInt8) (i j : Int) (w : World) (hG : w.heap[G]? = some (.cells (shC r c f) 62 (0, 0))) (hr : r ≤ 8) (hc : c ≤ 8) (x : Nat) (hx : x = (atB r c f i j).toNat) :
    Calls Tryd.prog 48 #[.pointer (some ⟨G, 0, none⟩), .int .i64 i, .int .i64 j] w fun e w' => e = .returned (.int .u8 (x : Int)) ∧ w' = w := by
  have HX : Hid (x = (atB r c f i j).toNat) := hx
  have HG : Hid (w.heap[G]? = some (.cells (shC r c f) 62 (0, 0))) := hG
  have c0 : w.cell? ⟨G, 0, none⟩ = some (.int .i64 (r : Int)) := by rw [cell_of_row w G 0 _ _ _ hG, shC_get _ _ _ _ (by omega)]; rfl
  have c1 : w.cell? ⟨G, 1, none⟩ = some (.int .i64 (c : Int)) := by rw [cell_of_row w G 1 _ _ _ hG, shC_get _ _ _ _ (by omega)]; rfl
  obtain ⟨o, HO⟩ : ∃ o : Bool, Hid (o = !decide (0 ≤ i ∧ i < (r : Int) ∧ 0 ≤ j ∧ j < (c : Int))) := ⟨_, rfl⟩
  clear hG hx
  go_enter Tryd.func48, Tryd.ntmps48
  go_upto_region 1 with fail
  go_cut [28] (fun s28 wx => s28 = .bool o ∧ wx = w)
  case first =>
    by_cases h1 : i < 0
    · have hE : o = true := by rw [HO.out]; simp; omega
      subst hE
      go_wp2_with fail
      go_meet
      exact ⟨by first | rfl | (simp; omega), rfl⟩
    · by_cases h2 : i ≥ (r : Int)
      · have hE : o = true := by rw [HO.out]; simp; omega
        subst hE
        go_wp2_with fail
        go_meet
        exact ⟨by first | rfl | (simp; omega), rfl⟩
      · by_cases h3 : j < 0
        · have hE : o = true := by rw [HO.out]; simp; omega
          subst hE
          go_wp2_with fail
          go_meet
          exact ⟨by first | rfl | (simp; omega), rfl⟩
        · by_cases h4 : j ≥ (c : Int)
          · have hE : o = true := by rw [HO.out]; simp; omega
            subst hE
            go_wp2_with fail
            go_meet
            exact ⟨by first | rfl | (simp; omega), rfl⟩
          · have hE : o = false := by rw [HO.out]; simp; omega
            subst hE
            go_wp2_with fail
            go_meet
            exact ⟨by first | rfl | (simp; omega), rfl⟩
  obtain ⟨rfl, rfl⟩ := hcut
  cases o with
  | true =>
    have hx46 : x = 46 := by
      rw [HX.out]; unfold atB
      rw [if_neg (by have h := HO.out; intro q; rw [decide_eq_true q] at h; cases h)]; rfl
    subst hx46
    clear c0 c1
    go_wp2_with fail
    go_ret
    exact ⟨rfl, rfl⟩
  | false =>
    have hg : 0 ≤ i ∧ i < (r : Int) ∧ 0 ≤ j ∧ j < (c : Int) := by
      have h := HO.out
      revert h
      by_cases q : 0 ≤ i ∧ i < (r : Int) ∧ 0 ≤ j ∧ j < (c : Int)
      · intro _; exact q
      · rw [decide_eq_false q]; intro h; cases h
    obtain ⟨a, ha⟩ : ∃ a : Nat, i = (a : Int) := ⟨i.toNat, by omega⟩
    obtain ⟨b, hb⟩ : ∃ b : Nat, j = (b : Int) := ⟨j.toNat, by omega⟩
    have ha8 : a < 8 := by omega
    have hb8 : b < 8 := by omega
    have hxe : x = (f (a * 8 + b)).toNat := by rw [HX.out]; unfold atB; rw [if_pos hg, ha, hb, Int.toNat_natCast, Int.toNat_natCast]
    have c2 : wc.cell? ⟨G, 2 + a * 8 + b, none⟩ = some (.int .u8 (x : Int)) := by
      rw [cell_of_row wc G _ _ _ _ HG.out, shC_get _ _ _ _ (by omega), hxe]
      unfold shF
      rw [if_neg (by omega), if_neg (by omega), show 2 + a * 8 + b - 2 = a * 8 + b by omega]
    clear hg hxe HX HO c0 c1
    subst ha hb
    go_wp2_with fail
    go_ret
    exact ⟨rfl, rfl⟩

end Go.Proofs.YtcnmndbckjmliaaDoor

namespace Go.Proofs.YtcnmndbckjmliaaDoor
open Go.RowKit

theorem sh_cell {w : World} {G r c : Nat} {f : Nat → UInt8} (h : w.heap[G]? = some (.cells (shC r c f) 62 (0, 0))) (j : Nat) (hj : j < 64) : w.cell? ⟨G, 2 + j, none⟩ = some (.int .u8 ((f j).toNat : Int)) := by
  rw [cell_of_row w G _ _ _ _ h, shC_get _ _ _ _ (by omega)]
  unfold shF
  rw [if_neg (by omega), if_neg (by omega), show 2 + j - 2 = j by omega]
theorem sh_store {w : World} {G r c : Nat} {f : Nat → UInt8} (h : w.heap[G]? = some (.cells (shC r c f) 62 (0, 0))) (j : Nat) (b : UInt8) : (w.setCell ⟨G, 2 + j, none⟩ (.int .u8 (b.toNat : Int))).heap[G]? = some (.cells (shC r c (upB f j b)) 62 (0, 0)) := by
  rw [heap_setCell_same w G _ _ 62 _ h, shC_put]
/-- All but the memory is as it was. -/
def SmA (a b : World) : Prop := b.os = a.os ∧ b.tape = a.tape ∧ b.output = a.output
/-- Two boxes are written. -/
def up2 (f : Nat → UInt8) (a : Nat) (x : UInt8) (b : Nat) (y : UInt8) : Nat → UInt8 := upB (upB f a x) b y

set_option maxHeartbeats 4000000 in
set_option maxRecDepth 100000 in
theorem dlie_at (G r c : Nat) (f : Nat → UInt8) (i j : Nat) (w : World) (hG : w.heap[G]? = some (.cells (shC r c f) 62 (0, 0))) (hi : i < 8) (hj : j + 1 < 8) :
    Calls Tryd.prog 36 #[.pointer (some ⟨G, 0, none⟩), .int .i64 (i : Int), .int .i64 (j : Int)] w fun e w' => e = .returned (.tuple #[]) ∧ Hid (w'.heap[G]? = some (.cells (shC r c (up2 f (i * 8 + j) 108 (i * 8 + (j + 1)) 114)) 62 (0, 0))) ∧ Hid (w'.heap.size = w.heap.size ∧ SmA w w' ∧ ∀ k, k ≠ G → w'.heap[k]? = w.heap[k]?) := by
  have HG : Hid (w.heap[G]? = some (.cells (shC r c f) 62 (0, 0))) := hG
  have c0 : w.drew.cell? ⟨G, 2 + i * 8 + j, none⟩ = some (.int .u8 ((f (i * 8 + j)).toNat : Int)) := by
    have h := sh_cell (w := w.drew) HG.out (i * 8 + j) (by omega)
    rw [← Nat.add_assoc] at h; exact h
  have f0 : w.drew.frozen? ⟨G, 2 + i * 8 + j, none⟩ = false := frozen_of_row w.drew G _ _ _ HG.out
  obtain ⟨W1, HW1⟩ : ∃ W1, Hid (W1 = (w.setCell ⟨G, 2 + i * 8 + j, none⟩ (.int .u8 108)).drew) := ⟨_, rfl⟩
  have HG1 : Hid (W1.heap[G]? = some (.cells (shC r c (upB f (i * 8 + j) 108)) 62 (0, 0))) := by
    show _ = _
    rw [HW1.out]
    have h := sh_store (w := w) HG.out (i * 8 + j) 108
    rw [← Nat.add_assoc] at h; exact h
  have c1 : (w.setCell ⟨G, 2 + i * 8 + j, none⟩ (.int .u8 108)).drew.cell? ⟨G, 2 + i * 8 + (j + 1), none⟩ = some (.int .u8 ((upB f (i * 8 + j) 108 (i * 8 + (j + 1))).toNat : Int)) := by
    have h := sh_cell HG1.out (i * 8 + (j + 1)) (by omega)
    rw [← Nat.add_assoc 2] at h
    rw [HW1.out] at h; exact h
  have f1 : (w.setCell ⟨G, 2 + i * 8 + j, none⟩ (.int .u8 108)).drew.frozen? ⟨G, 2 + i * 8 + (j + 1), none⟩ = false := by
    have h := frozen_of_row W1 G (2 + i * 8 + (j + 1)) _ _ HG1.out
    rw [HW1.out] at h; exact h
  obtain ⟨W2, HW2⟩ : ∃ W2, Hid (W2 = ((w.setCell ⟨G, 2 + i * 8 + j, none⟩ (.int .u8 108)).setCell ⟨G, 2 + i * 8 + (j + 1), none⟩ (.int .u8 114)).drew) := ⟨_, rfl⟩
  have HG2 : Hid (W2.heap[G]? = some (.cells (shC r c (up2 f (i * 8 + j) 108 (i * 8 + (j + 1)) 114)) 62 (0, 0))) := by
    show _ = _
    have h1 : (w.setCell ⟨G, 2 + i * 8 + j, none⟩ (.int .u8 108)).heap[G]? = some (.cells (shC r c (upB f (i * 8 + j) 108)) 62 (0, 0)) := by
      have h := sh_store (w := w) HG.out (i * 8 + j) 108
      rw [← Nat.add_assoc] at h; exact h
    have h := sh_store h1 (i * 8 + (j + 1)) 114
    rw [← Nat.add_assoc 2] at h
    rw [HW2.out]; exact h
  have HK2 : Hid (W2.heap.size = w.heap.size ∧ SmA w W2 ∧ ∀ k, k ≠ G → W2.heap[k]? = w.heap[k]?) := by
    rw [HW2.out]
    refine ⟨?_, ⟨rfl, rfl, rfl⟩, fun k hk => ?_⟩
    · show ((w.setCell ⟨G, 2 + i * 8 + j, none⟩ (.int .u8 108)).setCell ⟨G, 2 + i * 8 + (j + 1), none⟩ (.int .u8 114)).heap.size = _
      simp
    · show ((w.setCell ⟨G, 2 + i * 8 + j, none⟩ (.int .u8 108)).setCell ⟨G, 2 + i * 8 + (j + 1), none⟩ (.int .u8 114)).heap[k]? = _
      rw [heap_setCell_other _ _ _ _ hk, heap_setCell_other _ _ _ _ hk]
  have hwr : IntKind.i64.wrap ((j : Int) + 1) = (j : Int) + 1 := by rw [IntKind.wrap_i64]; omega
  clear hG
  go_enter Tryd.func36, Tryd.ntmps36
  go_region
  rw [← HW2.out]
  go_end0
  exact ⟨rfl, HG2, HK2⟩
set_option maxHeartbeats 4000000 in
set_option maxRecDepth 100000 in
theorem dstand_at (G r c : Nat) (f : Nat → UInt8) (i j : Nat) (w : World) (hG : w.heap[G]? = some (.cells (shC r c f) 62 (0, 0))) (hi : i + 1 < 8) (hj : j < 8) :
    Calls Tryd.prog 38 #[.pointer (some ⟨G, 0, none⟩), .int .i64 (i : Int), .int .i64 (j : Int)] w fun e w' => e = .returned (.tuple #[]) ∧ Hid (w'.heap[G]? = some (.cells (shC r c (up2 f (i * 8 + j) 117 ((i + 1) * 8 + j) 100)) 62 (0, 0))) ∧ Hid (w'.heap.size = w.heap.size ∧ SmA w w' ∧ ∀ k, k ≠ G → w'.heap[k]? = w.heap[k]?) := by
  have HG : Hid (w.heap[G]? = some (.cells (shC r c f) 62 (0, 0))) := hG
  have c0 : w.drew.cell? ⟨G, 2 + i * 8 + j, none⟩ = some (.int .u8 ((f (i * 8 + j)).toNat : Int)) := by
    have h := sh_cell (w := w.drew) HG.out (i * 8 + j) (by omega)
    rw [← Nat.add_assoc] at h; exact h
  have f0 : w.drew.frozen? ⟨G, 2 + i * 8 + j, none⟩ = false := frozen_of_row w.drew G _ _ _ HG.out
  obtain ⟨W1, HW1⟩ : ∃ W1, Hid (W1 = (w.setCell ⟨G, 2 + i * 8 + j, none⟩ (.int .u8 117)).drew) := ⟨_, rfl⟩
  have HG1 : Hid (W1.heap[G]? = some (.cells (shC r c (upB f (i * 8 + j) 117)) 62 (0, 0))) := by
    show _ = _
    rw [HW1.out]
    have h := sh_store (w := w) HG.out (i * 8 + j) 117
    rw [← Nat.add_assoc] at h; exact h
  have c1 : (w.setCell ⟨G, 2 + i * 8 + j, none⟩ (.int .u8 117)).drew.cell? ⟨G, 2 + (i + 1) * 8 + j, none⟩ = some (.int .u8 ((upB f (i * 8 + j) 117 ((i + 1) * 8 + j)).toNat : Int)) := by
    have h := sh_cell HG1.out ((i + 1) * 8 + j) (by omega)
    rw [← Nat.add_assoc 2] at h
    rw [HW1.out] at h; exact h
  have f1 : (w.setCell ⟨G, 2 + i * 8 + j, none⟩ (.int .u8 117)).drew.frozen? ⟨G, 2 + (i + 1) * 8 + j, none⟩ = false := by
    have h := frozen_of_row W1 G (2 + (i + 1) * 8 + j) _ _ HG1.out
    rw [HW1.out] at h; exact h
  obtain ⟨W2, HW2⟩ : ∃ W2, Hid (W2 = ((w.setCell ⟨G, 2 + i * 8 + j, none⟩ (.int .u8 117)).setCell ⟨G, 2 + (i + 1) * 8 + j, none⟩ (.int .u8 100)).drew) := ⟨_, rfl⟩
  have HG2 : Hid (W2.heap[G]? = some (.cells (shC r c (up2 f (i * 8 + j) 117 ((i + 1) * 8 + j) 100)) 62 (0, 0))) := by
    show _ = _
    have h1 : (w.setCell ⟨G, 2 + i * 8 + j, none⟩ (.int .u8 117)).heap[G]? = some (.cells (shC r c (upB f (i * 8 + j) 117)) 62 (0, 0)) := by
      have h := sh_store (w := w) HG.out (i * 8 + j) 117
      rw [← Nat.add_assoc] at h; exact h
    have h := sh_store h1 ((i + 1) * 8 + j) 100
    rw [← Nat.add_assoc 2] at h
    rw [HW2.out]; exact h
  have HK2 : Hid (W2.heap.size = w.heap.size ∧ SmA w W2 ∧ ∀ k, k ≠ G → W2.heap[k]? = w.heap[k]?) := by
    rw [HW2.out]
    refine ⟨?_, ⟨rfl, rfl, rfl⟩, fun k hk => ?_⟩
    · show ((w.setCell ⟨G, 2 + i * 8 + j, none⟩ (.int .u8 117)).setCell ⟨G, 2 + (i + 1) * 8 + j, none⟩ (.int .u8 100)).heap.size = _
      simp
    · show ((w.setCell ⟨G, 2 + i * 8 + j, none⟩ (.int .u8 117)).setCell ⟨G, 2 + (i + 1) * 8 + j, none⟩ (.int .u8 100)).heap[k]? = _
      rw [heap_setCell_other _ _ _ _ hk, heap_setCell_other _ _ _ _ hk]
  have hwr : IntKind.i64.wrap ((i : Int) + 1) = (i : Int) + 1 := by rw [IntKind.wrap_i64]; omega
  clear hG
  go_enter Tryd.func38, Tryd.ntmps38
  go_region
  rw [← HW2.out]
  go_end0
  exact ⟨rfl, HG2, HK2⟩

end Go.Proofs.YtcnmndbckjmliaaDoor
