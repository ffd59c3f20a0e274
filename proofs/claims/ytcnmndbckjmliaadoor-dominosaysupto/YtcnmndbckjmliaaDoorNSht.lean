/-
  The sheets of package domino: their cells; at, lie, stand.
-/
import Derived.Test.YtcnmndbckjmliaaDoorTApp
import Derived.Deep.DeepCutAuto
namespace Go.Proofs.YtcnmndbckjmliaaDoor
open Go.RowKit

/-- The 66 cells of a sheet: how many rows, how many columns, eight rows of eight bytes. -/
def shF (r c : Nat) (f : Nat → UInt8) (k : Nat) : Value := if k = 0 then .int .i64 (r : Int) else if k = 1 then .int .i64 (c : Int) else .int .u8 ((f (k - 2)).toNat : Int)
def shC (r c : Nat) (f : Nat → UInt8) : Array Value := ((List.range 66).map (shF r c f)).toArray
def upB (f : Nat → UInt8) (j : Nat) (b : UInt8) : Nat → UInt8 := fun k => if k = j then b else f k
theorem shC_get (r c : Nat) (f : Nat → UInt8) (j : Nat) (hj : j < 66) : (shC r c f)[j]? = some (shF r c f j) := by simp [shC, hj]
theorem shC_size (r c : Nat) (f : Nat → UInt8) : (shC r c f).size = 66 := by simp [shC]
theorem shC_put (r c : Nat) (f : Nat → UInt8) (j : Nat) (b : UInt8) : (shC r c f).setIfInBounds (2 + j) (.int .u8 (b.toNat : Int)) = shC r c (upB f j b) := by
  apply Array.ext_getElem?
  intro i
  by_cases hi : i < 66
  · rw [shC_get _ _ _ _ hi]
    by_cases e : i = 2 + j
    · subst e
      rw [Array.getElem?_setIfInBounds_self_of_lt (by rw [shC_size]; exact hi)]
      unfold shF upB
      rw [if_neg (by omega), if_neg (by omega), if_pos (by omega)]
    · rw [Array.getElem?_setIfInBounds_ne (by omega), shC_get _ _ _ _ hi]
      unfold shF upB
      by_cases h0 : i = 0
      · rw [if_pos h0, if_pos h0]
      · by_cases h1 : i = 1
        · rw [if_neg h0, if_neg h0, if_pos h1, if_pos h1]
        · rw [if_neg h0, if_neg h0, if_neg h1, if_neg h1, if_neg (by omega)]
  · rw [Array.getElem?_eq_none (by rw [Array.size_setIfInBounds, shC_size]; omega), Array.getElem?_eq_none (by rw [shC_size]; omega)]
/-- What is in a row and a column; round the sheet there is nothing. -/
def atB (r c : Nat) (f : Nat → UInt8) (i j : Int) : UInt8 := if 0 ≤ i ∧ i < (r : Int) ∧ 0 ≤ j ∧ j < (c : Int) then f (i.toNat * 8 + j.toNat) else 46

set_option maxHeartbeats 4000000 in
set_option maxRecDepth 100000 in
theorem dat_at (G r c : Nat) (f : Nat → UInt8) (i j : Int) (w : World) (hG : w.heap[G]? = some (.cells (shC r c f) 62 (0, 0))) (hr : r ≤ 8) (hc : c ≤ 8) (x : Nat) (hx : x = (atB r c f i j).toNat) :
    Calls Tryd.prog 48 #[.pointer (some ⟨G, 0, none⟩), .int .i64 i, .int .i64 j] w fun e w' => e = .returned (.int .u8 (x : Int)) ∧ w' = w := by
  have HX : Hid (x = (atB r c f i j).toNat) := hx
  have HG : Hid (w.heap[G]? = some (.cells (shC r c f) 62 (0, 0))) := hG
  have c0 : w.cell? ⟨G, 0, none⟩ = some (.int .i64 (r : Int)) := by rw [cell_of_row w G 0 _ _ _ hG, shC_get _ _ _ _ (by omega)]; rfl
  have c1 : w.cell? ⟨G, 1, none⟩ = some (.int .i64 (c : Int)) := by rw [cell_of_row w G 1 _ _ _ hG, shC_get _ _ _ _ (by omega)]; rfl
  obtain ⟨o, HO⟩ : ∃ o : Bool, Hid (o = !decide (0 ≤ i ∧ i < (r : Int) ∧ 0 ≤ j ∧ j < (c : Int))) := ⟨_, rfl⟩
  clear hG hx
  go_enter Tryd.func48, Tryd.ntmps48
  go_upto_region 1 with fail
  go_cut [28] (fun s28 wx => s28 = .bool o ∧ wx = w)
  case first =>
    by_cases h1 : i < 0
    · have hE : o = true := by rw [HO.out]; simp; omega
      subst hE
      go_wp2_with fail
      go_meet
      exact ⟨by first | rfl | (simp; omega), rfl⟩
    · by_cases h2 : i ≥ (r : Int)
      · have hE : o = true := by rw [HO.out]; simp; omega
        subst hE
        go_wp2_with fail
        go_meet
        exact ⟨by first | rfl | (simp; omega), rfl⟩
      · by_cases h3 : j < 0
        · have hE : o = true := by rw [HO.out]; simp; omega
          subst hE
          go_wp2_with fail
          go_meet
          exact ⟨by first | rfl | (simp; omega), rfl⟩
        · by_cases h4 : j ≥ (c : Int)
          · have hE : o = true := by rw [HO.out]; simp; omega
            subst hE
            go_wp2_with fail
            go_meet
            exact ⟨by first | rfl | (simp; omega), rfl⟩
          · have hE : o = false := by rw [HO.out]; simp; omega
            subst hE
            go_wp2_with fail
            go_meet
            exact ⟨by first | rfl | (simp; omega), rfl⟩
  obtain ⟨rfl, rfl⟩ := hcut
  cases o with
  | true =>
    have hx46 : x = 46 := by
      rw [HX.out]; unfold atB
      rw [if_neg (by have h := HO.out; intro q; rw [decide_eq_true q] at h; cases h)]; rfl
    subst hx46
    clear c0 c1
    go_wp2_with fail
    go_ret
    exact ⟨rfl, rfl⟩
  | false =>
    have hg : 0 ≤ i ∧ i < (r : Int) ∧ 0 ≤ j ∧ j < (c : Int) := by
      have h := HO.out
      revert h
      by_cases q : 0 ≤ i ∧ i < (r : Int) ∧ 0 ≤ j ∧ j < (c : Int)
      · intro _; exact q
      · rw [decide_eq_false q]; intro h; cases h
    obtain ⟨a, ha⟩ : ∃ a : Nat, i = (a : Int) := ⟨i.toNat, by omega⟩
    obtain ⟨b, hb⟩ : ∃ b : Nat, j = (b : Int) := ⟨j.toNat, by omega⟩
    have ha8 : a < 8 := by omega
    have hb8 : b < 8 := by omega
    have hxe : x = (f (a * 8 + b)).toNat := by rw [HX.out]; unfold atB; rw [if_pos hg, ha, hb, Int.toNat_natCast, Int.toNat_natCast]
    have c2 : wc.cell? ⟨G, 2 + a * 8 + b, none⟩ = some (.int .u8 (x : Int)) := by
      rw [cell_of_row wc G _ _ _ _ HG.out, shC_get _ _ _ _ (by omega), hxe]
      unfold shF
      rw [if_neg (by omega), if_neg (by omega), show 2 + a * 8 + b - 2 = a * 8 + b by omega]
    clear hg hxe HX HO c0 c1
    subst ha hb
    go_wp2_with fail
    go_ret
    exact ⟨rfl, rfl⟩

end Go.Proofs.YtcnmndbckjmliaaDoor
