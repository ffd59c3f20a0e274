/-
  paths.isWay: the numbers from 0 on, each once.
-/
import Derived.Test.YtapchcamjeafmaaDoorQChd
namespace Go.Proofs.YtapchcamjeafmaaDoor
open Go.RowKit

def upd4 (u : Nat → Bool) (k : Nat) : Nat → Bool := fun j => if j = k then true else u j
def wyF (n : Nat) : (Nat → Bool) → List Int → Bool
  | _, [] => true
  | u, z :: r => if 0 ≤ z ∧ z < (n : Int) ∧ u z.toNat = false then wyF n (upd4 u z.toNat) r else false
def mk4 (u : Nat → Bool) : Array Value := #[.bool (u 0), .bool (u 1), .bool (u 2), .bool (u 3)]
theorem mk4_get (u : Nat → Bool) (j : Nat) (hj : j < 4) : (mk4 u)[j]? = some (.bool (u j)) := by
  rcases j with _ | _ | _ | _ | j
  · rfl
  · rfl
  · rfl
  · rfl
  · omega
theorem mk4_set (u : Nat → Bool) (j : Nat) (hj : j < 4) : (mk4 u).setIfInBounds j (.bool true) = mk4 (upd4 u j) := by
  rcases j with _ | _ | _ | _ | j
  · rfl
  · rfl
  · rfl
  · rfl
  · omega

set_option maxHeartbeats 4000000 in
set_option maxRecDepth 100000 in
theorem isWay_at (a : Option Addr) (n c : Nat) (zs : List Int) (w : World) (hn : n = zs.length) (h4 : n ≤ 4) (hS : Shows w a zs) (B : Bool) (hB : wyF n (fun _ => false) zs = B) :
    Calls Tryd.prog 16 #[.slice a n c] w fun e w' => e = .returned (.bool B) ∧ Hid (Below w.heap.size w w') := by
  have HS : Hid (Shows w a zs) := hS
  have HB : Hid (wyF n (fun _ => false) zs = B) := hB
  have HN : Hid (n = zs.length) := hn
  obtain ⟨Q, HQ⟩ : ∃ Q, Hid (Q = w.heap.size) := ⟨_, rfl⟩
  obtain ⟨W0, HW0⟩ : ∃ W0, Hid (W0 = w.alloc (.cells (mk4 fun _ => false) 61)) := ⟨_, rfl⟩
  have HB0 : Hid (Below w.heap.size w W0) := by rw [HW0.out]; exact (Below.refl _ _).alloc (Nat.le_refl _) _
  have HQb : Hid (W0.heap[Q]? = some (.cells (mk4 fun _ => false) 61 (0, 0))) := by
    show _ = _
    rw [HW0.out, HQ.out]; exact heap_alloc_last _ _
  clear hS hB hn
  go_enter Tryd.func16, Tryd.ntmps16
  go_upto_region 2 with fail
  change Code.wp _ _ _ _ (w.alloc (.cells (mk4 fun _ => false) 61))
  rw [← HQ.out, ← HW0.out]
  go_wp2_with fail
  go_loopw [8] (fun iv wr => ∃ (i : Nat) (u : Nat → Bool), i ≤ n ∧ iv = .int .i64 (i : Int) ∧ Hid (wyF n u (zs.drop i) = B) ∧ Hid (wr.heap[Q]? = some (.cells (mk4 u) 61 (0, 0))) ∧ Hid (Below w.heap.size w wr)) (fun iv _ => n - (intOf iv).toNat)
  case atStart => exact ⟨0, _, Nat.zero_le _, rfl, HB, HQb, HB0⟩
  case round =>
    obtain ⟨i, u, hi, rfl, HR, HQr, HBr⟩ := hrel
    by_cases hlt : i < n
    · have hlt' : (i : Int) < (n : Int) := by omega
      have hiz : i < zs.length := by rw [← HN.out]; exact hlt
      obtain ⟨b, off, z, ha, HZ, z1, z2, k0⟩ := (HS.out.below HBr.out).elem hiz
      subst ha
      have HR2 : Hid ((if 0 ≤ z ∧ z < (n : Int) ∧ u z.toNat = false then wyF n (upd4 u z.toNat) (zs.drop (i + 1)) else false) = B) := by
        show _ = _
        have e : zs.drop i = zs.getD i 0 :: zs.drop (i + 1) := by
          rw [List.drop_eq_getElem_cons hiz]; simp [List.getD, List.getElem?_eq_getElem hiz]
        rw [← HR.out, e, ← HZ.out]; rfl
      obtain ⟨bad, HBa⟩ : ∃ bad, Hid (bad = !(decide (0 ≤ z ∧ z < (n : Int) ∧ u z.toNat = false))) := ⟨_, rfl⟩
      go_upto_region 5 with fail
      clear k0
      go_cut [24] (fun s24 wx => s24 = .bool bad ∧ Hid (wx.heap = wr.heap ∧ Below wr.heap.size wr wx))
      case first =>
        by_cases h1 : z < 0
        · have hE : bad = true := by rw [HBa.out]; simp; omega
          subst hE
          first
            | go_wp2_with fail
          all_goals (
            go_meet
            exact ⟨by first | rfl | (simp; omega), by first | exact ⟨rfl, Below.refl _ _⟩ | exact ⟨rfl, below_drewN (Below.refl _ _) _⟩⟩)
        · by_cases h2 : z < (n : Int)
          · obtain ⟨k, hk⟩ : ∃ k : Nat, z = (k : Int) := ⟨z.toNat, by omega⟩
            subst hk
            have hk4 : k < 4 := by omega
            have h2' : ¬ (k : Int) ≥ (n : Int) := by omega
            have h2n : ¬ k ≥ n := by omega
            have hc : wr.cell? ⟨Q, k, none⟩ = some (.bool bad) := by
              rw [cell_of_row wr Q k _ _ _ HQr.out, mk4_get u k hk4, HBa.out]
              have e1 : (0 : Int) ≤ (k : Int) := by omega
              simp [h2]
            go_wp2_with fail
            go_meet
            exact ⟨by first | rfl | (simp; omega), by first | exact ⟨rfl, Below.refl _ _⟩ | exact ⟨rfl, below_drewN (Below.refl _ _) _⟩⟩
          · have hE : bad = true := by rw [HBa.out]; simp; omega
            subst hE
            have h2' : z ≥ (n : Int) := by omega
            go_wp2_with fail
            go_meet
            exact ⟨by first | rfl | (simp; omega), by first | exact ⟨rfl, Below.refl _ _⟩ | exact ⟨rfl, below_drewN (Below.refl _ _) _⟩⟩
      obtain ⟨rfl, HWc⟩ := hcut
      have HBc : Hid (Below w.heap.size w wc) := HBr.out.trans (HWc.out.2.mono HBr.out.size)
      have HQc : Hid (wc.heap[Q]? = some (.cells (mk4 u) 61 (0, 0))) := by show _ = _; rw [HWc.out.1]; exact HQr.out
      cases bad with
      | true =>
        have hE : B = false := by
          rw [← HR2.out, if_neg]
          intro q
          have h := HBa.out
          rw [decide_eq_true q] at h; cases h
        subst hE
        go_wp2
        go_ret
        exact ⟨rfl, HBc⟩
      | false =>
        have hg : 0 ≤ z ∧ z < (n : Int) ∧ u z.toNat = false := by
          have h := HBa.out
          have h' : decide (0 ≤ z ∧ z < (n : Int) ∧ u z.toNat = false) = true := by
            revert h; cases decide (0 ≤ z ∧ z < (n : Int) ∧ u z.toNat = false) <;> intro h
            · cases h
            · rfl
          exact of_decide_eq_true h'
        have HR5 : Hid (wyF n (upd4 u z.toNat) (zs.drop (i + 1)) = B) := by show _ = _; rw [← HR2.out, if_pos hg]
        obtain ⟨k, hk⟩ : ∃ k : Nat, z = (k : Int) := ⟨z.toNat, by omega⟩
        subst hk
        rw [Int.toNat_natCast] at HR5
        have hk4 : k < 4 := by omega
        have e2 : wc.cell? ⟨Q, k, none⟩ = some (.bool (u k)) := by rw [cell_of_row wc Q k _ _ _ HQc.out, mk4_get u k hk4]
        have e3 : wc.frozen? ⟨Q, k, none⟩ = false := frozen_of_row wc Q k _ _ HQc.out
        obtain ⟨W5, HW5⟩ : ∃ W5, Hid (W5 = wc.setCell ⟨Q, k, none⟩ (.bool true)) := ⟨_, rfl⟩
        have HQ5 : Hid (W5.heap[Q]? = some (.cells (mk4 (upd4 u k)) 61 (0, 0))) := by
          show _ = _
          rw [HW5.out, heap_setCell_same wc Q k _ 61 _ HQc.out, ← mk4_set u k hk4]
        have HB5 : Hid (Below w.heap.size w W5) := by rw [HW5.out]; exact HBc.out.setCell (p := ⟨Q, k, none⟩) (by rw [HQ.out]; exact Nat.le_refl _) _
        clear hg
        go_upto_region 8 with fail
        rw [← HW5.out]
        go_wp2
        go_roundw
        case rel => exact ⟨i + 1, _, by omega, by go_num, HR5, HQ5, HB5⟩
        case measure => simp [intOf]; omega
    · obtain rfl : i = n := by omega
      have hlt' : ¬ ((i : Int) < (i : Int)) := by omega
      have hE : B = true := by rw [← HR.out, List.drop_of_length_le (by rw [HN.out]; exact Nat.le_refl _)]; rfl
      subst hE
      go_wp2
      go_ret
      exact ⟨rfl, HBr⟩

end Go.Proofs.YtapchcamjeafmaaDoor
