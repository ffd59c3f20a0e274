/-
  paths.marks.count: how many paths go from a to b.
-/
import Derived.Test.YtapchcamjeafmaaDoorQCom
import Derived.Test.YtapchcamjeafmaaDoorQChd
import Derived.Deep.CutBlock
namespace Go.Proofs.YtapchcamjeafmaaDoor
open Go.RowKit

set_option maxHeartbeats 8000000 in
set_option maxRecDepth 100000 in
theorem count_at (cl : Nat → Bool) (ax ay bx bY : Nat) (w : World) (ha : ax < 8 ∧ ay < 8) (hb : bx < 8 ∧ bY < 8) (M : Array Value) (hM : M = mkC cl) (r : Int) (hr : r = (nP cl (ax, ay) (bx, bY) : Int)) :
    Calls Tryd.prog 11 #[.agg M, .agg #[.int .i64 (ax : Int), .int .i64 (ay : Int)], .agg #[.int .i64 (bx : Int), .int .i64 (bY : Int)]] w fun e w' => e = .returned (.int .i64 r) ∧ Hid (Below w.heap.size w w') := by
  have HM : Hid (M = mkC cl) := hM
  have HR : Hid (r = (nP cl (ax, ay) (bx, bY) : Int)) := hr
  obtain ⟨C0, HC0⟩ : ∃ C0, Hid (C0 = rgC 81 fun _ => Value.int .i64 0) := ⟨_, rfl⟩
  have hz : ∀ W : World, (zeroValue 57).run Tryd.prog W = .ok (.agg C0) W := fun W => by rw [HC0.out]; exact run_zeroN W
  obtain ⟨Q, HQ⟩ : ∃ Q, Hid (Q = w.heap.size) := ⟨_, rfl⟩
  obtain ⟨W1, HW1⟩ : ∃ W1, Hid (W1 = (((w.alloc (.cells M 42)).alloc (.cells #[.int .i64 (ax : Int), .int .i64 (ay : Int)] 29)).alloc (.cells #[.int .i64 (bx : Int), .int .i64 (bY : Int)] 29)).alloc (.cells C0 57)) := ⟨_, rfl⟩
  have HB1 : Hid (Below w.heap.size w W1) := by
    rw [HW1.out]
    exact ((((Below.refl _ _).alloc (Nat.le_refl _) _).alloc (by simp) _).alloc (by simp; omega) _).alloc (by simp; omega) _
  have HSz : Hid (W1.heap.size = Q + 4) := by show _ = _; rw [HW1.out, HQ.out]; simp
  have H0 : Hid (W1.heap[Q]? = some (.cells M 42 (0, 0))) := by
    show _ = _
    rw [HW1.out, HQ.out]
    show ((((w.heap.push _).push _).push _).push _)[w.heap.size]? = _
    rw [Array.getElem?_push, if_neg (by simp; omega), Array.getElem?_push, if_neg (by simp; omega), Array.getElem?_push, if_neg (by simp), Array.getElem?_push_size]
  have H1 : Hid (W1.heap[Q + 1]? = some (.cells #[.int .i64 (ax : Int), .int .i64 (ay : Int)] 29 (0, 0))) := by
    show _ = _
    rw [HW1.out, HQ.out]
    show ((((w.heap.push _).push _).push _).push _)[w.heap.size + 1]? = _
    rw [Array.getElem?_push, if_neg (by simp), Array.getElem?_push, if_neg (by simp), Array.getElem?_push, if_pos (by simp)]
  have H2 : Hid (W1.heap[Q + 2]? = some (.cells #[.int .i64 (bx : Int), .int .i64 (bY : Int)] 29 (0, 0))) := by
    show _ = _
    rw [HW1.out, HQ.out]
    show ((((w.heap.push _).push _).push _).push _)[w.heap.size + 2]? = _
    rw [Array.getElem?_push, if_neg (by simp), Array.getElem?_push, if_pos (by simp)]
  have H3 : Hid (ArN W1 (Q + 3) fun _ => 0) := by
    show _ = _
    rw [HW1.out, HQ.out, HC0.out]
    show ((((w.heap.push _).push _).push _).push _)[w.heap.size + 3]? = _
    rw [Array.getElem?_push, if_pos (by simp)]
  have c10 : W1.drew.cell? ⟨Q + 1, 0, none⟩ = some (.int .i64 (ax : Int)) := by rw [cell_of_row W1.drew (Q + 1) 0 _ _ _ H1.out]; rfl
  have c11 : W1.drew.cell? ⟨Q + 1, 1, none⟩ = some (.int .i64 (ay : Int)) := by rw [cell_of_row W1.drew (Q + 1) 1 _ _ _ H1.out]; rfl
  have hk0 : ax * 9 + ay < 81 := by omega
  have HD : Hid (ArN W1.drew (Q + 3) fun _ => 0) := H3.out.same rfl
  have c3 : W1.drew.cell? ⟨Q + 3, ax * 9 + ay, none⟩ = some (.int .i64 0) := HD.out.cell hk0
  have f3 : W1.drew.frozen? ⟨Q + 3, ax * 9 + ay, none⟩ = false := HD.out.frozen _
  obtain ⟨W2, HW2⟩ : ∃ W2, Hid (W2 = (W1.setCell ⟨Q + 3, ax * 9 + ay, none⟩ (.int .i64 1)).drew) := ⟨_, rfl⟩
  have HA2 : Hid (ArN W2 (Q + 3) (tvF cl (ax, ay) bY ax ay)) := by
    show ArN _ _ _
    rw [HW2.out]
    refine ((H3.out.store (ax * 9 + ay) 1).same rfl).congr fun j hj => ?_
    unfold upN tvF
    have e := tv_start cl (ax, ay) bY (j / 9) (j % 9)
    simp only at e
    rw [e]
    by_cases h : j = ax * 9 + ay
    · rw [if_pos h, if_pos (by subst h; exact Prod.ext (by show ax = _; omega) (by show ay = _; omega))]; rfl
    · rw [if_neg h, if_neg (fun e => h (by
        have e1 : ax = j / 9 := congrArg Prod.fst e
        have e2 : ay = j % 9 := congrArg Prod.snd e
        omega))]; rfl
  have HB2 : Hid (Below (Q + 3) W1 W2) := by
    rw [HW2.out]
    exact below_drewN ((Below.refl _ _).setCell (p := ⟨Q + 3, ax * 9 + ay, none⟩) (Nat.le_refl _) _) 1
  clear hM hr
  go_enter Tryd.func11, Tryd.ntmps11
  go_upto_region 2 with fail
  rw [← HQ.out, ← HW1.out]
  go_region
  rw [← HW2.out]
  clear c10 c11 c3 f3 HD hz
  have c10 : W2.cell? ⟨Q + 1, 0, none⟩ = some (.int .i64 (ax : Int)) := by rw [cell_of_row W2 (Q + 1) 0 _ _ _ ((HB2.out.block (Q + 1) (by omega)).trans H1.out)]; rfl
  go_wp2_with fail
  go_loopw [8] (fun xv wr => ∃ x : Nat, ax ≤ x ∧ (x ≤ ax ∨ x ≤ bx + 1) ∧ xv = .int .i64 (x : Int) ∧ Hid (ArN wr (Q + 3) (tvF cl (ax, ay) bY x ay)) ∧ Hid (Below (Q + 3) W1 wr)) (fun xv _ => 20 - (intOf xv).toNat)
  case atStart => exact ⟨ax, Nat.le_refl _, Or.inl (Nat.le_refl _), rfl, HA2, HB2⟩
  case round =>
    clear HA2 HB2 c10
    obtain ⟨x, hx, hxb, rfl, HA, HB⟩ := hrel
    have c20 : wr.cell? ⟨Q + 2, 0, none⟩ = some (.int .i64 (bx : Int)) := by rw [cell_of_row wr (Q + 2) 0 _ _ _ ((HB.out.block (Q + 2) (by omega)).trans H2.out)]; rfl
    have c11 : wr.cell? ⟨Q + 1, 1, none⟩ = some (.int .i64 (ay : Int)) := by rw [cell_of_row wr (Q + 1) 1 _ _ _ ((HB.out.block (Q + 1) (by omega)).trans H1.out)]; rfl
    by_cases hxl : x ≤ bx
    · have hxl' : (x : Int) ≤ (bx : Int) := by omega
      go_wp2_with fail
      go_loopw [9] (fun yv wq => ∃ y : Nat, ay ≤ y ∧ (y ≤ ay ∨ y ≤ bY + 1) ∧ yv = .int .i64 (y : Int) ∧ Hid (ArN wq (Q + 3) (tvF cl (ax, ay) bY x y)) ∧ Hid (Below (Q + 3) W1 wq)) (fun yv _ => 20 - (intOf yv).toNat)
      case atStart => exact ⟨ay, Nat.le_refl _, Or.inl (Nat.le_refl _), rfl, HA, HB⟩
      case round =>
        clear HA HB c20 c11
        obtain ⟨y, hy, hyb, rfl, HA, HB⟩ := hrel
        have c21 : wr.cell? ⟨Q + 2, 1, none⟩ = some (.int .i64 (bY : Int)) := by rw [cell_of_row wr (Q + 2) 1 _ _ _ ((HB.out.block (Q + 2) (by omega)).trans H2.out)]; rfl
        by_cases hyl : y ≤ bY
        · have hyl' : (y : Int) ≤ (bY : Int) := by omega
          obtain ⟨V, HV⟩ : ∃ V : Nat, Hid (V = nP cl (ax, ay) (x, y)) := ⟨_, rfl⟩
          have hV : V ≤ 16384 := by rw [HV.out]; exact nP_bd (by show x < 8; omega) (by show y < 8; omega)
          obtain ⟨U, HU⟩ : ∃ U : Nat, Hid (U = tvC cl (ax, ay) bY x y x y) := ⟨_, rfl⟩
          obtain ⟨A, HAa⟩ : ∃ A : Nat, Hid (A = tvC cl (ax, ay) bY x y (x + 1) y) := ⟨_, rfl⟩
          obtain ⟨B, HBb⟩ : ∃ B : Nat, Hid (B = tvC cl (ax, ay) bY x y x (y + 1)) := ⟨_, rfl⟩
          have hA : A ≤ 40000 := by rw [HAa.out]; exact tv_bd cl _ (by omega) (by omega) (by omega) _ _
          have hBd : B ≤ 40000 := by rw [HBb.out]; exact tv_bd cl _ (by omega) (by omega) (by omega) _ _
          have e1 : tvF cl (ax, ay) bY x y (x * 9 + y) = (U : Int) := by unfold tvF; rw [show (x * 9 + y) / 9 = x by omega, show (x * 9 + y) % 9 = y by omega, HU.out]
          have e2 : tvF cl (ax, ay) bY x y ((x + 1) * 9 + y) = (A : Int) := by unfold tvF; rw [show ((x + 1) * 9 + y) / 9 = x + 1 by omega, show ((x + 1) * 9 + y) % 9 = y by omega, HAa.out]
          have e3 : tvF cl (ax, ay) bY x y (x * 9 + (y + 1)) = (B : Int) := by unfold tvF; rw [show (x * 9 + (y + 1)) / 9 = x by omega, show (x * 9 + (y + 1)) % 9 = y + 1 by omega, HBb.out]
          have HUV : Hid (cl (ixP8 (x, y)) = false → U = V) := fun h => by
            rw [HU.out, HV.out, tv_raw cl (ax, ay) hx hy hyl, nP_last h (dsP (ax, ay) (x, y)) (ax, ay) (Nat.le_refl _)]
          have HV0 : Hid (cl (ixP8 (x, y)) = true → V = 0) := fun h => by
            rw [HV.out]; exact nP_shut h (dsP (ax, ay) (x, y)) (ax, ay) (Nat.le_refl _)
          have HSt : Hid (∀ j, j < 81 → (if j = x * 9 + y then (V : Int) else if j = (x + 1) * 9 + y then (A : Int) + (V : Int) else if j = x * 9 + (y + 1) then (B : Int) + (V : Int) else tvF cl (ax, ay) bY x y j) = tvF cl (ax, ay) bY x (y + 1) j) := fun j hj => by
            have h := tv_step cl (ax, ay) (bY := bY) hx hy hyl (j / 9) (j % 9)
            unfold tvF
            rw [h, ← HV.out]
            by_cases q1 : j = x * 9 + y
            · rw [if_pos q1, if_pos (c := j / 9 = x ∧ j % 9 = y) (by omega)]
            · rw [if_neg q1, if_neg (c := j / 9 = x ∧ j % 9 = y) (by omega)]
              by_cases q2 : j = (x + 1) * 9 + y
              · rw [if_pos q2, if_pos (c := j / 9 = x + 1 ∧ j % 9 = y) (by omega), HAa.out, show j / 9 = x + 1 by omega, show j % 9 = y by omega]; rfl
              · rw [if_neg q2, if_neg (c := j / 9 = x + 1 ∧ j % 9 = y) (by omega)]
                by_cases q3 : j = x * 9 + (y + 1)
                · rw [if_pos q3, if_pos (c := j / 9 = x ∧ j % 9 = y + 1) (by omega), HBb.out, show j / 9 = x by omega, show j % 9 = y + 1 by omega]; rfl
                · rw [if_neg q3, if_neg (c := j / 9 = x ∧ j % 9 = y + 1) (by omega)]
          have c0 : wr.cell? ⟨Q, x * 8 + y, none⟩ = some (.bool (cl (ixP8 (x, y)))) := by
            rw [cell_of_row wr Q _ _ _ _ ((HB.out.block Q (by omega)).trans H0.out), HM.out, mkC_get _ _ (by omega)]; rfl
          have HWin : Hid (∀ W3, ArN W3 (Q + 3) (upN (tvF cl (ax, ay) bY x y) (x * 9 + y) (V : Int)) → Below (Q + 3) W1 W3 →
              W3.drew.cell? ⟨Q + 3, x * 9 + y, none⟩ = some (.int .i64 (V : Int)) ∧ W3.drew.cell? ⟨Q + 3, (x + 1) * 9 + y, none⟩ = some (.int .i64 (A : Int)) ∧ W3.drew.frozen? ⟨Q + 3, (x + 1) * 9 + y, none⟩ = false ∧
              ∀ W4, W4 = (W3.setCell ⟨Q + 3, (x + 1) * 9 + y, none⟩ (.int .i64 ((A : Int) + (V : Int)))).drew →
              W4.drew.cell? ⟨Q + 3, x * 9 + y, none⟩ = some (.int .i64 (V : Int)) ∧ W4.drew.cell? ⟨Q + 3, x * 9 + (y + 1), none⟩ = some (.int .i64 (B : Int)) ∧ W4.drew.frozen? ⟨Q + 3, x * 9 + (y + 1), none⟩ = false ∧
              ∀ W5, W5 = (W4.setCell ⟨Q + 3, x * 9 + (y + 1), none⟩ (.int .i64 ((B : Int) + (V : Int)))).drew →
              ArN W5 (Q + 3) (tvF cl (ax, ay) bY x (y + 1)) ∧ Below (Q + 3) W1 W5) := fun W3 h1 h2 => by
            have g1 : ArN W3.drew (Q + 3) _ := h1.same rfl
            refine ⟨by rw [g1.cell (by omega), upN, if_pos rfl], by rw [g1.cell (by omega), upN, if_neg (by omega), e2], g1.frozen _, fun W4 hW4 => ?_⟩
            have k1 := (h1.store ((x + 1) * 9 + y) ((A : Int) + (V : Int)))
            have k2 : ArN W4 (Q + 3) (upN (upN (tvF cl (ax, ay) bY x y) (x * 9 + y) (V : Int)) ((x + 1) * 9 + y) ((A : Int) + (V : Int))) := by rw [hW4]; exact k1.same rfl
            have k3 : ArN W4.drew (Q + 3) _ := k2.same rfl
            refine ⟨by rw [k3.cell (by omega), upN, if_neg (by omega), upN, if_pos rfl], by rw [k3.cell (by omega), upN, if_neg (by omega), upN, if_neg (by omega), e3], k3.frozen _, fun W5 hW5 => ⟨?_, ?_⟩⟩
            · rw [hW5]
              refine ((k2.store (x * 9 + (y + 1)) ((B : Int) + (V : Int))).same rfl).congr fun j hj => ?_
              rw [← HSt.out j hj]
              unfold upN
              by_cases q1 : j = x * 9 + y
              · rw [if_neg (by omega), if_neg (by omega), if_pos q1, if_pos q1]
              · rw [if_neg (c := j = x * 9 + y) q1, if_neg (c := j = x * 9 + y) q1]
                by_cases q2 : j = (x + 1) * 9 + y
                · rw [if_neg (by omega), if_pos q2, if_pos q2]
                · rw [if_neg (c := j = (x + 1) * 9 + y) q2, if_neg (c := j = (x + 1) * 9 + y) q2]
            · rw [hW5, hW4]
              exact below_drewN ((below_drewN (h2.setCell (p := ⟨Q + 3, (x + 1) * 9 + y, none⟩) (Nat.le_refl _) _) 1).setCell (p := ⟨Q + 3, x * 9 + (y + 1), none⟩) (Nat.le_refl _) _) 1
          cases hcl : cl (ixP8 (x, y)) with
          | true =>
            have cq : wr.cell? ⟨Q + 3, x * 9 + y, none⟩ = some (.int .i64 (U : Int)) := by rw [HA.out.cell (by omega), e1]
            have fq : wr.frozen? ⟨Q + 3, x * 9 + y, none⟩ = false := HA.out.frozen _
            rw [hcl] at c0
            obtain rfl : V = 0 := HV0.out hcl
            obtain ⟨W3, HW3⟩ : ∃ W3, Hid (W3 = wr.setCell ⟨Q + 3, x * 9 + y, none⟩ (.int .i64 0)) := ⟨_, rfl⟩
            have HA3 : Hid (ArN W3 (Q + 3) (upN (tvF cl (ax, ay) bY x y) (x * 9 + y) ((0 : Nat) : Int))) := by rw [HW3.out]; exact HA.out.store _ _
            have HB3 : Hid (Below (Q + 3) W1 W3) := by rw [HW3.out]; exact HB.out.setCell (p := ⟨Q + 3, x * 9 + y, none⟩) (Nat.le_refl _) _
            go_upto_region 11 with fail
            rw [← HW3.out]
            clear cq fq c0 c21
            obtain ⟨d1, d2, d3, hw4⟩ := HWin.out W3 HA3.out HB3.out
            obtain ⟨W4, HW4⟩ : ∃ W4, Hid (W4 = (W3.setCell ⟨Q + 3, (x + 1) * 9 + y, none⟩ (.int .i64 (A : Int))).drew) := ⟨_, rfl⟩
            obtain ⟨g1, g2, g3, hw5⟩ := hw4 W4 (by rw [HW4.out, show (A : Int) + ((0 : Nat) : Int) = (A : Int) by omega])
            obtain ⟨W5, HW5⟩ : ∃ W5, Hid (W5 = (W4.setCell ⟨Q + 3, x * 9 + (y + 1), none⟩ (.int .i64 (B : Int))).drew) := ⟨_, rfl⟩
            have hw6 := hw5 W5 (by rw [HW5.out, show (B : Int) + ((0 : Nat) : Int) = (B : Int) by omega])
            have HA5 : Hid (ArN W5 (Q + 3) (tvF cl (ax, ay) bY x (y + 1))) := hw6.1
            have HB5 : Hid (Below (Q + 3) W1 W5) := hw6.2
            clear hw4 hw5 hw6 e1 e2 e3
            go_region
            rw [← HW4.out]
            go_upto_region 12 with fail
            go_region
            rw [← HW5.out]
            go_wp2
            go_roundw
            case rel => exact ⟨y + 1, by omega, Or.inr (by omega), by go_num, HA5, HB5⟩
            case measure => simp [intOf]; omega
          | false =>
            rw [hcl] at c0
            have hU : U = V := HUV.out hcl
            have HA3 : Hid (ArN wr (Q + 3) (upN (tvF cl (ax, ay) bY x y) (x * 9 + y) (V : Int))) := HA.out.congr fun j hj => by
              unfold upN
              by_cases q : j = x * 9 + y
              · rw [if_pos q, q, e1, hU]
              · rw [if_neg q]
            have HB3 := HB
            obtain ⟨d1, d2, d3, hw4⟩ := HWin.out wr HA3.out HB3.out
            obtain ⟨W4, HW4⟩ : ∃ W4, Hid (W4 = (wr.setCell ⟨Q + 3, (x + 1) * 9 + y, none⟩ (.int .i64 ((A : Int) + (V : Int)))).drew) := ⟨_, rfl⟩
            obtain ⟨g1, g2, g3, hw5⟩ := hw4 W4 HW4.out
            obtain ⟨W5, HW5⟩ : ∃ W5, Hid (W5 = (W4.setCell ⟨Q + 3, x * 9 + (y + 1), none⟩ (.int .i64 ((B : Int) + (V : Int)))).drew) := ⟨_, rfl⟩
            have HA5 : Hid (ArN W5 (Q + 3) (tvF cl (ax, ay) bY x (y + 1))) := (hw5 W5 HW5.out).1
            have HB5 : Hid (Below (Q + 3) W1 W5) := (hw5 W5 HW5.out).2
            clear hw4 hw5 e1 e2 e3
            go_upto_region 11 with fail
            go_region
            rw [← HW4.out]
            go_upto_region 12 with fail
            go_region
            rw [← HW5.out]
            go_wp2
            go_roundw
            case rel => exact ⟨y + 1, by omega, Or.inr (by omega), by go_num, HA5, HB5⟩
            case measure => simp [intOf]; omega
        · have hyl' : ¬ (y : Int) ≤ (bY : Int) := by omega
          have HA2 : Hid (ArN wr (Q + 3) (tvF cl (ax, ay) bY (x + 1) ay)) := HA.out.congr fun j _ => by
            unfold tvF
            rw [show y = max ay (bY + 1) by omega]
            have := tv_row cl (ax, ay) bY x (j / 9) (j % 9)
            simp only at this
            rw [this]
          go_wp2_with fail
          go_roundw
          case rel => exact ⟨x + 1, by omega, Or.inr (by omega), by go_num, HA2, HB⟩
          case measure => simp [intOf]; omega
    · have hxl' : ¬ (x : Int) ≤ (bx : Int) := by omega
      have c21 : wr.cell? ⟨Q + 2, 1, none⟩ = some (.int .i64 (bY : Int)) := by rw [cell_of_row wr (Q + 2) 1 _ _ _ ((HB.out.block (Q + 2) (by omega)).trans H2.out)]; rfl
      have ce : wr.cell? ⟨Q + 3, bx * 9 + bY, none⟩ = some (.int .i64 r) := by
        rw [HA.out.cell (by omega), HR.out]
        unfold tvF
        rw [show (bx * 9 + bY) / 9 = bx by omega, show (bx * 9 + bY) % 9 = bY by omega]
        have h := tv_end cl (ax, ay) (bx, bY)
        simp only at h
        rw [show x = max ax (bx + 1) by omega, h]
      have HBf : Hid (Below w.heap.size w wr) := HB1.out.trans (HB.out.mono (by rw [← HQ.out]; omega))
      go_upto_region 13 with fail
      go_quiet (fail)
      go_wp2_with fail
      go_ret
      exact ⟨rfl, hid_w (below_drewN HBf.out _)⟩
end Go.Proofs.YtapchcamjeafmaaDoor
