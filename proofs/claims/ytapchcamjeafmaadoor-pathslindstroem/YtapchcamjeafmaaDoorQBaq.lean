/-
  paths.barred, point by point.
-/
import Derived.Test.YtapchcamjeafmaaDoorQBar
import Derived.Test.YtapchcamjeafmaaDoorQEnt
namespace Go.Proofs.YtapchcamjeafmaaDoor
open Go.RowKit

/-- The marks of the points, if they are of the grid, none twice. -/
def brF (gw gh : Int) : (Nat → Bool) → List (Int × Int) → Option (Nat → Bool)
  | cl, [] => some cl
  | cl, p :: ps => if inG gw gh p = true ∧ cl (ixP8 (p.1.toNat, p.2.toNat)) = false then brF gw gh (mkP cl (p.1.toNat, p.2.toNat) true) ps else none
def brC (o : Option (Nat → Bool)) : Nat → Bool := o.getD fun _ => false
def brE (o : Option (Nat → Bool)) : Int := if o.isSome then 0 else 1
theorem mkC_set (cl : Nat → Bool) (p : Nat × Nat) (b : Bool) : (mkC cl).setIfInBounds (p.1 * 8 + p.2) (.bool b) = mkC (mkP cl p b) := by
  apply Array.ext_getElem?
  intro i
  by_cases hi : i < 64
  · rw [mkC_get _ _ hi]
    by_cases e : i = p.1 * 8 + p.2
    · rw [e, Array.getElem?_setIfInBounds_self_of_lt (by rw [mkC_size]; omega)]
      unfold mkP ixP8
      rw [if_pos rfl]
    · rw [Array.getElem?_setIfInBounds_ne (by omega), mkC_get _ _ hi]
      unfold mkP ixP8
      rw [if_neg e]
  · rw [Array.getElem?_eq_none (by rw [Array.size_setIfInBounds, mkC_size]; omega), Array.getElem?_eq_none (by rw [mkC_size]; omega)]
theorem wpList_loadm {ops : Array Oper} {rest : List Oper} {o : Oper} {a : Act} {w : World} {Q : Exit → Act → World → Prop} (hgd : o.guard = none) (x : Operand) (ho : o.op = .load 42 x)
    (g : Nat) (cl : Nat → Bool) (hx : a.eval x = .pointer (some ⟨g, 0, none⟩)) (hg : w.heap[g]? = some (.cells (mkC cl) 42 (0, 0)))
    (h : wpList Tryd.prog ops Q rest (a.put o.dst (.agg (mkC cl))) w) : wpList Tryd.prog ops Q (o :: rest) a w :=
  wpList_load_row hgd 42 x ho g hx 42 (mkC cl) (0, 0) _ hg Tryd.underlying42 rfl (by rw [infoM, mkC_size]) h

set_option maxHeartbeats 8000000 in
set_option maxRecDepth 100000 in
theorem barred_at (gw gh : Int) (ba : Option Addr) (n c : Nat) (bs : List (Int × Int)) (w : World) (hb : badD gw gh = false) (hn : n = bs.length) (hl : n ≤ 17592186044416) (hP : PtI w ba bs) :
    Calls Tryd.prog 9 #[gridV gw gh (.slice ba n c)] w fun e w' => e = .returned (.tuple #[.agg (mkC (brC (brF gw gh (fun _ => false) bs))), .int .i64 (brE (brF gw gh (fun _ => false) bs))]) ∧ Hid (Below w.heap.size w w') := by
  obtain ⟨o, HO⟩ : ∃ o, Hid (o = brF gw gh (fun _ => false) bs) := ⟨_, rfl⟩
  rw [← HO.out]
  have HP : Hid (PtI w ba bs) := hP
  have HN : Hid (n = bs.length) := hn
  have HDm : Hid (1 ≤ gw ∧ gw ≤ 8 ∧ 1 ≤ gh ∧ gh ≤ 8) := by
    unfold badD at hb
    simp only [Bool.or_eq_false_iff, decide_eq_false_iff_not] at hb
    show _ ∧ _
    omega
  unfold gridV
  obtain ⟨Q, HQ⟩ : ∃ Q, Hid (Q = w.heap.size) := ⟨_, rfl⟩
  obtain ⟨W0, HW0⟩ : ∃ W0, Hid (W0 = (w.alloc (.cells #[.int .i64 gw, .int .i64 gh, .slice ba n c] 24)).alloc (.cells (mkC fun _ => false) 42)) := ⟨_, rfl⟩
  obtain ⟨W1, HW1⟩ : ∃ W1, Hid (W1 = W0.alloc (.cells (mkC fun _ => false) 42)) := ⟨_, rfl⟩
  have hs1 : (w.alloc (.cells #[.int .i64 gw, .int .i64 gh, .slice ba n c] 24)).heap.size = w.heap.size + 1 := by simp
  have HSz : Hid (W0.heap.size = Q + 2) := by show _ = _; rw [HW0.out, HQ.out]; simp
  have HB0 : Hid (Below w.heap.size w W0) := by rw [HW0.out]; exact ((Below.refl _ _).alloc (Nat.le_refl _) _).alloc (by simp) _
  have HQb : Hid (W0.heap[Q]? = some (.cells #[.int .i64 gw, .int .i64 gh, .slice ba n c] 24 (0, 0))) := by
    show _ = _
    rw [HW0.out, HQ.out]
    show ((w.heap.push _).push _)[w.heap.size]? = _
    rw [Array.getElem?_push, if_neg (by simp), Array.getElem?_push_size]
  have HRb : Hid (W0.heap[Q + 1]? = some (.cells (mkC fun _ => false) 42 (0, 0))) := by
    show _ = _
    rw [HW0.out, HQ.out, ← hs1]; exact heap_alloc_last _ _
  have hB1 : Below W0.heap.size W0 W1 := by rw [HW1.out]; exact (Below.refl _ _).alloc (Nat.le_refl _) _
  have HB1 : Hid (Below w.heap.size w W1) := HB0.out.trans (hB1.mono HB0.out.size)
  have HQ1 : Hid (W1.heap[Q]? = some (.cells #[.int .i64 gw, .int .i64 gh, .slice ba n c] 24 (0, 0))) := by show _ = _; rw [hB1.block Q (by have := HSz.out; omega)]; exact HQb.out
  have HR1 : Hid (W1.heap[Q + 1]? = some (.cells (mkC fun _ => false) 42 (0, 0))) := by show _ = _; rw [hB1.block (Q + 1) (by have := HSz.out; omega)]; exact HRb.out
  have HC1 : Hid (W1.heap[Q + 2]? = some (.cells (mkC fun _ => false) 42 (0, 0))) := by show _ = _; rw [HW1.out, ← HSz.out]; exact heap_alloc_last _ _
  have hs0 : W0.heap.size = Q + 2 := HSz.out
  have q0 : W0.cell? ⟨Q, 0, none⟩ = some (.int .i64 gw) := by rw [cell_of_row W0 Q 0 _ _ _ HQb.out]; rfl
  have q1 : W0.cell? ⟨Q, 1, none⟩ = some (.int .i64 gh) := by rw [cell_of_row W0 Q 1 _ _ _ HQb.out]; rfl
  have r2 : W1.cell? ⟨Q, 2, none⟩ = some (.slice ba n c) := by rw [cell_of_row W1 Q 2 _ _ _ HQ1.out]; rfl
  have h1 : ¬ gw < 1 := by have := HDm.out; omega
  have h2 : ¬ gw > 8 := by have := HDm.out; omega
  have h3 : ¬ gh < 1 := by have := HDm.out; omega
  have h4 : ¬ gh > 8 := by have := HDm.out; omega
  clear hb hP hn hs1 hB1
  go_enter Tryd.func9, Tryd.ntmps9
  go_upto_region 1 with fail
  change Code.wp _ _ _ _ ((w.alloc (.cells #[.int .i64 gw, .int .i64 gh, .slice ba n c] 24)).alloc (.cells (mkC fun _ => false) 42))
  rw [← HQ.out, ← HW0.out]
  go_cut [24] (fun s24 wx => s24 = .bool false ∧ Hid (wx = W0))
  case first =>
    go_wp2_with fail
    go_meet
    exact ⟨by first | rfl | (simp; omega), rfl⟩
  obtain ⟨rfl, HWx⟩ := hcut
  obtain rfl : W0 = wc := HWx.out.symm
  clear HWx q0 q1 h1 h2 h3 h4
  go_upto_region 4 with fail
  change Code.wp _ _ _ _ (W0.alloc (.cells (mkC fun _ => false) 42))
  rw [← HW1.out]
  clear hs0
  go_wp2_with fail
  clear r2
  go_loopw [29] (fun iv wr => ∃ (i : Nat) (cl : Nat → Bool), i ≤ n ∧ iv = .int .i64 (i : Int) ∧ Hid (brF gw gh cl (bs.drop i) = o) ∧ Hid (wr.heap[Q]? = some (.cells #[.int .i64 gw, .int .i64 gh, .slice ba n c] 24 (0, 0))) ∧ Hid (wr.heap[Q + 1]? = some (.cells (mkC fun _ => false) 42 (0, 0))) ∧ Hid (wr.heap[Q + 2]? = some (.cells (mkC cl) 42 (0, 0))) ∧ Hid (Below w.heap.size w wr)) (fun iv _ => n - (intOf iv).toNat)
  case atStart => exact ⟨0, fun _ => false, Nat.zero_le _, rfl, HO.out.symm, HQ1, HR1, HC1, HB1⟩
  case round =>
    clear HQ1 HR1 HC1 HB1
    obtain ⟨i, cl, hi, rfl, HR, HQr, HRr, HCr, HBr⟩ := hrel
    by_cases hlt : i < n
    · have hlt' : (i : Int) < (n : Int) := by omega
      have hiz : i < bs.length := by rw [← HN.out]; exact hlt
      obtain ⟨b, off, ha, hb, k0, k1⟩ := (HP.out.below HBr.out) i hiz
      subst ha
      obtain ⟨x, y, HXY⟩ : ∃ x y, Hid (bs.getD i (0, 0) = (x, y)) := ⟨_, _, rfl⟩
      rw [HXY.out] at k0 k1
      have HR2 : Hid ((if inG gw gh (x, y) = true ∧ cl (ixP8 (x.toNat, y.toNat)) = false then brF gw gh (mkP cl (x.toNat, y.toNat) true) (bs.drop (i + 1)) else none) = o) := by
        show _ = _
        have e : bs.drop i = bs.getD i (0, 0) :: bs.drop (i + 1) := by
          rw [List.drop_eq_getElem_cons hiz]; simp [List.getD, List.getElem?_eq_getElem hiz]
        rw [← HR.out, e, HXY.out]; rfl
      obtain ⟨P, HPp⟩ : ∃ P, Hid (P = wr.heap.size) := ⟨_, rfl⟩
      obtain ⟨W2, HW2⟩ : ∃ W2, Hid (W2 = wr.alloc (.cells #[.int .i64 x, .int .i64 y] 29)) := ⟨_, rfl⟩
      have hB2 : Below wr.heap.size wr W2 := by rw [HW2.out]; exact (Below.refl _ _).alloc (Nat.le_refl _) _
      have HB2 : Hid (Below w.heap.size w W2) := HBr.out.trans (hB2.mono HBr.out.size)
      have HPb : Hid (W2.heap[P]? = some (.cells #[.int .i64 x, .int .i64 y] 29 (0, 0))) := by
        rw [HW2.out, HPp.out]
        show (wr.heap.push _)[wr.heap.size]? = _
        rw [Array.getElem?_push_size]
      have HQ2 : Hid (W2.heap[Q]? = some (.cells #[.int .i64 gw, .int .i64 gh, .slice (some ⟨b, off, none⟩) n c] 24 (0, 0))) := by show _ = _; rw [hB2.block Q (lt_of_some HQr.out)]; exact HQr.out
      have HR3 : Hid (W2.heap[Q + 1]? = some (.cells (mkC fun _ => false) 42 (0, 0))) := by show _ = _; rw [hB2.block (Q + 1) (lt_of_some HRr.out)]; exact HRr.out
      have HC2 : Hid (W2.heap[Q + 2]? = some (.cells (mkC cl) 42 (0, 0))) := by show _ = _; rw [hB2.block (Q + 2) (lt_of_some HCr.out)]; exact HCr.out
      clear hB2
      go_upto_region 7 with fail
      rw [← HPp.out, ← HW2.out]
      clear k0 k1
      have HWi : Hid (Calls Tryd.prog 10 #[.agg #[.int .i64 gw, .int .i64 gh, .slice (some ⟨b, off, none⟩) n c], .slice (some ⟨W2.heap.size, 0, none⟩) 1 1] (W2.alloc (.cells #[.int .i64 x, .int .i64 y] 29)).drew fun e w' => e = .returned (.bool (inG gw gh (x, y))) ∧ Hid (Below W2.heap.size W2 w')) := by
        have hA : Below W2.heap.size W2 (W2.alloc (.cells #[.int .i64 x, .int .i64 y] 29)).drew := below_drewN ((Below.refl _ _).alloc (Nat.le_refl _) _) 1
        have hh : (W2.alloc (.cells #[.int .i64 x, .int .i64 y] 29)).drew.heap[W2.heap.size]? = some (.cells #[.int .i64 x, .int .i64 y] 29 (0, 0)) := heap_alloc_last W2 _
        refine (within_at gw gh (.slice (some ⟨b, off, none⟩) n c) (some ⟨W2.heap.size, 0, none⟩) 1 1 [(x, y)] _ rfl (by omega) (fun j hj => ?_) (inG gw gh (x, y)) (by simp)).mono ?_
        · obtain rfl : j = 0 := by simpa using hj
          exact ⟨W2.heap.size, 0, rfl, lt_of_some hh, by rw [cell_of_row _ _ _ _ _ _ hh]; rfl, by rw [cell_of_row _ _ _ _ _ _ hh]; rfl⟩
        · rintro e w' ⟨rfl, hb⟩
          exact ⟨rfl, hA.trans (hb.out.mono hA.size)⟩
      have a0 : W2.drew.cell? ⟨Q, 0, none⟩ = some (.int .i64 gw) := by rw [cell_of_row W2.drew Q 0 _ _ _ HQ2.out]; rfl
      have a1 : W2.drew.cell? ⟨Q, 1, none⟩ = some (.int .i64 gh) := by rw [cell_of_row W2.drew Q 1 _ _ _ HQ2.out]; rfl
      have a2 : W2.drew.cell? ⟨Q, 2, none⟩ = some (.slice (some ⟨b, off, none⟩) n c) := by rw [cell_of_row W2.drew Q 2 _ _ _ HQ2.out]; rfl
      have a3 : W2.drew.cell? ⟨P, 0, none⟩ = some (.int .i64 x) := by rw [cell_of_row W2.drew P 0 _ _ _ HPb.out]; rfl
      have a4 : W2.drew.cell? ⟨P, 1, none⟩ = some (.int .i64 y) := by rw [cell_of_row W2.drew P 1 _ _ _ HPb.out]; rfl
      have HA9 : Hid (Below W2.heap.size W2 (W2.alloc (.cells #[.int .i64 x, .int .i64 y] 29)).drew) := below_drewN ((Below.refl _ _).alloc (Nat.le_refl _) _) 1
      have t0 := (HA9.out.cell (p := ⟨Q, 0, none⟩) (lt_of_some HQ2.out)).trans a0
      have t1 := (HA9.out.cell (p := ⟨Q, 1, none⟩) (lt_of_some HQ2.out)).trans a1
      have t2 := (HA9.out.cell (p := ⟨Q, 2, none⟩) (lt_of_some HQ2.out)).trans a2
      obtain ⟨bad, HBa⟩ : ∃ bad, Hid (bad = !(inG gw gh (x, y) && !cl (ixP8 (x.toNat, y.toNat)))) := ⟨_, rfl⟩
      go_cut [46] (fun s46 wx => s46 = .bool bad ∧ Hid (Below W2.heap.size W2 wx))
      case first =>
        cases hin : inG gw gh (x, y) with
        | false =>
          rw [hin] at HWi
          have hE : bad = true := by rw [HBa.out, hin]; rfl
          subst hE
          first
            | go_region_with (go_at_call 10; with_reducible (refine HWi.out.mono ?_); rintro e W3 ⟨rfl, HB3⟩)
            | fail
          all_goals (
            go_wp2_with fail
            go_meet
            exact ⟨rfl, HB3⟩)
        | true =>
          rw [hin] at HWi
          have hbd : 0 ≤ x ∧ x < gw ∧ 0 ≤ y ∧ y < gh := by
            unfold inG at hin
            simp only [Bool.and_eq_true, decide_eq_true_eq] at hin
            exact ⟨hin.1.1.1, hin.1.1.2, hin.1.2, hin.2⟩
          have hd := HDm.out
          obtain ⟨xn, hxn⟩ : ∃ xn : Nat, x = (xn : Int) := ⟨x.toNat, by omega⟩
          obtain ⟨yn, hyn⟩ : ∃ yn : Nat, y = (yn : Int) := ⟨y.toNat, by omega⟩
          subst hxn hyn
          have hx8 : xn < 8 := by omega
          have hy8 : yn < 8 := by omega
          have hE : bad = cl (ixP8 (xn, yn)) := by rw [HBa.out, hin]; simp
          have HWj : Hid (Calls Tryd.prog 10 #[.agg #[.int .i64 gw, .int .i64 gh, .slice (some ⟨b, off, none⟩) n c], .slice (some ⟨W2.heap.size, 0, none⟩) 1 1] (W2.alloc (.cells #[.int .i64 (xn : Int), .int .i64 (yn : Int)] 29)).drew fun e w' => e = .returned (.bool true) ∧ w'.cell? ⟨P, 0, none⟩ = some (.int .i64 (xn : Int)) ∧ w'.cell? ⟨P, 1, none⟩ = some (.int .i64 (yn : Int)) ∧ w'.cell? ⟨Q + 2, xn * 8 + yn, none⟩ = some (.bool bad) ∧ Hid (Below W2.heap.size W2 w')) := by
            refine HWi.out.mono ?_
            rintro e w' ⟨rfl, hb⟩
            refine ⟨rfl, (hb.out.cell (p := ⟨P, 0, none⟩) (lt_of_some HPb.out)).trans a3, (hb.out.cell (p := ⟨P, 1, none⟩) (lt_of_some HPb.out)).trans a4, ?_, hb⟩
            rw [hb.out.cell (p := ⟨Q + 2, xn * 8 + yn, none⟩) (lt_of_some HC2.out), cell_of_row W2 (Q + 2) _ _ _ _ HC2.out, mkC_get _ _ (by omega), hE]
            rfl
          clear hE hbd hd
          go_region_with (go_at_call 10; with_reducible (refine HWj.out.mono ?_); rintro e W3 ⟨rfl, e0, e1, e2, HB3⟩)
          all_goals (
            go_wp2_with fail
            go_meet
            exact ⟨rfl, HB3⟩)
      obtain ⟨rfl, HB3⟩ := hcut
      clear a0 a1 a2 a3 a4 t0 t1 t2 HWi HA9
      have HBw : Hid (Below w.heap.size w wc) := HB2.out.trans (HB3.out.mono HB2.out.size)
      have HR4 : Hid (wc.heap[Q + 1]? = some (.cells (mkC fun _ => false) 42 (0, 0))) := by show _ = _; rw [HB3.out.block (Q + 1) (lt_of_some HR3.out)]; exact HR3.out
      have HC4 : Hid (wc.heap[Q + 2]? = some (.cells (mkC cl) 42 (0, 0))) := by show _ = _; rw [HB3.out.block (Q + 2) (lt_of_some HC2.out)]; exact HC2.out
      have HQ4 : Hid (wc.heap[Q]? = some (.cells #[.int .i64 gw, .int .i64 gh, .slice (some ⟨b, off, none⟩) n c] 24 (0, 0))) := by show _ = _; rw [HB3.out.block Q (lt_of_some HQ2.out)]; exact HQ2.out
      have HP4 : Hid (wc.heap[P]? = some (.cells #[.int .i64 x, .int .i64 y] 29 (0, 0))) := by show _ = _; rw [HB3.out.block P (lt_of_some HPb.out)]; exact HPb.out
      cases bad with
      | true =>
        have hE : o = none := by
          have h := HBa.out
          rw [← HR2.out, if_neg]
          rintro ⟨g1, g2⟩
          rw [g1, g2] at h; cases h
        subst hE
        have HBe : Hid (Below w.heap.size w (wc.setRow (Q + 1) (mkC fun _ => false))) := below_setRow HBw.out (Q + 1) (by rw [HQ.out]; omega) _
        have HLd : Hid ((loadVar 42 ⟨Q + 1, 0, none⟩).run Tryd.prog (wc.setRow (Q + 1) (mkC fun _ => false)) = .ok (.agg (mkC fun _ => false)) (wc.setRow (Q + 1) (mkC fun _ => false))) := load_marks _ _ _ (setRow_heap _ _ _ _ _ _ HR4.out)
        go_wp2_with (first | (refine wpList_buildm rfl rfl ?_) | (refine wpList_storem rfl (.tmp 2) (.tmp 47) rfl (Q + 1) (fun _ => false) (fun _ => false) rfl rfl HR4.out ?_))
        refine bodyPost_ret (v := .tuple #[.agg (mkC fun _ => false), .int .i64 1]) ?_ rfl ⟨rfl, HBe⟩
        rw [results_cell_tmp rfl]
        simp [asAddr, Result.andThen, HLd.out]
      | false =>
        have hg : inG gw gh (x, y) = true ∧ cl (ixP8 (x.toNat, y.toNat)) = false := by
          have h := HBa.out
          cases g1 : inG gw gh (x, y) with
          | false => rw [g1] at h; cases h
          | true =>
            cases g2 : cl (ixP8 (x.toNat, y.toNat)) with
            | false => exact ⟨rfl, rfl⟩
            | true => rw [g1, g2] at h; cases h
        have hbd : 0 ≤ x ∧ x < gw ∧ 0 ≤ y ∧ y < gh := by
          have hin := hg.1
          unfold inG at hin
          simp only [Bool.and_eq_true, decide_eq_true_eq] at hin
          exact ⟨hin.1.1.1, hin.1.1.2, hin.1.2, hin.2⟩
        have hd := HDm.out
        have HR5 : Hid (brF gw gh (mkP cl (x.toNat, y.toNat) true) (bs.drop (i + 1)) = o) := by show _ = _; rw [← HR2.out, if_pos hg]
        obtain ⟨xn, hxn⟩ : ∃ xn : Nat, x = (xn : Int) := ⟨x.toNat, by omega⟩
        obtain ⟨yn, hyn⟩ : ∃ yn : Nat, y = (yn : Int) := ⟨y.toNat, by omega⟩
        subst hxn hyn
        rw [Int.toNat_natCast, Int.toNat_natCast] at HR5
        have hx8 : xn < 8 := by omega
        have hy8 : yn < 8 := by omega
        have e0 : wc.drew.cell? ⟨P, 0, none⟩ = some (.int .i64 (xn : Int)) := by rw [cell_of_row wc.drew P 0 _ _ _ HP4.out]; rfl
        have e1 : wc.drew.cell? ⟨P, 1, none⟩ = some (.int .i64 (yn : Int)) := by rw [cell_of_row wc.drew P 1 _ _ _ HP4.out]; rfl
        obtain ⟨u, e2⟩ : ∃ u, wc.drew.cell? ⟨Q + 2, xn * 8 + yn, none⟩ = some u := ⟨_, by rw [cell_of_row wc.drew (Q + 2) _ _ _ _ HC4.out, mkC_get _ _ (by omega)]⟩
        have e3 : wc.drew.frozen? ⟨Q + 2, xn * 8 + yn, none⟩ = false := frozen_of_row wc.drew (Q + 2) _ _ _ HC4.out
        obtain ⟨W5, HW5b⟩ : ∃ W5, Hid (W5 = (wc.setCell ⟨Q + 2, xn * 8 + yn, none⟩ (.bool true)).drew) := ⟨_, rfl⟩
        have HW5 : Hid (W5 = wc.drew.setCell ⟨Q + 2, xn * 8 + yn, none⟩ (.bool true)) := HW5b.out
        have HC5 : Hid (W5.heap[Q + 2]? = some (.cells (mkC (mkP cl (xn, yn) true)) 42 (0, 0))) := by
          show _ = _
          rw [HW5.out, heap_setCell_same wc.drew (Q + 2) _ _ 42 _ HC4.out, ← mkC_set cl (xn, yn) true]
        have HQ5 : Hid (W5.heap[Q]? = some (.cells #[.int .i64 gw, .int .i64 gh, .slice (some ⟨b, off, none⟩) n c] 24 (0, 0))) := by show _ = _; rw [HW5.out, heap_setCell_other _ _ _ _ (show Q ≠ Q + 2 by omega)]; exact HQ4.out
        have HR6 : Hid (W5.heap[Q + 1]? = some (.cells (mkC fun _ => false) 42 (0, 0))) := by show _ = _; rw [HW5.out, heap_setCell_other _ _ _ _ (show Q + 1 ≠ Q + 2 by omega)]; exact HR4.out
        have HB5 : Hid (Below w.heap.size w W5) := by rw [HW5b.out]; exact below_drewN (HBw.out.setCell (p := ⟨Q + 2, xn * 8 + yn, none⟩) (by rw [HQ.out]; exact Nat.le_add_right _ _) _) 1
        clear hg hbd hd
        go_upto_region 9 with fail
        go_region
        rw [← HW5b.out]
        go_wp2
        go_roundw
        case rel => exact ⟨i + 1, _, by omega, by go_num, HR5, HQ5, HR6, HC5, HB5⟩
        case measure => simp [intOf]; omega
    · obtain rfl : i = n := by omega
      have hlt' : ¬ ((i : Int) < (i : Int)) := by omega
      have hE : o = some cl := by rw [← HR.out, List.drop_of_length_le (by rw [HN.out]; exact Nat.le_refl _)]; rfl
      subst hE
      have HRs : Hid ((wr.setRow (Q + 1) (mkC cl)).heap[Q + 1]? = some (.cells (mkC cl) 42 (0, 0))) := setRow_heap _ _ _ _ _ _ HRr.out
      have HBe : Hid (Below w.heap.size w (wr.setRow (Q + 1) (mkC cl))) := below_setRow HBr.out (Q + 1) (by rw [HQ.out]; omega) _
      have HLd : Hid ((loadVar 42 ⟨Q + 1, 0, none⟩).run Tryd.prog (wr.setRow (Q + 1) (mkC cl)) = .ok (.agg (mkC cl)) (wr.setRow (Q + 1) (mkC cl))) := load_marks _ _ _ HRs.out
      go_wp2_with (first | (refine wpList_loadm rfl (.tmp 4) rfl (Q + 2) cl rfl HCr.out ?_) | (refine wpList_storem rfl (.tmp 2) (.tmp 55) rfl (Q + 1) cl (fun _ => false) rfl rfl HRr.out ?_))
      refine bodyPost_ret (v := .tuple #[.agg (mkC cl), .int .i64 0]) ?_ rfl ⟨rfl, HBe⟩
      rw [results_cell_tmp rfl]
      simp [asAddr, Result.andThen, HLd.out]

end Go.Proofs.YtapchcamjeafmaaDoor
