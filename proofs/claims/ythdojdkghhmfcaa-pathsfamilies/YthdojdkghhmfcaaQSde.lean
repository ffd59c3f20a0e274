/-
  ferref.Sides.
-/
import Derived.Test.YthdojdkghhmfcaaQGrd
namespace Go.Proofs.Ythdojdkghhmfcaa
open Go.RowKit

set_option maxHeartbeats 8000000 in
set_option maxRecDepth 100000 in
theorem Sides_at (gw gh : Int) (ba sa ea : Option Addr) (n c sn sc en ec : Nat) (bs S E : List (Int × Int)) (w : World) (hn : n = bs.length) (hl : n ≤ 17592186044416) (hsn : sn = S.length) (hsl : sn ≤ 17592186044416) (hen : en = E.length) (hel : en ≤ 17592186044416) (hP : PtI w ba bs) (hS : PtI w sa S) (hE : PtI w ea E) (X : Int) (hX : X = chkE gw gh (brO gw gh bs) S E) :
    Calls Try.prog 7 #[.agg #[.int .i64 gw, .int .i64 gh, .slice ba n c], .slice sa sn sc, .slice ea en ec] w fun e w' => e = .returned (.int .i64 X) ∧ Hid (Below w.heap.size w w') := by
  have HN := hid_w (And.intro hn (And.intro hsn hen))
  have HP : Hid (PtI w ba bs) := hP
  have HS : Hid (PtI w sa S) := hS
  have HE : Hid (PtI w ea E) := hE
  obtain ⟨og, HOg⟩ : ∃ og, Hid ((!badD gw gh && gdL gw gh bs) = og) := ⟨_, rfl⟩
  obtain ⟨bS, HbS⟩ : ∃ bS, Hid (S.all (inG gw gh) = bS) := ⟨_, rfl⟩
  obtain ⟨bE, HbE⟩ : ∃ bE, Hid (E.all (inG gw gh) = bE) := ⟨_, rfl⟩
  have HX : Hid (X = if og = false then 1 else if bS = false then 1 else if bE = false then 1 else if sn ≠ en then 3 else if 4 < sn then 2 else 0) := by
    show _ = _
    rw [hX]; unfold chkE
    have h := brO_is gw gh bs
    rw [HOg.out] at h
    rw [HbS.out, HbE.out, HN.out.2.1, HN.out.2.2, ← h]
    cases brO gw gh bs with
    | none => rfl
    | some o => rfl
  obtain ⟨Q, HQ⟩ : ∃ Q, Hid (Q = w.heap.size) := ⟨_, rfl⟩
  obtain ⟨W0, HW0⟩ : ∃ W0, Hid (W0 = w.alloc (.cells #[.int .i64 gw, .int .i64 gh, .slice ba n c] 24)) := ⟨_, rfl⟩
  have HB0 : Hid (Below w.heap.size w W0) := by rw [HW0.out]; exact (Below.refl _ _).alloc (Nat.le_refl _) _
  have HQb : Hid (W0.heap[Q]? = some (.cells #[.int .i64 gw, .int .i64 gh, .slice ba n c] 24 (0, 0))) := by
    show _ = _
    rw [HW0.out, HQ.out]; exact heap_alloc_last _ _
  have q0 : W0.cell? ⟨Q, 0, none⟩ = some (.int .i64 gw) := by rw [cell_of_row W0 Q 0 _ _ _ HQb.out]; rfl
  have q1 : W0.cell? ⟨Q, 1, none⟩ = some (.int .i64 gh) := by rw [cell_of_row W0 Q 1 _ _ _ HQb.out]; rfl
  have q2 : W0.cell? ⟨Q, 2, none⟩ = some (.slice ba n c) := by rw [cell_of_row W0 Q 2 _ _ _ HQb.out]; rfl
  have HC1 : Hid (Calls Try.prog 19 #[.agg #[.int .i64 gw, .int .i64 gh, .slice ba n c]] W0 fun e w' => e = .returned (.bool og) ∧ Hid (Below W0.heap.size W0 w')) := IsGrid_at gw gh ba n c bs W0 hn hl (HP.out.below HB0.out) og HOg.out
  clear hn hsn hen hP hS hE hX
  go_enter Try.func7, Try.ntmps7
  go_upto_region 1 with fail
  rw [← HQ.out, ← HW0.out]
  go_upto_if 11 with (go_at_call 19; with_reducible (refine HC1.out.mono ?_); rintro e W1 ⟨rfl, HB1⟩)
  clear HC1 q0 q1 q2
  have HB1w : Hid (Below w.heap.size w W1) := HB0.out.trans (HB1.out.mono HB0.out.size)
  have HQ1 : Hid (W1.heap[Q]? = some (.cells #[.int .i64 gw, .int .i64 gh, .slice ba n c] 24 (0, 0))) := by show _ = _; rw [HB1.out.block Q (lt_of_some HQb.out)]; exact HQb.out
  cases og with
  | false =>
    obtain rfl : X = 1 := by rw [HX.out, if_pos rfl]
    go_wp2_with fail
    go_ret
    exact ⟨rfl, HB1w⟩
  | true =>
    have HX2 : Hid (X = if bS = false then 1 else if bE = false then 1 else if sn ≠ en then 3 else if 4 < sn then 2 else 0) := by show _ = _; rw [HX.out, if_neg (by simp)]
    clear HX
    go_wp2_with fail
    go_loopw [7] (fun iv wr => ∃ i : Nat, i ≤ sn ∧ iv = .int .i64 (i : Int) ∧ Hid ((S.drop i).all (inG gw gh) = bS) ∧ Hid (Below w.heap.size w wr) ∧ Hid (wr.heap[Q]? = some (.cells #[.int .i64 gw, .int .i64 gh, .slice ba n c] 24 (0, 0)))) (fun iv _ => sn - (intOf iv).toNat)
    case atStart => exact ⟨0, Nat.zero_le _, rfl, HbS, HB1w, HQ1⟩
    case round =>
      obtain ⟨i, hi, rfl, HR, HBr, HQr⟩ := hrel
      by_cases hlt : i < sn
      · have hlt' : (i : Int) < (sn : Int) := by omega
        have hiz : i < S.length := by rw [← HN.out.2.1]; exact hlt
        obtain ⟨b, off, ha, hb, k0, k1⟩ := (HS.out.below HBr.out) i hiz
        subst ha
        obtain ⟨x, y, HXY⟩ : ∃ x y, Hid (S.getD i (0, 0) = (x, y)) := ⟨_, _, rfl⟩
        rw [HXY.out] at k0 k1
        have k0' : wr.drew.cell? ⟨b, off + i * 2, none⟩ = some (.int .i64 x) := k0
        have k1' : wr.drew.cell? ⟨b, off + i * 2 + 1, none⟩ = some (.int .i64 y) := k1
        have HR2 : Hid ((inG gw gh (x, y) && (S.drop (i + 1)).all (inG gw gh)) = bS) := by
          show _ = _
          have e : S.drop i = S.getD i (0, 0) :: S.drop (i + 1) := by
            rw [List.drop_eq_getElem_cons hiz]; simp [List.getD, List.getElem?_eq_getElem hiz]
          rw [← HR.out, e, HXY.out]; rfl
        have p0 : wr.drew.cell? ⟨Q, 0, none⟩ = some (.int .i64 gw) := by rw [cell_of_row wr.drew Q 0 _ _ _ HQr.out]; rfl
        have p1 : wr.drew.cell? ⟨Q, 1, none⟩ = some (.int .i64 gh) := by rw [cell_of_row wr.drew Q 1 _ _ _ HQr.out]; rfl
        have p2 : wr.drew.cell? ⟨Q, 2, none⟩ = some (.slice ba n c) := by rw [cell_of_row wr.drew Q 2 _ _ _ HQr.out]; rfl
        obtain ⟨b1, HB1'⟩ : ∃ b1, Hid (inG gw gh (x, y) = b1) := ⟨_, rfl⟩
        have HC : Hid (Calls Try.prog 12 #[.agg #[.int .i64 gw, .int .i64 gh, .slice ba n c], .agg #[.int .i64 x, .int .i64 y]] wr.drew fun e w' => e = .returned (.bool b1) ∧ Hid (Below wr.drew.heap.size wr.drew w')) := In_at gw gh _ x y wr.drew b1 HB1'.out
        clear k0 k1
        go_upto_region 6 with fail
        go_cut [24] (fun s24 wx => s24 = .bool (!b1) ∧ Hid (Below wr.heap.size wr wx))
        case first =>
          first
            | go_region_with (go_at_call 12; with_reducible (refine HC.out.mono ?_); rintro e W2 ⟨rfl, HBw⟩)
            | fail
          all_goals (
            go_wp2_with fail
            go_meet
            exact ⟨rfl, (below_drewN (Below.refl _ _) 1).trans HBw.out⟩)
        obtain ⟨rfl, HBc⟩ := hcut
        clear HC k0' k1' p0 p1 p2
        have HBcw : Hid (Below w.heap.size w wc) := HBr.out.trans (HBc.out.mono HBr.out.size)
        have HQc : Hid (wc.heap[Q]? = some (.cells #[.int .i64 gw, .int .i64 gh, .slice ba n c] 24 (0, 0))) := by show _ = _; rw [HBc.out.block Q (lt_of_some HQr.out)]; exact HQr.out
        cases b1 with
        | false =>
          obtain rfl : bS = false := by rw [← HR2.out, HB1'.out]; rfl
          obtain rfl : X = 1 := by rw [HX2.out, if_pos rfl]
          go_wp2_with fail
          go_ret
          exact ⟨rfl, HBcw⟩
        | true =>
          have HR3 : Hid ((S.drop (i + 1)).all (inG gw gh) = bS) := by show _ = _; rw [← HR2.out, HB1'.out]; rfl
          go_wp2_with fail
          go_roundw
          case rel => exact ⟨i + 1, by omega, by go_num, HR3, HBcw, HQc⟩
          case measure => simp [intOf]; omega
      · obtain rfl : i = sn := by omega
        have hlt' : ¬ ((i : Int) < (i : Int)) := by omega
        obtain rfl : bS = true := by rw [← HR.out, List.drop_of_length_le (by rw [HN.out.2.1]; exact Nat.le_refl _)]; rfl
        have HX3 : Hid (X = if bE = false then 1 else if i ≠ en then 3 else if 4 < i then 2 else 0) := by show _ = _; rw [HX2.out, if_neg (by simp)]
        clear HX2
        go_wp2_with fail
        go_loopw [8] (fun iv wr => ∃ j : Nat, j ≤ en ∧ iv = .int .i64 (j : Int) ∧ Hid ((E.drop j).all (inG gw gh) = bE) ∧ Hid (Below w.heap.size w wr) ∧ Hid (wr.heap[Q]? = some (.cells #[.int .i64 gw, .int .i64 gh, .slice ba n c] 24 (0, 0)))) (fun iv _ => en - (intOf iv).toNat)
        case atStart => exact ⟨0, Nat.zero_le _, rfl, HbE, HBr, HQr⟩
        case round =>
          clear HR HBr HQr
          obtain ⟨j, hj, rfl, HR, HBr, HQr⟩ := hrel
          by_cases hlj : j < en
          · have hlj' : (j : Int) < (en : Int) := by omega
            have hiz : j < E.length := by rw [← HN.out.2.2]; exact hlj
            obtain ⟨b, off, ha, hb, k0, k1⟩ := (HE.out.below HBr.out) j hiz
            subst ha
            obtain ⟨x, y, HXY⟩ : ∃ x y, Hid (E.getD j (0, 0) = (x, y)) := ⟨_, _, rfl⟩
            rw [HXY.out] at k0 k1
            have k0' : wr.drew.cell? ⟨b, off + j * 2, none⟩ = some (.int .i64 x) := k0
            have k1' : wr.drew.cell? ⟨b, off + j * 2 + 1, none⟩ = some (.int .i64 y) := k1
            have HR2 : Hid ((inG gw gh (x, y) && (E.drop (j + 1)).all (inG gw gh)) = bE) := by
              show _ = _
              have e : E.drop j = E.getD j (0, 0) :: E.drop (j + 1) := by
                rw [List.drop_eq_getElem_cons hiz]; simp [List.getD, List.getElem?_eq_getElem hiz]
              rw [← HR.out, e, HXY.out]; rfl
            have p0 : wr.drew.cell? ⟨Q, 0, none⟩ = some (.int .i64 gw) := by rw [cell_of_row wr.drew Q 0 _ _ _ HQr.out]; rfl
            have p1 : wr.drew.cell? ⟨Q, 1, none⟩ = some (.int .i64 gh) := by rw [cell_of_row wr.drew Q 1 _ _ _ HQr.out]; rfl
            have p2 : wr.drew.cell? ⟨Q, 2, none⟩ = some (.slice ba n c) := by rw [cell_of_row wr.drew Q 2 _ _ _ HQr.out]; rfl
            obtain ⟨b1, HB1'⟩ : ∃ b1, Hid (inG gw gh (x, y) = b1) := ⟨_, rfl⟩
            have HC : Hid (Calls Try.prog 12 #[.agg #[.int .i64 gw, .int .i64 gh, .slice ba n c], .agg #[.int .i64 x, .int .i64 y]] wr.drew fun e w' => e = .returned (.bool b1) ∧ Hid (Below wr.drew.heap.size wr.drew w')) := In_at gw gh _ x y wr.drew b1 HB1'.out
            clear k0 k1
            go_upto_region 11 with fail
            go_cut [37] (fun s37 wx => s37 = .bool (!b1) ∧ Hid (Below wr.heap.size wr wx))
            case first =>
              first
                | go_region_with (go_at_call 12; with_reducible (refine HC.out.mono ?_); rintro e W2 ⟨rfl, HBw⟩)
                | fail
              all_goals (
                go_wp2_with fail
                go_meet
                exact ⟨rfl, (below_drewN (Below.refl _ _) 1).trans HBw.out⟩)
            obtain ⟨rfl, HBc⟩ := hcut
            clear HC k0' k1' p0 p1 p2
            have HBcw : Hid (Below w.heap.size w wc) := HBr.out.trans (HBc.out.mono HBr.out.size)
            have HQc : Hid (wc.heap[Q]? = some (.cells #[.int .i64 gw, .int .i64 gh, .slice ba n c] 24 (0, 0))) := by show _ = _; rw [HBc.out.block Q (lt_of_some HQr.out)]; exact HQr.out
            cases b1 with
            | false =>
              obtain rfl : bE = false := by rw [← HR2.out, HB1'.out]; rfl
              obtain rfl : X = 1 := by rw [HX3.out, if_pos rfl]
              go_wp2_with fail
              go_ret
              exact ⟨rfl, HBcw⟩
            | true =>
              have HR3 : Hid ((E.drop (j + 1)).all (inG gw gh) = bE) := by show _ = _; rw [← HR2.out, HB1'.out]; rfl
              go_wp2_with fail
              go_roundw
              case rel => exact ⟨j + 1, by omega, by go_num, HR3, HBcw, HQc⟩
              case measure => simp [intOf]; omega
          · obtain rfl : j = en := by omega
            have hlj' : ¬ ((j : Int) < (j : Int)) := by omega
            obtain rfl : bE = true := by rw [← HR.out, List.drop_of_length_le (by rw [HN.out.2.2]; exact Nat.le_refl _)]; rfl
            by_cases hne : i = j
            · by_cases h4 : 4 < i
              · obtain rfl : X = 2 := by rw [HX3.out, if_neg (by simp), if_neg (by simpa using hne), if_pos h4]
                have h4' : (i : Int) > 4 := by omega
                subst hne
                go_wp2_with fail
                go_ret
                exact ⟨rfl, HBr⟩
              · obtain rfl : X = 0 := by rw [HX3.out, if_neg (by simp), if_neg (by simpa using hne), if_neg h4]
                have h4' : ¬ (i : Int) > 4 := by omega
                subst hne
                go_wp2_with fail
                go_ret
                exact ⟨rfl, HBr⟩
            · obtain rfl : X = 3 := by rw [HX3.out, if_neg (by simp), if_pos hne]
              have hne' : ((i : Int) == (j : Int)) = false := by simp; omega
              go_wp2_with fail
              go_ret
              exact ⟨rfl, HBr⟩

end Go.Proofs.Ythdojdkghhmfcaa
