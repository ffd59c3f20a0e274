/-
  paths.checked: a grid, starts and ends together.
-/
import Derived.Test.YtapchcamjeafmaaDoorQBaq
namespace Go.Proofs.YtapchcamjeafmaaDoor
open Go.RowKit

/-- The marks of a grid, if it is one. -/
def brO (gw gh : Int) (bs : List (Int × Int)) : Option (Nat → Bool) := if badD gw gh = true then none else brF gw gh (fun _ => false) bs
theorem barred_any (gw gh : Int) (ba : Option Addr) (n c : Nat) (bs : List (Int × Int)) (w : World) (hn : n = bs.length) (hl : n ≤ 17592186044416) (hP : PtI w ba bs) (o : Option (Nat → Bool)) (ho : o = brO gw gh bs) :
    Calls Tryd.prog 9 #[gridV gw gh (.slice ba n c)] w fun e w' => e = .returned (.tuple #[.agg (mkC (brC o)), .int .i64 (brE o)]) ∧ Hid (Below w.heap.size w w') := by
  subst ho
  unfold brO
  cases hb : badD gw gh with
  | true => rw [if_pos rfl]; exact barred_dim gw gh _ w hb
  | false => rw [if_neg (by simp)]; exact barred_at gw gh ba n c bs w hb hn hl hP
/-- What is wrong with a grid, starts and ends. -/
def chkE (gw gh : Int) (o : Option (Nat → Bool)) (S E : List (Int × Int)) : Int :=
  if o.isNone = true then 1 else if S.all (inG gw gh) = false then 1 else if E.all (inG gw gh) = false then 1 else if S.length ≠ E.length then 3 else if 4 < S.length then 2 else 0
def chkM (gw gh : Int) (o : Option (Nat → Bool)) (S E : List (Int × Int)) : Nat → Bool := if chkE gw gh o S E = 0 then brC o else fun _ => false
theorem zeroM : (Tryd.prog.info? 42).map (fun i => (i.zero, i.size)) = some (some (.agg (mkC fun _ => false)), 64) := by kernel_rfl
/-- 64 cells, one value each. -/
def C64 (cs : Array Value) : Prop := cs.size = 64 ∧ cs.all (·.oneCell') = true
theorem mkC_64 (cl : Nat → Bool) : C64 (mkC cl) := ⟨mkC_size cl, mkC_one cl⟩
theorem wpList_store64 {ops : Array Oper} {rest : List Oper} {o : Oper} {a : Act} {w : World} {Q : Exit → Act → World → Prop} (hgd : o.guard = none) (x y : Operand) (ho : o.op = .store 42 x y)
    (g : Nat) (cs old : Array Value) (hx : a.eval x = .pointer (some ⟨g, 0, none⟩)) (hy : a.eval y = .agg cs) (hg : w.heap[g]? = some (.cells old 42 (0, 0))) (h1 : C64 cs) (h2 : C64 old)
    (h : wpList Tryd.prog ops Q rest (a.put o.dst undef) (w.setRow g cs)) : wpList Tryd.prog ops Q (o :: rest) a w :=
  wpList_store_row hgd 42 x y ho g cs hx hy 42 old hg (by rw [infoM, h1.1]) (by rw [h1.1, h2.1]) h1.2 h
theorem wpList_load64 {ops : Array Oper} {rest : List Oper} {o : Oper} {a : Act} {w : World} {Q : Exit → Act → World → Prop} (hgd : o.guard = none) (x : Operand) (ho : o.op = .load 42 x)
    (g : Nat) (cs : Array Value) (hx : a.eval x = .pointer (some ⟨g, 0, none⟩)) (hg : w.heap[g]? = some (.cells cs 42 (0, 0))) (h1 : C64 cs)
    (h : wpList Tryd.prog ops Q rest (a.put o.dst (.agg cs)) w) : wpList Tryd.prog ops Q (o :: rest) a w :=
  wpList_load_row hgd 42 x ho g hx 42 cs (0, 0) _ hg Tryd.underlying42 rfl (by rw [infoM, h1.1]) h
theorem wpList_build64 {ops : Array Oper} {rest : List Oper} {o : Oper} {a : Act} {w : World} {Q : Exit → Act → World → Prop} (hg : o.guard = none) (ho : o.op = .build 42 #[]) (Z : Array Value) (hZ : Z = mkC fun _ => false)
    (h : wpList Tryd.prog ops Q rest (a.put o.dst (.agg Z)) w) : wpList Tryd.prog ops Q (o :: rest) a w := by
  subst hZ
  exact wpList_buildm hg ho h
theorem load_64 (w : World) (g : Nat) (cs : Array Value) (h1 : C64 cs) (h : w.heap[g]? = some (.cells cs 42 (0, 0))) : (loadVar 42 ⟨g, 0, none⟩).run Tryd.prog w = .ok (.agg cs) w :=
  run_loadVar_row w g 42 42 _ (0, 0) _ h Tryd.underlying42 rfl (by rw [infoM, h1.1])

set_option maxHeartbeats 4000000 in
set_option maxRecDepth 100000 in
theorem checked_at (gw gh : Int) (ba sa ea : Option Addr) (n c sn sc en ec : Nat) (bs S E : List (Int × Int)) (w : World) (hn : n = bs.length) (hl : n ≤ 17592186044416) (hsn : sn = S.length) (hsl : sn ≤ 17592186044416) (hen : en = E.length) (hel : en ≤ 17592186044416) (hP : PtI w ba bs) (hS : PtI w sa S) (hE : PtI w ea E) (o : Option (Nat → Bool)) (ho : o = brO gw gh bs) (X : Int) (M : Array Value) (hX : X = chkE gw gh o S E) (hM : M = mkC (chkM gw gh o S E)) :
    Calls Tryd.prog 12 #[gridV gw gh (.slice ba n c), .slice sa sn sc, .slice ea en ec] w fun e w' => e = .returned (.tuple #[.agg M, .int .i64 X]) ∧ Hid (Below w.heap.size w w') := by
  have HN := hid_w (And.intro hn (And.intro hsn hen))
  have HP : Hid (PtI w ba bs) := hP
  have HS : Hid (PtI w sa S) := hS
  have HE : Hid (PtI w ea E) := hE
  have HX : Hid (X = chkE gw gh o S E) := hX
  have HM : Hid (M = mkC (chkM gw gh o S E)) := hM
  obtain ⟨Z, HZ⟩ : ∃ Z, Hid (Z = mkC fun _ => false) := ⟨_, rfl⟩
  have hz : ∀ W : World, (zeroValue 42).run Tryd.prog W = .ok (.agg Z) W := fun W => by rw [HZ.out]; exact (zero_of_info zeroM).1 W
  have HZ6 : Hid (C64 Z) := by rw [HZ.out]; exact mkC_64 _
  obtain ⟨Y, HY⟩ : ∃ Y, Hid (Y = mkC (brC o)) := ⟨_, rfl⟩
  have HY6 : Hid (C64 Y) := by rw [HY.out]; exact mkC_64 _
  obtain ⟨be, HBe⟩ : ∃ be, Hid (be = brE o) := ⟨_, rfl⟩
  obtain ⟨gv, HGv⟩ : ∃ gv, Hid (gv = Value.agg #[.int .i64 gw, .int .i64 gh, .slice ba n c]) := ⟨_, rfl⟩
  unfold gridV
  obtain ⟨Q, HQ⟩ : ∃ Q, Hid (Q = w.heap.size) := ⟨_, rfl⟩
  obtain ⟨W0, HW0⟩ : ∃ W0, Hid (W0 = (w.alloc (.cells #[.int .i64 gw, .int .i64 gh, .slice ba n c] 24)).alloc (.cells Z 42)) := ⟨_, rfl⟩
  have HB0 : Hid (Below w.heap.size w W0) := by rw [HW0.out]; exact ((Below.refl _ _).alloc (Nat.le_refl _) _).alloc (by simp) _
  have hs1 : (w.alloc (.cells #[.int .i64 gw, .int .i64 gh, .slice ba n c] 24)).heap.size = w.heap.size + 1 := by simp
  have HSz : Hid (W0.heap.size = Q + 2) := by show _ = _; rw [HW0.out, HQ.out]; simp
  have HQb : Hid (W0.heap[Q]? = some (.cells #[.int .i64 gw, .int .i64 gh, .slice ba n c] 24 (0, 0))) := by
    show _ = _
    rw [HW0.out, HQ.out]
    show ((w.heap.push _).push _)[w.heap.size]? = _
    rw [Array.getElem?_push, if_neg (by simp), Array.getElem?_push_size]
  have HRb : Hid (W0.heap[Q + 1]? = some (.cells Z 42 (0, 0))) := by
    show _ = _
    rw [HW0.out, HQ.out, ← hs1]; exact heap_alloc_last _ _
  have q0 : W0.cell? ⟨Q, 0, none⟩ = some (.int .i64 gw) := by rw [cell_of_row W0 Q 0 _ _ _ HQb.out]; rfl
  have q1 : W0.cell? ⟨Q, 1, none⟩ = some (.int .i64 gh) := by rw [cell_of_row W0 Q 1 _ _ _ HQb.out]; rfl
  have q2 : W0.cell? ⟨Q, 2, none⟩ = some (.slice ba n c) := by rw [cell_of_row W0 Q 2 _ _ _ HQb.out]; rfl
  have HC1 : Hid (Calls Tryd.prog 9 #[.agg #[.int .i64 gw, .int .i64 gh, .slice ba n c]] W0 fun e w' => e = .returned (.tuple #[.agg Y, .int .i64 be]) ∧ Hid (Below W0.heap.size W0 w')) := by
    rw [HY.out, HBe.out]; exact barred_any gw gh ba n c bs W0 hn hl (HP.out.below HB0.out) o ho
  clear hP hS hE hn hsn hen hX hM hs1 ho
  go_enter Tryd.func12, Tryd.ntmps12
  go_upto_region 1 with fail
  rw [← HQ.out, ← HW0.out]
  go_upto_region 2 with (first | (go_at_call 9; with_reducible (refine HC1.out.mono ?_); rintro e W1 ⟨rfl, HB1⟩) | (refine wpList_store64 rfl (.tmp 8) (.tmp 13) rfl _ Y Z rfl rfl (heap_alloc_last _ _) HY6.out HZ6.out ?_))
  obtain ⟨P, HPq⟩ : ∃ P, Hid (P = W1.heap.size) := ⟨_, rfl⟩
  obtain ⟨W2, HW2⟩ : ∃ W2, Hid (W2 = (W1.alloc (.cells Z 42)).setRow W1.heap.size Y) := ⟨_, rfl⟩
  rw [← HW2.out, ← HPq.out]
  have hB2 : Below W0.heap.size W0 W2 := by
    rw [HW2.out]; exact below_setRow (HB1.out.alloc HB1.out.size _) _ HB1.out.size _
  have HB2 : Hid (Below w.heap.size w W2) := HB0.out.trans (hB2.mono HB0.out.size)
  have HP2 : Hid (W2.heap[P]? = some (.cells Y 42 (0, 0))) := by
    show _ = _
    rw [HW2.out, HPq.out]; exact setRow_heap _ _ _ _ _ _ (heap_alloc_last _ _)
  have HQ2 : Hid (W2.heap[Q]? = some (.cells #[.int .i64 gw, .int .i64 gh, .slice ba n c] 24 (0, 0))) := by show _ = _; rw [hB2.block Q (lt_of_some HQb.out)]; exact HQb.out
  have HR2 : Hid (W2.heap[Q + 1]? = some (.cells Z 42 (0, 0))) := by show _ = _; rw [hB2.block (Q + 1) (lt_of_some HRb.out)]; exact HRb.out
  clear q0 q1 q2 hB2 HC1
  have HFin : Hid (∀ (W : World) (cs : Array Value), Below W2.heap.size W2 W → C64 cs → (loadVar 42 ⟨Q + 1, 0, none⟩).run Tryd.prog (W.setRow (Q + 1) cs) = .ok (.agg cs) (W.setRow (Q + 1) cs) ∧ Below w.heap.size w (W.setRow (Q + 1) cs) ∧ W.heap[Q + 1]? = some (.cells Z 42 (0, 0)) ∧ W.heap[P]? = some (.cells Y 42 (0, 0))) := fun W cs hB h64 => by
    have h1 : W.heap[Q + 1]? = some (.cells Z 42 (0, 0)) := by rw [hB.block (Q + 1) (lt_of_some HR2.out)]; exact HR2.out
    exact ⟨load_64 _ _ _ h64 (setRow_heap _ _ _ _ _ _ h1), below_setRow (HB2.out.trans (hB.mono HB2.out.size)) (Q + 1) (by rw [HQ.out]; omega) _, h1, by rw [hB.block P (lt_of_some HP2.out)]; exact HP2.out⟩
  have h22 := HFin.out W2 Z (Below.refl _ _) HZ6.out
  have HL2 := hid_w h22.1
  have HB5 := hid_w h22.2.1
  clear h22
  cases o with
  | none =>
    obtain rfl : be = 1 := HBe.out
    obtain rfl : X = 1 := HX.out
    obtain rfl : M = Z := by rw [HM.out, HZ.out]; rfl
    go_wp2_with (first | (refine wpList_build64 rfl rfl M HZ.out ?_) | (refine wpList_store64 rfl (.tmp 6) (.tmp 18) rfl (Q + 1) M M rfl rfl HR2.out HZ6.out HZ6.out ?_))
    refine bodyPost_ret (v := .tuple #[.agg M, .int .i64 1]) ?_ rfl ⟨rfl, HB5⟩
    rw [results_cell_tmp rfl]
    simp [asAddr, Result.andThen, HL2.out]
  | some cl =>
    obtain rfl : be = 0 := HBe.out
    have q0 : W2.cell? ⟨Q, 0, none⟩ = some (.int .i64 gw) := by rw [cell_of_row W2 Q 0 _ _ _ HQ2.out]; rfl
    have q1 : W2.cell? ⟨Q, 1, none⟩ = some (.int .i64 gh) := by rw [cell_of_row W2 Q 1 _ _ _ HQ2.out]; rfl
    have q2 : W2.cell? ⟨Q, 2, none⟩ = some (.slice ba n c) := by rw [cell_of_row W2 Q 2 _ _ _ HQ2.out]; rfl
    obtain ⟨bS, HbS⟩ : ∃ bS, Hid (S.all (inG gw gh) = bS) := ⟨_, rfl⟩
    obtain ⟨bE, HbE⟩ : ∃ bE, Hid (E.all (inG gw gh) = bE) := ⟨_, rfl⟩
    have HCs : Hid (Calls Tryd.prog 10 #[.agg #[.int .i64 gw, .int .i64 gh, .slice ba n c], .slice sa sn sc] W2 fun e w' => e = .returned (.bool bS) ∧ w'.cell? ⟨Q, 0, none⟩ = some (.int .i64 gw) ∧ w'.cell? ⟨Q, 1, none⟩ = some (.int .i64 gh) ∧ w'.cell? ⟨Q, 2, none⟩ = some (.slice ba n c) ∧ Hid (Below W2.heap.size W2 w')) := by
      refine (within_at gw gh _ sa sn sc S W2 HN.out.2.1 hsl (HS.out.below HB2.out) bS HbS.out).mono ?_
      rintro e w' ⟨rfl, hb⟩
      exact ⟨rfl, (hb.out.cell (p := ⟨Q, 0, none⟩) (lt_of_some HQ2.out)).trans q0, (hb.out.cell (p := ⟨Q, 1, none⟩) (lt_of_some HQ2.out)).trans q1, (hb.out.cell (p := ⟨Q, 2, none⟩) (lt_of_some HQ2.out)).trans q2, hb⟩
    have HCe : Hid (∀ W, Hid (Below W2.heap.size W2 W) → Calls Tryd.prog 10 #[.agg #[.int .i64 gw, .int .i64 gh, .slice ba n c], .slice ea en ec] W fun e w' => e = .returned (.bool bE) ∧ Hid (Below W2.heap.size W2 w')) := fun W hW => by
      refine (within_at gw gh _ ea en ec E W HN.out.2.2 hel (HE.out.below (HB2.out.trans (hW.out.mono HB2.out.size))) bE HbE.out).mono ?_
      rintro e w' ⟨rfl, hb⟩
      exact ⟨rfl, hW.out.trans (hb.out.mono hW.out.size)⟩
    go_upto_region 4 with fail
    go_cut [20] (fun s20 wx => s20 = .bool (!(bS && bE)) ∧ Hid (Below W2.heap.size W2 wx))
    case first =>
      cases bS with
      | false =>
        go_wp2_with (first | (go_at_call 10; with_reducible (refine HCs.out.mono ?_); rintro e W3 ⟨rfl, k0, k1, k2, HB3⟩))
        go_meet
        exact ⟨rfl, HB3⟩
      | true =>
        go_wp2_with (first | (go_at_call 10; with_reducible (refine HCs.out.mono ?_); rintro e W3 ⟨rfl, k0, k1, k2, HB3⟩) | (go_at_call 10; with_reducible (refine (HCe.out _ HB3).mono ?_); rintro e W4 ⟨rfl, HB4⟩))
        go_meet
        exact ⟨by simp, HB4⟩
    obtain ⟨rfl, HB3⟩ := hcut
    clear q0 q1 q2 HCs HCe
    have h23 := HFin.out wc Z HB3.out HZ6.out
    have HL3 := hid_w h23.1
    have HB6 := hid_w h23.2.1
    have HR3 := hid_w h23.2.2.1
    have HP3 := hid_w h23.2.2.2
    have HL4 := hid_w (HFin.out wc Y HB3.out HY6.out).1
    have HB7 := hid_w (HFin.out wc Y HB3.out HY6.out).2.1
    clear h23
    cases hbb : (bS && bE) with
    | false =>
      have hX1 : X = 1 := by
        rw [HX.out]; unfold chkE
        rw [HbS.out, HbE.out]
        rw [if_neg (by simp)]
        cases bS with
        | false => rw [if_pos rfl]
        | true =>
          cases bE with
          | false => rw [if_neg (by simp), if_pos rfl]
          | true => simp at hbb
      have hM1 : M = Z := by rw [HM.out, HZ.out]; unfold chkM; rw [← HX.out, if_neg (by omega)]
      subst hX1 hM1
      clear hbb
      go_wp2_with (first | (refine wpList_build64 rfl rfl M HZ.out ?_) | (refine wpList_store64 rfl (.tmp 6) (.tmp 31) rfl (Q + 1) M M rfl rfl HR3.out HZ6.out HZ6.out ?_))
      refine bodyPost_ret (v := .tuple #[.agg M, .int .i64 1]) ?_ rfl ⟨rfl, HB6⟩
      rw [results_cell_tmp rfl]
      simp [asAddr, Result.andThen, HL3.out]
    | true =>
      have HXX : Hid (X = if S.length ≠ E.length then 3 else if 4 < S.length then 2 else 0) := by
        show _ = _
        rw [Bool.and_eq_true] at hbb
        rw [HX.out]; unfold chkE
        rw [HbS.out, HbE.out, if_neg (by simp), if_neg (by rw [hbb.1]; simp), if_neg (by rw [hbb.2]; simp)]
      clear hbb
      by_cases hne : sn = en
      · by_cases h4 : 4 < sn
        · have hX1 : X = 2 := by rw [HXX.out, if_neg (by rw [← HN.out.2.1, ← HN.out.2.2]; simpa using hne), if_pos (by rw [← HN.out.2.1]; exact h4)]
          have hM1 : M = Z := by rw [HM.out, HZ.out]; unfold chkM; rw [← HX.out, if_neg (by omega)]
          have h4' : (sn : Int) > 4 := by omega
          subst hX1 hM1 hne
          go_wp2_with (first | (refine wpList_build64 rfl rfl M HZ.out ?_) | (refine wpList_store64 rfl (.tmp 6) (.tmp 43) rfl (Q + 1) M M rfl rfl HR3.out HZ6.out HZ6.out ?_))
          refine bodyPost_ret (v := .tuple #[.agg M, .int .i64 2]) ?_ rfl ⟨rfl, HB6⟩
          rw [results_cell_tmp rfl]
          simp [asAddr, Result.andThen, HL3.out]
        · have hX1 : X = 0 := by rw [HXX.out, if_neg (by rw [← HN.out.2.1, ← HN.out.2.2]; simpa using hne), if_neg (by rw [← HN.out.2.1]; exact h4)]
          have hM1 : M = Y := by rw [HM.out, HY.out]; unfold chkM; rw [← HX.out, if_pos hX1]
          have h4' : ¬ (sn : Int) > 4 := by omega
          subst hX1 hM1 hne
          go_wp2_with (first | (refine wpList_load64 rfl (.tmp 8) rfl P M rfl HP3.out HY6.out ?_) | (refine wpList_store64 rfl (.tmp 6) (.tmp 44) rfl (Q + 1) M Z rfl rfl HR3.out HY6.out HZ6.out ?_))
          refine bodyPost_ret (v := .tuple #[.agg M, .int .i64 0]) ?_ rfl ⟨rfl, HB7⟩
          rw [results_cell_tmp rfl]
          simp [asAddr, Result.andThen, HL4.out]
      · have hX1 : X = 3 := by rw [HXX.out, if_pos (by rw [← HN.out.2.1, ← HN.out.2.2]; exact hne)]
        have hM1 : M = Z := by rw [HM.out, HZ.out]; unfold chkM; rw [← HX.out, if_neg (by omega)]
        have hne' : ((sn : Int) == (en : Int)) = false := by simp; omega
        subst hX1 hM1
        go_wp2_with (first | (refine wpList_build64 rfl rfl M HZ.out ?_) | (refine wpList_store64 rfl (.tmp 6) (.tmp 38) rfl (Q + 1) M M rfl rfl HR3.out HZ6.out HZ6.out ?_))
        refine bodyPost_ret (v := .tuple #[.agg M, .int .i64 3]) ?_ rfl ⟨rfl, HB6⟩
        rw [results_cell_tmp rfl]
        simp [asAddr, Result.andThen, HL3.out]

end Go.Proofs.YtapchcamjeafmaaDoor
