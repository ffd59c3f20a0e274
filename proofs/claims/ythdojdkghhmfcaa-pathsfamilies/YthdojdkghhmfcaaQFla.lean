/-
  The law PathsFamilies: its own walk.
-/
import Derived.Test.YthdojdkghhmfcaaQFlw
import Derived.Deep.CutBlock
namespace Go.Proofs.Ythdojdkghhmfcaa
open Go.RowKit

theorem idW_take (n : Nat) (h : n ≤ 4) : (idW 4).take n = idW n := by
  rcases n with _ | _ | _ | _ | _ | n
  · rfl
  · rfl
  · rfl
  · rfl
  · rfl
  · omega
theorem idW_get (n : Nat) (h : n < 4) : (idW 4).getD n 0 = (n : Int) := by
  rcases n with _ | _ | _ | _ | n
  · rfl
  · rfl
  · rfl
  · rfl
  · omega

set_option maxHeartbeats 16000000 in
set_option maxRecDepth 100000 in
theorem pfam_at (gw gh : Int) (ba sa ea za : Option Addr) (n c sn sc en ec zn zc : Nat) (bs S E : List (Int × Int)) (zs : List Int) (w : World) (hn : n = bs.length) (hl : n ≤ 8796093021952) (hnn : ba = none → n = 0 ∧ c = 0) (hsn : sn = S.length) (hsl : sn ≤ 17592186044416) (hsc : sn ≤ sc) (hen : en = E.length) (hel : en ≤ 17592186044416) (hec : en ≤ ec) (hzn : zn = zs.length) (hzl : zn ≤ 17592186044416) (hP : PtI w ba bs) (hS : PtI w sa S) (hE : PtI w ea E) (hZ : Shows w za zs) :
    Calls Try.prog 3 #[.agg #[.int .i64 gw, .int .i64 gh, .slice ba n c], .slice sa sn sc, .slice ea en ec, .slice za zn zc] w fun e w' => e = .returned (.bool true) ∧ Below w.heap.size w w' := by
  have HN := hid_w (And.intro hn (And.intro hsn (And.intro hen hzn)))
  have HNn := hid_w hnn
  have HP : Hid (PtI w ba bs) := hP
  have HS : Hid (PtI w sa S) := hS
  have HE : Hid (PtI w ea E) := hE
  have HZ : Hid (Shows w za zs) := hZ
  obtain ⟨cl, HCl⟩ : ∃ cl, Hid (cl = brC (brO gw gh bs)) := ⟨_, rfl⟩
  obtain ⟨x, HX⟩ : ∃ x, Hid (x = chkE gw gh (brO gw gh bs) S E) := ⟨_, rfl⟩
  obtain ⟨y, HY⟩ : ∃ y, Hid (y = fstE x cl S E) := ⟨_, rfl⟩
  obtain ⟨tx, HTx⟩ : ∃ tx, Hid (tx = fstL x cl S E) := ⟨_, rfl⟩
  obtain ⟨f, HF⟩ : ∃ f, Hid (f = aptE x cl S E zs) := ⟨_, rfl⟩
  obtain ⟨k, HK⟩ : ∃ k, Hid (k = aptN x cl S E zs) := ⟨_, rfl⟩
  obtain ⟨Q, HQ⟩ : ∃ Q, Hid (Q = w.heap.size) := ⟨_, rfl⟩
  obtain ⟨W0, HW0⟩ : ∃ W0, Hid (W0 = w.alloc (.cells #[.int .i64 gw, .int .i64 gh, .slice ba n c] 24)) := ⟨_, rfl⟩
  have HB0 : Hid (Below w.heap.size w W0) := by rw [HW0.out]; exact (Below.refl _ _).alloc (Nat.le_refl _) _
  have HQb : Hid (W0.heap[Q]? = some (.cells #[.int .i64 gw, .int .i64 gh, .slice ba n c] 24 (0, 0))) := by
    show _ = _
    rw [HW0.out, HQ.out]; exact heap_alloc_last _ _
  have HQc : Hid (∀ W, Below W0.heap.size W0 W → W.cell? ⟨Q, 0, none⟩ = some (.int .i64 gw) ∧ W.cell? ⟨Q, 1, none⟩ = some (.int .i64 gh) ∧ W.cell? ⟨Q, 2, none⟩ = some (.slice ba n c)) := fun W hW => by
    have hq : W.heap[Q]? = some (.cells #[.int .i64 gw, .int .i64 gh, .slice ba n c] 24 (0, 0)) := by rw [hW.block Q (lt_of_some HQb.out)]; exact HQb.out
    exact ⟨by rw [cell_of_row W Q 0 _ _ _ hq]; rfl, by rw [cell_of_row W Q 1 _ _ _ hq]; rfl, by rw [cell_of_row W Q 2 _ _ _ hq]; rfl⟩
  obtain ⟨q0, q1, q2⟩ := HQc.out W0 (Below.refl _ _)
  have HC1 : Hid (Calls Try.prog 5 #[.agg #[.int .i64 gw, .int .i64 gh, .slice ba n c], .slice sa sn sc, .slice ea en ec, .slice za zn zc] W0 fun e w' => e = .returned (.tuple #[.int .i64 k, .int .i64 f]) ∧ Hid (Below W0.heap.size W0 w')) :=
    Apart_at gw gh ba sa ea za n c sn sc en ec zn zc bs S E zs W0 hn (by omega) hsn hsl hsc hen hel hzn hzl (hP.below HB0.out) (hS.below HB0.out) (hE.below HB0.out) (hZ.below HB0.out) _ rfl x HX.out k f (by rw [HK.out, HCl.out]) (by rw [HF.out, HCl.out])
  clear hP hS hE hZ hn hsn hen hzn hnn
  go_enter Try.func3, Try.ntmps3
  go_upto_region 1 with fail
  rw [← HQ.out, ← HW0.out]
  go_upto_region 2 with (go_at_call 5; with_reducible (refine HC1.out.mono ?_); rintro e W1 ⟨rfl, HB1⟩)
  clear HC1 q0 q1 q2
  have HB1w : Hid (Below w.heap.size w W1) := HB0.out.trans (HB1.out.mono HB0.out.size)
  obtain ⟨q0, q1, q2⟩ := HQc.out W1 HB1.out
  have HC2 : Hid (Calls Try.prog 6 #[.agg #[.int .i64 gw, .int .i64 gh, .slice ba n c], .slice sa sn sc, .slice ea en ec] W1 fun e w' => ∃ v, e = .returned (.tuple #[v, .int .i64 y]) ∧ Hid (w'.ownsRow 0 9 1 v (tx.map strV).length (tx.map strV)) ∧ Hid (Below W1.heap.size W1 w')) :=
    First_at gw gh ba sa ea n c sn sc en ec bs S E W1 HN.out.1 (by omega) HN.out.2.1 hsl hsc HN.out.2.2.1 hel hec (HP.out.below HB1w.out) (HS.out.below HB1w.out) (HE.out.below HB1w.out) _ rfl x HX.out tx y (by rw [HTx.out, HCl.out]) (by rw [HY.out, HCl.out])
  go_upto_region 3 with (go_at_call 6; with_reducible (refine HC2.out.mono ?_); rintro e W2 ⟨v2, rfl, HO2, HB2⟩)
  clear HC2 q0 q1 q2
  have HB2a : Hid (Below W0.heap.size W0 W2) := HB1.out.trans (HB2.out.mono HB1.out.size)
  have HB2w : Hid (Below w.heap.size w W2) := HB0.out.trans (HB2a.out.mono HB0.out.size)
  obtain ⟨q0, q1, q2⟩ := HQc.out W2 HB2a.out
  have HC3 : Hid (Calls Try.prog 7 #[.agg #[.int .i64 gw, .int .i64 gh, .slice ba n c], .slice sa sn sc, .slice ea en ec] W2 fun e w' => e = .returned (.int .i64 x) ∧ Hid (Below W2.heap.size W2 w')) :=
    Sides_at gw gh ba sa ea n c sn sc en ec bs S E W2 HN.out.1 (by omega) HN.out.2.1 hsl HN.out.2.2.1 hel (HP.out.below HB2w.out) (HS.out.below HB2w.out) (HE.out.below HB2w.out) x HX.out
  go_upto_region 4 with (go_at_call 7; with_reducible (refine HC3.out.mono ?_); rintro e W3 ⟨rfl, HB3⟩)
  clear HC3 q0 q1 q2
  have HB3a : Hid (Below W0.heap.size W0 W3) := HB2a.out.trans (HB3.out.mono HB2a.out.size)
  have HB3w : Hid (Below w.heap.size w W3) := HB0.out.trans (HB3a.out.mono HB0.out.size)
  have HO3 : Hid (W3.ownsRow 0 9 1 v2 (tx.map strV).length (tx.map strV)) := ownsRow_blocks HO2.out (fun q e => HB3.out.block q (World.ownsRow.lt HO2.out q e).2)
  obtain ⟨va, vc, hv2⟩ := OwTx.shape (lo := 0) (l := tx) HO3.out
  obtain ⟨vn, HVn⟩ : ∃ vn, Hid (vn = tx.length) := ⟨_, rfl⟩
  rw [← HVn.out] at hv2
  subst hv2
  by_cases hx0 : x = 0
  · subst hx0
    have HX0 : Hid (0 = chkE gw gh (brO gw gh bs) S E) := HX
    have HCk := hid_w (chk_ok HX0.out)
    obtain rfl : en = sn := by have h1 := HCk.out.2.2.1; have h2 := HN.out; omega
    have HS4 : Hid (en ≤ 4) := by show _ ≤ _; have h1 := HCk.out.2.2.2.1; have h2 := HN.out; omega
    obtain ⟨Yb, HYb⟩ : ∃ Yb, Hid (Yb = W3.heap.size) := ⟨_, rfl⟩
    obtain ⟨W4, HW4⟩ : ∃ W4, Hid (W4 = W3.alloc (.cells #[.int .i64 0, .int .i64 1, .int .i64 2, .int .i64 3] 3)) := ⟨_, rfl⟩
    have hB4 : Below W3.heap.size W3 W4 := by rw [HW4.out]; exact (Below.refl _ _).alloc (Nat.le_refl _) _
    have HB4a : Hid (Below W0.heap.size W0 W4) := HB3a.out.trans (hB4.mono HB3a.out.size)
    have HB4w : Hid (Below w.heap.size w W4) := HB0.out.trans (HB4a.out.mono HB0.out.size)
    have HY4 : Hid (W4.heap[Yb]? = some (.cells #[.int .i64 0, .int .i64 1, .int .i64 2, .int .i64 3] 3 (0, 0))) := by show _ = _; rw [HW4.out, HYb.out]; exact heap_alloc_last _ _
    have HO4 : Hid (W4.ownsRow 0 9 1 (.slice va vn vc) (tx.map strV).length (tx.map strV)) := ownsRow_blocks HO3.out (fun q e => hB4.block q (World.ownsRow.lt HO3.out q e).2)
    have HC4 : Hid (Calls Try.prog 8 #[.agg #[.int .i64 gw, .int .i64 gh, .slice ba n c], .slice sa en sc, .slice ea en ec, .slice (some ⟨Yb, 0, none⟩) 4 4, .int .i64 1000000] W4 fun e w' => ∃ (k1 : Int) (fv1 : Value) (fd1 st1 : Int), e = .returned (.tuple #[.int .i64 k1, fv1, .int .i64 fd1, .int .i64 st1]) ∧ Hid (LkA en (runL cl (toN S) (toN E)) k1 fv1 fd1 st1 w') ∧ Hid (Below W4.heap.size W4 w')) := by
      have h4 := HS4.out
      have hc := Looked_any gw gh ba sa ea (some ⟨Yb, 0, none⟩) n c en sc en ec 4 4 bs S E (idW 4) W4 HN.out.1 hl HNn.out HN.out.2.1 hsc HN.out.2.2.1 rfl (by omega) h4 (HP.out.below HB4w.out) (HS.out.below HB4w.out) (HE.out.below HB4w.out) (idW_shows HY4.out 4 (by omega)) HX0.out (fun i hi => by rw [idW_get i (by omega)]; omega)
      rw [idW_take en h4, ← HCl.out] at hc
      have e : wayE (idW en) E = toN E := by rw [HN.out.2.2.1]; exact way_id E
      rw [e] at hc
      exact hc
    obtain ⟨q0, q1, q2⟩ := HQc.out W3 HB3a.out
    clear hB4
    go_upto_region 6 with fail
    go_upto_block 0 with (go_at_call 8; rw [← HYb.out, ← HW4.out]; with_reducible (refine HC4.out.mono ?_); rintro e W5 ⟨k1, fv1, fd1, st1, rfl, HL5, HB5⟩)
    clear HC4 q0 q1 q2
    have HB5a : Hid (Below W0.heap.size W0 W5) := HB4a.out.trans (HB5.out.mono HB4a.out.size)
    have HO5 : Hid (W5.ownsRow 0 9 1 (.slice va vn vc) (tx.map strV).length (tx.map strV)) := ownsRow_blocks HO4.out (fun q e => HB5.out.block q (World.ownsRow.lt HO4.out q e).2)
    have HSl : Hid (S.length = en) := HN.out.2.1.symm
    go_cut [76] (fun _ wx => Hid (Below W0.heap.size W0 wx))
    case first =>
      by_cases hA : 0 < fd1 ∨ en = 0
      · have hAf : y = 0 ∧ OwTx W5 0 fv1 tx ∧ tx.length ≤ 1000 := by
          have h4 := HS4.out
          by_cases h0 : en = 0
          · have hL := HL5.out
            unfold LkA at hL
            rw [if_pos h0] at hL
            have hp := pf_none cl S E (by rw [HSl.out]; exact h0)
            have ht : tx = [] := by rw [HTx.out]; exact hp.2
            refine ⟨by rw [HY.out]; exact hp.1, ?_, by rw [ht]; simp⟩
            rw [ht, hL.2.1]; exact World.ownsRow_nil _ _ _ _
          · have hL := HL5.out
            unfold LkA at hL
            rw [if_neg h0] at hL
            have hp := (pf_first cl S E (by rw [HSl.out]; exact h0) _ rfl).1 (hL.2.2.1.1 (by
              rcases hA with q | q
              · exact q
              · exact absurd q h0))
            have ht : tx = (runL cl (toN S) (toN E)).2.2.2 := by rw [HTx.out]; exact hp.2
            have hy0 : y = 0 := by rw [HY.out]; exact hp.1
            refine ⟨hy0, by rw [ht]; exact hL.2.2.2, ?_⟩
            have hlf := lf_ok (gw := gw) (gh := gh) (bs := bs) (S := S) (E := E) HX0.out (y := y) (by rw [HY.out, HCl.out]) hy0
            have hll := hlf.2.2.2.2.2.2.2.2.2.1
            rw [← HCl.out, ← HTx.out] at hll
            rw [hll, HSl.out]; omega
        obtain ⟨hy0, hOf, hlx⟩ := hAf
        have HSm : Hid (Calls Try.prog 9 #[.slice va vn vc, fv1] W5 fun e w' => e = .returned (.bool true) ∧ Hid (Below W5.heap.size W5 w')) := SameS_own HO5.out hOf hlx
        clear hOf hlx HY
        subst hy0
        by_cases hf0 : fd1 > 0
        · clear hA
          go_wp2_with (go_at_call 9; (refine HSm.out.mono ?_); rintro e W6 ⟨rfl, HB6⟩)
          go_meet
          exact HB5a.out.trans (HB6.out.mono HB5a.out.size)
        · have h0 : en = 0 := by
            rcases hA with q | q
            · exact absurd q hf0
            · exact q
          have h0' : ((en : Int) == 0) = true := by simp [h0]
          clear hA h0
          go_wp2_with (go_at_call 9; (refine HSm.out.mono ?_); rintro e W6 ⟨rfl, HB6⟩)
          go_meet
          exact HB5a.out.trans (HB6.out.mono HB5a.out.size)
      · have hf0 : ¬ fd1 > 0 := fun q => hA (Or.inl q)
        have h0 : en ≠ 0 := fun q => hA (Or.inr q)
        have hL := HL5.out
        unfold LkA at hL
        rw [if_neg h0] at hL
        have h0' : ((en : Int) == 0) = false := by simp; omega
        obtain ⟨-, hp2, hp3⟩ := pf_first cl S E (by rw [HSl.out]; exact h0) _ rfl
        have hnr : ¬ 0 < (runL cl (toN S) (toN E)).2.2.1 := fun q => hf0 (hL.2.2.1.2 q)
        by_cases hs : st1 > 1000000
        · have hp := hp2 hnr (by have := hL.2.1; omega)
          have hy2 : y = 2 := by rw [HY.out]; exact hp.1
          have hv0 : vn = 0 := by rw [HVn.out, HTx.out, hp.2]; rfl
          clear hA hL hp2 hp3 hnr h0 HY hp
          subst hy2 hv0
          go_wp2_with fail
          go_meet
          exact HB5a
        · have hp := hp3 hnr (by have := hL.2.1; omega)
          have hy2 : y = 5 := by rw [HY.out]; exact hp.1
          have hv0 : vn = 0 := by rw [HVn.out, HTx.out, hp.2]; rfl
          clear hA hL hp2 hp3 hnr h0 HY hp
          subst hy2 hv0
          go_wp2_with fail
          go_meet
          exact HB5a
    obtain ⟨W6, hW6⟩ : ∃ W6 : World, W6 = wc := ⟨_, rfl⟩
    subst hW6
    have HB6a : Hid (Below W0.heap.size W0 W6) := hcut
    have HB6w : Hid (Below w.heap.size w W6) := HB0.out.trans (HB6a.out.mono HB0.out.size)
    clear hcut HL5
    obtain ⟨pa1, pa2, pa3, pa4⟩ := pf_apart cl S E zs
    by_cases hz : zn = en
    · obtain rfl : zn = en := hz
      have hzl2 : zs.length = S.length := by rw [HSl.out]; exact HN.out.2.2.2.symm
      obtain ⟨B, HBw⟩ : ∃ B, Hid (wyF zn (fun _ => false) zs = B) := ⟨_, rfl⟩
      have HCo : Hid (Calls Try.prog 10 #[.slice za zn zc] W6 fun e w' => e = .returned (.bool B) ∧ w' = W6) := IsOrder_at za zn zc zs W6 HN.out.2.2.2 HS4.out (HZ.out.below HB6w.out) B HBw.out
      cases B with
      | false =>
        have hp := pa2 hzl2 (by rw [← HN.out.2.2.2]; exact HBw.out)
        have hf1 : f = 1 := by rw [HF.out]; exact hp.1
        have hk1 : k = 0 := by rw [HK.out]; exact hp.2
        clear hp pa1 pa2 pa3 pa4 HF HK hzl2
        subst hf1 hk1
        go_wp2_with (go_at_call 10; with_reducible (refine HCo.out.mono ?_); rintro e W7 ⟨rfl, rfl⟩)
        go_ret
        exact ⟨by simp, HB6w.out⟩
      | true =>
        obtain ⟨ra, HRa⟩ : ∃ ra, Hid (ra = runA cl (toN S) (wayE zs E)) := ⟨_, rfl⟩
        have hwt : wyF zs.length (fun _ => false) zs = true := by rw [← HN.out.2.2.2]; exact HBw.out
        have HCl2 : Hid (Calls Try.prog 8 #[.agg #[.int .i64 gw, .int .i64 gh, .slice ba n c], .slice sa zn sc, .slice ea zn ec, .slice za zn zc, .int .i64 1000000] W6 fun e w' => ∃ (k1 : Int) (fv1 : Value) (fd1 st1 : Int), e = .returned (.tuple #[.int .i64 k1, fv1, .int .i64 fd1, .int .i64 st1]) ∧ Hid (k1 = (ra.2.2 : Int) ∧ st1 = (ra.2.1 : Int)) ∧ Hid (Below W6.heap.size W6 w')) := by
          have hc := Looked_any gw gh ba sa ea za n c zn sc zn ec zn zc bs S E zs W6 HN.out.1 hl HNn.out HN.out.2.1 hsc HN.out.2.2.1 HN.out.2.2.2 HS4.out (Nat.le_refl _) (HP.out.below HB6w.out) (HS.out.below HB6w.out) (HE.out.below HB6w.out) (HZ.out.below HB6w.out) HX0.out (fun i hi => by
            have hm : zs.getD i 0 ∈ zs := by
              have hiz : i < zs.length := by rw [← HN.out.2.2.2]; exact hi
              simp [List.getD, List.getElem?_eq_getElem hiz]
            exact wy_lt zs zn _ HBw.out _ hm)
          refine hc.mono ?_
          rintro e w' ⟨k1, fv1, fd1, st1, rfl, hL, hb⟩
          refine ⟨k1, fv1, fd1, st1, rfl, ?_, hb⟩
          have hL := hL.out
          unfold LkA at hL
          rw [List.take_of_length_le (by rw [HN.out.2.2.2]; exact Nat.le_refl _), ← HCl.out] at hL
          by_cases h0 : zn = 0
          · rw [if_pos h0] at hL
            have er : ra = (true, 0, 1) := by rw [HRa.out]; unfold runA; rw [if_pos (by rw [toN_length, HSl.out]; exact h0)]
            rw [er]
            exact ⟨hL.1, hL.2.2.2⟩
          · rw [if_neg h0] at hL
            have hA := runL_A cl (toN S) (wayE zs E) (by rw [toN_length, HSl.out]; exact h0)
            rw [HRa.out, ← hA.1, ← hA.2]
            exact ⟨hL.1, hL.2.1⟩
        obtain ⟨q0, q1, q2⟩ := HQc.out W6 HB6a.out
        go_upto_region 20 with (first | (go_at_call 10; with_reducible (refine HCo.out.mono ?_); rintro e W7 ⟨rfl, rfl⟩) | (go_at_call 8; (refine HCl2.out.mono ?_); rintro e W8 ⟨k2, fv2, fd2, st2, rfl, HE2, HB8⟩))
        have HB8w : Hid (Below w.heap.size w W8) := HB6w.out.trans (HB8.out.mono HB6w.out.size)
        by_cases hs : st2 > 1000000
        · have hp := pa3 hzl2 hwt (by rw [← HRa.out]; have := HE2.out.2; omega)
          have hf2 : f = 2 := by rw [HF.out]; exact hp.1
          have hk2 : k = 0 := by rw [HK.out]; exact hp.2
          clear hp pa1 pa2 pa3 pa4 HF HK hzl2 hwt
          subst hf2 hk2
          go_wp2_with fail
          go_ret
          exact ⟨by simp, HB8w.out⟩
        · have hp := pa4 hzl2 hwt (by rw [← HRa.out]; have := HE2.out.2; omega)
          have hf2 : f = 0 := by rw [HF.out]; exact hp.1
          have hk2 : k2 = k := by rw [HK.out, hp.2, ← HRa.out]; exact HE2.out.1
          clear hp pa1 pa2 pa3 pa4 HF HK hzl2 hwt
          subst hf2 hk2
          go_wp2_with fail
          go_ret
          exact ⟨by simp, HB8w.out⟩
    · have hp := pa1 (by rw [HSl.out, ← HN.out.2.2.2]; exact hz)
      have hf3 : f = 3 := by rw [HF.out]; exact hp.1
      have hk3 : k = 0 := by rw [HK.out]; exact hp.2
      have hz' : ((zn : Int) == (en : Int)) = false := by simp; omega
      clear hp pa1 pa2 pa3 pa4 HF HK hz
      subst hf3 hk3
      go_wp2_with fail
      go_ret
      exact ⟨by simp, HB6w.out⟩
  · obtain ⟨e1, e2, e3, e4⟩ := pf_bad hx0 cl S E zs
    have hfx : f = x := by rw [HF.out]; exact e1
    have hkx : k = 0 := by rw [HK.out]; exact e2
    have hyx : y = x := by rw [HY.out]; exact e3
    have hvx : vn = 0 := by rw [HVn.out, HTx.out, e4]; rfl
    clear HF HK HY HTx e1 e2 e3 e4
    subst hkx hvx hfx
    subst hyx
    have hx' : (y == 0) = false := by simpa using hx0
    clear hx0
    go_wp2_with fail
    go_ret
    exact ⟨by simp, HB3w.out⟩

end Go.Proofs.Ythdojdkghhmfcaa
