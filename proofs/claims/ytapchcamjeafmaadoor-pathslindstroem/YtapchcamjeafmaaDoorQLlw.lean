/-
  The law PathsLindstroem, walked.
-/
import Derived.Test.YtapchcamjeafmaaDoorQDet
import Derived.Test.YtapchcamjeafmaaDoorQOrd
import Derived.Test.YtapchcamjeafmaaDoorQCnl
import Derived.Test.YtapchcamjeafmaaDoorShelf
import Derived.Lib.LaidTab
import Derived.Lib.AppendIntMem
namespace Go.Proofs.YtapchcamjeafmaaDoor
open Go.RowKit

theorem run_le (cl : Nat → Bool) (S E : List (Nat × Nat)) : (runA cl S E).2.2 ≤ 1000001 := by
  unfold runA
  by_cases h0 : S.length = 0
  · rw [if_pos h0]; show 1 ≤ 1000001; omega
  · rw [if_neg h0]
    have g1 := cnt_st S E 64 0 (ptD S 0) cl (List.replicate S.length []) 0 0
    have g2 := (goF_st S E fndN 64 0 (ptD S 0) cl (List.replicate S.length []) 0 0 (by omega)).1
    omega
/-- The sum over the first orders. -/
def smL (cl : Nat → Bool) (S E : List (Nat × Nat)) (X : List (List Nat × Int)) : Int := (X.map fun p => ((runA cl S (p.1.map (ptD E))).2.2 : Int) * p.2).sum
theorem smL_succ (cl : Nat → Bool) (S E : List (Nat × Nat)) (X : List (List Nat × Int)) {i : Nat} (hi : i < X.length) : smL cl S E (X.take (i + 1)) = smL cl S E (X.take i) + ((runA cl S (((X.getD i ([], 1)).1).map (ptD E))).2.2 : Int) * (X.getD i ([], 1)).2 := by
  unfold smL
  rw [List.take_succ_eq_append_getElem hi, List.map_append, List.sum_append]
  simp [List.getD, List.getElem?_eq_getElem hi]
theorem FormatInt_at (d : Int) (W : World) (h0 : -9223372036854775808 ≤ d) (h1 : d ≤ 9223372036854775807) (htab : Lib.TabIs Tryd.prog W "internal/strconv.uint64pow10" .u64 Lib.pow10Tab) :
    Calls Tryd.prog 8 #[.int .i64 d, .int .i64 10] W fun e w' => e = .returned (.string ⟨(Lib.itoa d).toArray⟩) ∧ Below W.heap.size W w' := by
  refine (Go.Proofs.Tryd.strconv_FormatInt_10 d h0 h1 W htab).mono ?_
  rintro e w' ⟨rfl, n, os, rfl⟩
  refine ⟨rfl, ⟨rfl, rfl, rfl, by first | (simp [Go.Sort.grow]; done) | (simp [Go.Sort.grow]; omega), fun i hi => by
    show ((W.drewN n).heap ++ os)[i]? = _
    rw [Array.getElem?_append_left (by show i < W.heap.size; omega)]
    rfl⟩⟩

set_option maxHeartbeats 16000000 in
set_option maxRecDepth 100000 in
theorem plind_at (gw gh : Int) (ba sa ea : Option Addr) (n c sn sc en ec : Nat) (bs S E : List (Int × Int)) (w : World) (hn : n = bs.length) (hl : n ≤ 8796093021952) (hsn : sn = S.length) (hsl : sn ≤ 17592186044416) (hsc : sn ≤ sc) (hen : en = E.length) (hel : en ≤ 17592186044416) (hP : PtI w ba bs) (hS : PtI w sa S) (hE : PtI w ea E) (htab : Lib.TabIs Tryd.prog w "internal/strconv.uint64pow10" .u64 Lib.pow10Tab) :
    Calls Tryd.prog 3 #[.agg #[.int .i64 gw, .int .i64 gh, .slice ba n c], .slice sa sn sc, .slice ea en ec] w fun e w' => e = .returned (.bool true) ∧ Below w.heap.size w w' := by
  have HN := hid_w (And.intro hn (And.intro hsn hen))
  have HP : Hid (PtI w ba bs) := hP
  have HS : Hid (PtI w sa S) := hS
  have HE : Hid (PtI w ea E) := hE
  have HTab : Hid (∀ W, Below w.heap.size w W → Lib.TabIs Tryd.prog W "internal/strconv.uint64pow10" .u64 Lib.pow10Tab) := fun W hW => Lib.tabBelow_of_tabIs htab W hW
  have HFm : Hid (∀ (d : Int) (W : World), -9223372036854775808 ≤ d → d ≤ 9223372036854775807 → Below w.heap.size w W → Calls Tryd.prog 8 #[.int .i64 d, .int .i64 10] W fun e w' => e = .returned (.string ⟨(Lib.itoa d).toArray⟩) ∧ Below W.heap.size W w') := fun d W h0 h1 hW => FormatInt_at d W h0 h1 (HTab.out W hW)
  obtain ⟨cl, HCl⟩ : ∃ cl, Hid (cl = brC (brO gw gh bs)) := ⟨_, rfl⟩
  obtain ⟨x, HX⟩ : ∃ x, Hid (x = chkE gw gh (brO gw gh bs) S E) := ⟨_, rfl⟩
  obtain ⟨t, HT⟩ : ∃ t : ByteArray, Hid (t = if x = 0 then ⟨(Lib.itoa (dtN S.length (mtL cl (toN S) (toN E)))).toArray⟩ else ⟨#[]⟩) := ⟨_, rfl⟩
  obtain ⟨Q, HQ⟩ : ∃ Q, Hid (Q = w.heap.size) := ⟨_, rfl⟩
  obtain ⟨W0, HW0⟩ : ∃ W0, Hid (W0 = w.alloc (.cells #[.int .i64 gw, .int .i64 gh, .slice ba n c] 24)) := ⟨_, rfl⟩
  have HB0 : Hid (Below w.heap.size w W0) := by rw [HW0.out]; exact (Below.refl _ _).alloc (Nat.le_refl _) _
  have HQb : Hid (W0.heap[Q]? = some (.cells #[.int .i64 gw, .int .i64 gh, .slice ba n c] 24 (0, 0))) := by
    show _ = _
    rw [HW0.out, HQ.out]; exact heap_alloc_last _ _
  have HCell : Hid (∀ W, Below W0.heap.size W0 W → W.cell? ⟨Q, 0, none⟩ = some (.int .i64 gw) ∧ W.cell? ⟨Q, 1, none⟩ = some (.int .i64 gh) ∧ W.cell? ⟨Q, 2, none⟩ = some (.slice ba n c)) := fun W hW => by
    have h0 : W.heap[Q]? = _ := (hW.block Q (lt_of_some HQb.out)).trans HQb.out
    exact ⟨by rw [cell_of_row W Q 0 _ _ _ h0]; rfl, by rw [cell_of_row W Q 1 _ _ _ h0]; rfl, by rw [cell_of_row W Q 2 _ _ _ h0]; rfl⟩
  have HC1 := hid_w (Count_lit W0)
  clear hP hS hE hn hsn hen htab
  go_enter Tryd.func3, Tryd.ntmps3
  go_upto_region 1 with fail
  rw [← HQ.out, ← HW0.out]
  go_upto_region 4 with (go_at_call 4; refine HC1.out.mono ?_; rintro e W1 ⟨rfl, HB1⟩)
  clear HC1
  have HB1w : Hid (Below w.heap.size w W1) := HB0.out.trans (HB1.out.mono HB0.out.size)
  obtain ⟨q0, q1, q2⟩ := HCell.out W1 HB1.out
  have HC2 : Hid (Calls Tryd.prog 5 #[.agg #[.int .i64 gw, .int .i64 gh, .slice ba n c], .slice sa sn sc, .slice ea en ec] W1 fun e w' => e = .returned (.tuple #[.string t, .int .i64 x]) ∧ Hid (Below W1.heap.size W1 w')) :=
    Determinant_at gw gh ba sa ea n c sn sc en ec bs S E W1 HN.out.1 (by omega) HN.out.2.1 hsl HN.out.2.2 hel (HP.out.below HB1w.out) (HS.out.below HB1w.out) (HE.out.below HB1w.out) _ rfl x HX.out (fun d => ⟨(Lib.itoa d).toArray⟩) (fun d W h0 h1 hW => HFm.out d W h0 h1 (HB1w.out.trans (hW.mono HB1w.out.size))) t (by rw [HT.out, HCl.out])
  go_upto_region 5 with (go_at_call 5; refine HC2.out.mono ?_; rintro e W2 ⟨rfl, HB2⟩)
  clear HC2 q0 q1 q2
  have HB2g : Hid (Below W0.heap.size W0 W2) := HB1.out.trans (HB2.out.mono HB1.out.size)
  have HB2w : Hid (Below w.heap.size w W2) := HB0.out.trans (HB2g.out.mono HB0.out.size)
  by_cases hx0 : x = 0
  · subst hx0
    have HX0 : Hid (0 = chkE gw gh (brO gw gh bs) S E) := HX
    have HSE : Hid (S.all (inG gw gh) = true ∧ E.all (inG gw gh) = true ∧ sn = en ∧ sn ≤ 4 ∧ gw ≤ 8 ∧ gh ≤ 8) := by
      have h2 := chk_ok HX0.out
      have h3 := HN.out
      exact ⟨h2.1, h2.2.1, by omega, by omega, h2.2.2.2.2⟩
    have hs4 : sn ≤ 4 := HSE.out.2.2.2.1
    have HSl : Hid ((toN S).length = sn) := by show _ = _; rw [toN, List.length_map, ← HN.out.2.1]
    have HEl : Hid ((toN E).length = sn) := by show _ = _; rw [toN, List.length_map, ← HN.out.2.2, ← HSE.out.2.2.1]
    have HTf : Hid (t = ⟨(Lib.itoa (dtN sn (mtL cl (toN S) (toN E)))).toArray⟩) := by show _ = _; rw [HT.out, if_pos rfl, HN.out.2.1]
    obtain ⟨hf1, hf2, hf3⟩ := ord_facts hs4
    obtain ⟨m, HM⟩ : ∃ m, Hid (m = (ordL sn).length) := ⟨_, rfl⟩
    have HF := hid_w hf3
    rw [← HM.out] at hf1 hf2
    have HC3 := hid_w (ord_at sn hs4 W2)
    clear hf3
    go_upto_region 9 with (go_at_call 6; refine HC3.out.mono ?_; rintro e W3 ⟨tv, sv, rfl, HT3, HS3, HB3⟩)
    clear HC3
    have HB3g : Hid (Below W0.heap.size W0 W3) := HB2g.out.trans (HB3.out.mono HB2g.out.size)
    obtain ⟨g, cap, vs, hv, hg, hcell, hown⟩ := HT3.out.open2 (by unfold rwO; rw [List.length_map, ← HM.out]; exact hf1)
    obtain ⟨sg, scap, hsv, hsg, hscell⟩ := HS3.out.open (by unfold sgO; rw [List.length_map, ← HM.out]; exact hf1)
    subst hv hsv
    have hlen : (rwO (ordL sn)).length = m := by unfold rwO; rw [List.length_map, HM.out]
    have hslen : (sgO (ordL sn)).length = m := by unfold sgO; rw [List.length_map, HM.out]
    rw [hlen] at hcell hown ⊢
    rw [hslen] at hscell ⊢
    have HCc := hid_w hcell
    have HOw := hid_w hown
    have HSc := hid_w hscell
    have HG := hid_w (And.intro hg hsg)
    clear hcell hown hscell hlen hslen hg hsg
    go_wp2_with fail
    go_loopw [50, 11] (fun iv sv wr => ∃ (i : Nat) (s : Int), i ≤ m ∧ iv = .int .i64 (i : Int) ∧ sv = .int .i64 s ∧ Hid (s = smL cl (toN S) (toN E) ((ordL sn).take i)) ∧ Hid (s.natAbs ≤ i * 1000001) ∧ Hid (∀ q, q < i → ¬ 1000000 < (runA cl (toN S) (((ordL sn).getD q ([], 1)).1.map (ptD (toN E)))).2.1) ∧ Hid (Below W3.heap.size W3 wr)) (fun iv _ _ => m - (intOf iv).toNat)
    case atStart => exact ⟨0, 0, Nat.zero_le _, rfl, rfl, rfl, by show _ ≤ _; simp, fun q hq => absurd hq (by omega), hid_w (Below.refl _ _)⟩
    case round =>
      obtain ⟨i, s, hi, rfl, rfl, HSs, HSb, HSt, HB⟩ := hrel
      have HBg : Hid (Below W0.heap.size W0 wr) := HB3g.out.trans (HB.out.mono HB3g.out.size)
      have HBw : Hid (Below w.heap.size w wr) := HB0.out.trans (HBg.out.mono HB0.out.size)
      by_cases hlt : i < m
      · have hlt' : (i : Int) < (m : Int) := by omega
        obtain ⟨p, HPp⟩ : ∃ p, Hid (p = (ordL sn).getD i ([], 1)) := ⟨_, rfl⟩
        have hio : i < (ordL sn).length := by rw [← HM.out]; exact hlt
        have hpm : p ∈ ordL sn := by rw [HPp.out]; simp [List.getD, List.getElem?_eq_getElem hio]
        have hpl : (wyZ p.1).length = sn := way_len hpm
        have HPl : Hid ((wyZ p.1).length = sn) := hpl
        have hpf := HF.out p hpm
        have HPf := hid_w hpf
        have HWy : Hid (wyF sn (fun _ => false) (wyZ p.1) = true) := ways_ok hs4 p hpm
        have hrow : (rwO (ordL sn)).getD i [] = wyZ p.1 := by
          rw [HPp.out]; simp [rwO, List.getD, List.getElem?_eq_getElem hio]
        have hsgn : (sgO (ordL sn)).getD i 0 = p.2 := by
          rw [HPp.out]; simp [sgO, List.getD, List.getElem?_eq_getElem hio]
        have ho := HOw.out i hlt
        rw [hrow] at ho
        obtain ⟨pa, pc, hps, hsh⟩ := ho.shows (by rw [hpl]; omega) (fun z hz => by have := hpf.2 z hz; omega)
        rw [hpl] at hps
        have hc := HCc.out i hlt
        have hs := HSc.out i hlt
        rw [hsgn] at hs
        obtain ⟨sp, HSp⟩ : ∃ sp : Int, Hid (sp = p.2) := ⟨_, rfl⟩
        rw [← HSp.out] at hs
        rw [hps] at hc
        have HWs : Hid (Shows W3 pa (wyZ p.1)) := hsh
        have hcr : wr.cell? ⟨g, i, none⟩ = some (.slice pa sn pc) := (HB.out.cell (p := ⟨g, i, none⟩) HG.out.1).trans hc
        have HScell : Hid (∀ W, Below wr.heap.size wr W → W.cell? ⟨sg, i, none⟩ = some (.int .i64 sp)) := fun W hW => ((HB.out.trans (hW.mono HB.out.size)).cell (p := ⟨sg, i, none⟩) HG.out.2).trans hs
        obtain ⟨q0, q1, q2⟩ := HCell.out wr HBg.out
        obtain ⟨r, HR⟩ : ∃ r, Hid (r = runA cl (toN S) (p.1.map (ptD (toN E)))) := ⟨_, rfl⟩
        obtain ⟨y, HY⟩ : ∃ y : Int, Hid (y = if 1000000 < r.2.1 then 2 else 0) := ⟨_, rfl⟩
        obtain ⟨k, HK⟩ : ∃ k : Int, Hid (k = if 1000000 < r.2.1 then 0 else (r.2.2 : Int)) := ⟨_, rfl⟩
        have hyA : y = aptE 0 (brC (brO gw gh bs)) S E (wyZ p.1) := by
          rw [HY.out, HR.out, HCl.out]
          unfold aptE
          rw [if_neg (c := (0 : Int) ≠ 0) (by simp), if_neg (c := (wyZ p.1).length ≠ S.length) (by rw [HPl.out, ← HN.out.2.1]; simp), if_neg (c := wyF (wyZ p.1).length (fun _ => false) (wyZ p.1) = false) (by rw [HPl.out, HWy.out]; simp), way_E]
        have hkA : k = aptN 0 (brC (brO gw gh bs)) S E (wyZ p.1) := by
          unfold aptN
          rw [← hyA, HK.out, HY.out, way_E, HR.out, HCl.out]
          by_cases h : 1000000 < (runA (brC (brO gw gh bs)) (toN S) (p.1.map (ptD (toN E)))).2.1
          · rw [if_pos h, if_pos h, if_neg (by omega)]
          · rw [if_neg h, if_neg h, if_pos rfl]
        have HC4 : Hid (Calls Tryd.prog 7 #[.agg #[.int .i64 gw, .int .i64 gh, .slice ba n c], .slice sa sn sc, .slice ea en ec, .slice pa sn pc] wr fun e w' => e = .returned (.tuple #[.int .i64 k, .int .i64 y]) ∧ Hid (Below wr.heap.size wr w')) :=
          Apart_at gw gh ba sa ea pa n c sn sc en ec sn pc bs S E (wyZ p.1) wr HN.out.1 (by omega) HN.out.2.1 hsl hsc HN.out.2.2 hel HPl.out.symm (by omega) (HP.out.below HBw.out) (HS.out.below HBw.out) (HE.out.below HBw.out) (HWs.out.below HB.out) _ rfl 0 HX0.out k y hkA hyA
        clear hrow hsgn ho hc hs hps hpl hpf hsh hyA hkA
        go_upto_region 13 with (go_at_call 7; refine HC4.out.mono ?_; rintro e W5 ⟨rfl, HB5⟩)
        clear HC4 q0 q1 q2 hcr
        have HB5w : Hid (Below w.heap.size w W5) := HBw.out.trans (HB5.out.mono HBw.out.size)
        by_cases h6 : 1000000 < r.2.1
        · have hy2 : y = 2 := by rw [HY.out, if_pos h6]
          subst hy2
          clear h6
          go_wp2_with fail
          go_ret
          exact ⟨rfl, HB5w.out⟩
        · have hy2 : y = 0 := by rw [HY.out, if_neg h6]
          have hk2 : k = (r.2.2 : Int) := by rw [HK.out, if_neg h6]
          have hrl : r.2.2 ≤ 1000001 := by rw [HR.out]; exact run_le _ _ _
          have hsp : sp = 1 ∨ sp = -1 := by rw [HSp.out]; exact HPf.out.1
          obtain ⟨u, HU⟩ : ∃ u : Int, Hid (u = k * sp) := ⟨_, rfl⟩
          obtain ⟨s', HS'⟩ : ∃ s' : Int, Hid (s' = s + u) := ⟨_, rfl⟩
          have hub : u.natAbs ≤ 1000001 := by
            rw [HU.out, hk2]
            rcases hsp with e | e
            · rw [e, Int.mul_one]; omega
            · rw [e, Int.mul_neg, Int.mul_one]; omega
          have hsb := HSb.out
          have him : i * 1000001 ≤ 24 * 1000001 := Nat.mul_le_mul_right _ (by omega)
          have w1 : IntKind.i64.wrap (k * sp) = u := by rw [← HU.out, IntKind.wrap_i64]; omega
          have w2 : IntKind.i64.wrap (s + u) = s' := by rw [IntKind.wrap_i64, HS'.out]; omega
          have HSn : Hid (s' = smL cl (toN S) (toN E) ((ordL sn).take (i + 1))) := by
            show _ = _
            rw [smL_succ _ _ _ _ hio, HS'.out, HU.out, hk2, HSs.out, HSp.out, HR.out, HPp.out]
          have HSbn : Hid (s'.natAbs ≤ (i + 1) * 1000001) := by
            show _ ≤ _
            rw [Nat.add_mul, Nat.one_mul, HS'.out]; omega
          have HStn : Hid (∀ q, q < i + 1 → ¬ 1000000 < (runA cl (toN S) (((ordL sn).getD q ([], 1)).1.map (ptD (toN E)))).2.1) := fun q hq => by
            by_cases e : q = i
            · rw [e, ← HPp.out, ← HR.out]; exact h6
            · exact HSt.out q (by omega)
          have hsc5 := HScell.out W5 HB5.out
          have HB5' : Hid (Below W3.heap.size W3 W5) := HB.out.trans (HB5.out.mono HB.out.size)
          subst hy2
          clear h6 hub hsb him hrl hsp hk2
          go_wp2_with fail
          go_roundw
          case rel => exact ⟨i + 1, s', by omega, by go_num, rfl, HSn, HSbn, HStn, HB5'⟩
          case measure => simp [intOf]; omega
      · obtain rfl : i = m := by omega
        have hlt' : ¬ (i : Int) < (i : Int) := by omega
        have hsd : s = dtN sn (mtL cl (toN S) (toN E)) := by
          rw [HSs.out, HM.out, List.take_length]
          unfold smL
          have h := lind_sum (cl := cl) (S := toN S) (E := toN E) (fun k => ptD_lt HSE.out.1 HSE.out.2.2.2.2.1 HSE.out.2.2.2.2.2 k) (fun k => ptD_lt HSE.out.2.1 HSE.out.2.2.2.2.1 HSE.out.2.2.2.2.2 k) (by rw [HSl.out, HEl.out]) (by rw [HSl.out]; exact hs4) (fun p hp => by
            rw [HSl.out] at hp
            obtain ⟨q, hq, e⟩ := List.mem_iff_getElem.1 hp
            have h2 := HSt.out q (by rw [HM.out]; exact hq)
            simp only [List.getD, List.getElem?_eq_getElem hq, Option.getD_some] at h2
            rw [e] at h2; exact h2)
          rw [HSl.out] at h
          exact h
        have hsb := HSb.out
        have him : i * 1000001 ≤ 24 * 1000001 := Nat.mul_le_mul_right _ (by omega)
        have HC6 : Hid (Calls Tryd.prog 8 #[.int .i64 s, .int .i64 10] wr fun e w' => e = .returned (.string t) ∧ Below wr.heap.size wr w') := by
          have h := HFm.out s wr (by omega) (by omega) HBw.out
          rw [HTf.out, ← hsd]; exact h
        clear hsd hsb him
        go_wp2_with (go_at_call 8; refine HC6.out.mono ?_; rintro e W7 ⟨rfl, hB7⟩; have HB7 : Hid (Below w.heap.size w W7) := HBw.out.trans (hB7.mono HBw.out.size); clear hB7)
        go_ret
        exact ⟨by simp, HB7.out⟩
  · have ht0 : t = ⟨#[]⟩ := by rw [HT.out, if_neg hx0]
    subst ht0
    have hx' : (x == 0) = false := by simpa using hx0
    go_wp2_with fail
    go_ret
    exact ⟨rfl, HB2w.out⟩
end Go.Proofs.YtapchcamjeafmaaDoor
