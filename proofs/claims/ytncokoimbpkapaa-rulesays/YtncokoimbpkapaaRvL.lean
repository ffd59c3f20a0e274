/-
  The contract of rule.eachFilling, of no letter.
-/
import Derived.Test.YtncokoimbpkapaaRvE
namespace Go.Proofs.Ytncokoimbpkapaa
open Go.RowKit

set_option maxHeartbeats 32000000 in
set_option maxRecDepth 100000 in
theorem each_nil (POST : World → Prop) (aa ab ac : Option Addr) (ca cb cc : Nat) (al bl cl : List Nat) (f : FuncId) (cp0 : Array Value) (w : World) (ha : Shows w aa (castL al)) (hb : Shows w ab (castL bl)) (hc : Shows w ac (castL cl)) (T : Tri al bl cl) (hle : cl.sum ≤ 1000) (HBL : Hid (bl.length = 0)) (hm : cl.length ≤ 1000) (hn : bl.length ≤ 1000)
    (HFROM : Hid (∀ wx q R U Wb cw vb vs, BS w wx w.heap.size q R U (bl.length + 1) Wb cw vb (.func (.func f) #[] cp0) vs (bxs (fun r => al.getD r 0) (fun r => cl.getD r 0) cl.length) bl.length cl.length (castT (tabN (fun r => cl.getD r 0) cl.length fun _ _ => 0)) bl → Calls Try.prog 30 #[.pointer (some ⟨q, 0, none⟩), .int .i64 0] wx fun e w' => e = .returned (.tuple #[]) ∧ POST w')) :
    Calls Try.prog 11 #[.slice aa al.length ca, .slice ab bl.length cb, .slice ac cl.length cc, .func (.func f) #[] cp0] w fun e w' => e = .returned (.tuple #[]) ∧ POST w' := by
  have HA : Hid (Shows w aa (castL al)) := ha
  have HCC : Hid (Shows w ac (castL cl)) := hc
  have HT : Hid (Tri al bl cl) := T
  have hsum := T.sum
  have HCON : Hid (Calls Try.prog 28 #[.slice ac cl.length cc, .slice aa al.length ca] w fun e w' => e = .returned (.bool true) ∧ w' = w) := by
    have := ucontains_at aa ac al.length cl.length ca cc al cl w ha hc rfl rfl
    rw [(inB_iff al cl).2 T.ac] at this
    exact this
  obtain ⟨sa, Hsa⟩ : ∃ x, Hid (x = al.sum) := ⟨_, rfl⟩
  obtain ⟨sb, Hsb⟩ : ∃ x, Hid (x = bl.sum) := ⟨_, rfl⟩
  obtain ⟨sc, Hsc⟩ : ∃ x, Hid (x = cl.sum) := ⟨_, rfl⟩
  have hsa : sa ≤ 1000 := by rw [Hsa.out]; omega
  have hsb : sb ≤ 1000 := by rw [Hsb.out]; omega
  have hs1 : (sa : Int) + (sb : Int) = (sc : Int) := by rw [Hsa.out, Hsb.out, Hsc.out]; omega
  obtain ⟨N, HN⟩ : ∃ N, Hid (N = bl.length + 1) := ⟨_, rfl⟩
  have hN1 : (bl.length : Int) + 1 = (N : Int) := by have := HN.out; omega
  have hNw : IntKind.i64.wrap (N : Int) = (N : Int) := by rw [IntKind.wrap_i64]; have := HN.out; omega
  have hmR : ∀ W, (Instr.makeSlice 35 (.int .i64 (cl.length : Int)) (.int .i64 (cl.length : Int))).run Try.prog W = .ok (.slice (some ⟨W.heap.size, 0, none⟩) cl.length cl.length) (W.alloc (.cells (madeCells #[Value.slice none 0 0] cl.length) 22)) := fun W => run_make_row' 35 22 (.slice none 0 0) 24 Try.underlying35 (by kernel_rfl) rfl .i64 .i64 cl.length (by omega) (by omega) W
  have hmU : ∀ W, (Instr.makeSlice 22 (.int .i64 (N : Int)) (.int .i64 (N : Int))).run Try.prog W = .ok (.slice (some ⟨W.heap.size, 0, none⟩) N N) (W.alloc (.cells (madeCells #[Value.int .i64 0] N) 3)) := fun W =>
    run_make_row' (P := Try.prog) 22 3 (.int .i64 0) 8 Try.underlying22 (by kernel_rfl) rfl .i64 .i64 N (by have := HN.out; omega) (by have := HN.out; omega) W
  have HS1 : Hid (Calls Try.prog 26 #[.slice aa al.length ca] w fun e w' => e = .returned (.int .i64 (sa : Int)) ∧ w' = w) := by rw [Hsa.out]; exact usize_at _ _ _ al w ha rfl (by omega)
  have HS2 : Hid (Calls Try.prog 26 #[.slice ab bl.length cb] w fun e w' => e = .returned (.int .i64 (sb : Int)) ∧ w' = w) := by rw [Hsb.out]; exact usize_at _ _ _ bl w hb rfl (by omega)
  have HS3 : Hid (Calls Try.prog 26 #[.slice ac cl.length cc] w fun e w' => e = .returned (.int .i64 (sc : Int)) ∧ w' = w) := by rw [Hsc.out]; exact usize_at _ _ _ cl w hc rfl (by omega)
  clear ha hb hc T
  go_enter Try.func11, Try.ntmps11
  go_wp2_with fail
  refine HS1.out.mono ?_
  rintro e w1 ⟨rfl, hw1⟩
  obtain rfl := hw1
  go_wp2_with fail
  refine HS2.out.mono ?_
  rintro e w2 ⟨rfl, hw2⟩
  obtain rfl := hw2
  go_wp2_with fail
  refine HS3.out.mono ?_
  rintro e w3 ⟨rfl, hw3⟩
  obtain rfl := hw3
  go_wp2_with fail
  refine HCON.out.mono ?_
  rintro e w4 ⟨rfl, hw4⟩
  obtain rfl := hw4
  go_upto_region 1 with fail
  go_cut [8, 28, 31, 35] (fun s8 s28 s31 s35 wx => ∃ q R U Wb cw : Nat, s8 = .pointer (some ⟨q, 0, none⟩) ∧ s28 = .slice (some ⟨R, 0, none⟩) cl.length cl.length ∧ s31 = .slice (some ⟨Wb, 0, none⟩) (bl.length + 1) cw ∧ s35 = .slice (some ⟨U, 0, none⟩) N N ∧ Hid (BS w4 wx w4.heap.size q R U (bl.length + 1) Wb cw (.slice none 0 0) (.func (.func f) #[] cp0) (List.replicate cl.length (.slice none 0 0)) [] bl.length cl.length (List.replicate cl.length []) bl))
  case first =>
    go_region_law (refine step_none rfl (.tmp 29) (.tmp 30) rfl rfl ab bl.length cb rfl HBL.out ?_)
    all_goals (
      go_wp2_with fail
      go_meet
      refine ⟨_, _, _, _, _, rfl, rfl, rfl, rfl, ?_⟩
      exact BS.start (arr := #[.int .i64 0]) (by repeat (first | exact Below.refl _ _ | refine Below.drew ?_ | refine Below.alloc ?_ (by first | omega | exact Nat.le_refl _ | (simp only [heapS]; omega)) _)) (by omega) (by omega) (by omega) (by omega) (by omega) rfl hn hm (by rw [← HN.out]; exact (by simp only [heapA, heapS, heapD]; repeat (first | rw [if_pos (by first | trivial | omega)] | rw [if_neg (by omega)]))) (by simp only [heapA, heapS, heapD]; repeat (first | rw [if_pos (by first | trivial | omega)] | rw [if_neg (by omega)])) (by rw [← HN.out]; exact (by simp only [heapA, heapS, heapD]; repeat (first | rw [if_pos (by first | trivial | omega)] | rw [if_neg (by omega)]))) (by simp only [heapA, heapS, heapD]; repeat (first | rw [if_pos (by first | trivial | omega)] | rw [if_neg (by omega)])) (grew_nil HBL.out))
  case rest =>
    obtain ⟨q, R, U, Wb, cw, rfl, rfl, rfl, rfl, HBS⟩ := hcut
    go_wp2
    go_loopw [40] (fun iv wr => ∃ (i : Nat) (vb : Value) (vs : List Value), i ≤ cl.length ∧ iv = .int .i64 (i : Int) ∧ Hid (BS w4 wr w4.heap.size q R U (bl.length + 1) Wb cw vb (.func (.func f) #[] cp0) vs (bxs (fun r => al.getD r 0) (fun r => cl.getD r 0) i) bl.length cl.length (castT (tabR (fun r => cl.getD r 0) cl.length i)) bl)) (fun iv _ => cl.length - (intOf iv).toNat)
    case atStart => exact ⟨0, _, _, Nat.zero_le _, rfl, by rw [tabR_zero]; exact HBS⟩
    case round =>
      obtain ⟨i, vb, vs, hi, rfl, HBI⟩ := hrel
      by_cases hlt : i < cl.length
      · have hlt' : (i : Int) < (cl.length : Int) := by omega
        have hb0 := HBI.out
        have HBel : Hid (Below w4.heap.size w4 wr) := hb0.bel
        have HCw : Hid (Shows wr ac (castL cl)) := HCC.out.below hb0.bel
        obtain ⟨b1, off1, z, hac, HZ, hz1, hz2, hcz⟩ := HCw.out.elem (k := i) (by rw [castL_len]; exact hlt)
        subst hac
        obtain ⟨p, HP⟩ : ∃ p, Hid (p = cl.getD i 0) := ⟨_, rfl⟩
        have hzp : z = (p : Int) := by rw [HZ.out, castL_at, HP.out]
        subst hzp
        have hp1000 : p ≤ 1000 := by rw [HP.out]; exact Nat.le_trans (getD_le_sum cl i) hle
        have c1 : wr.cell? ⟨q, 1, none⟩ = some (.slice (some ⟨R, 0, none⟩) cl.length cl.length) := by simp [World.cell?, hb0.blk]
        have hRR : w4.heap.size ≤ R ∧ R < wr.heap.size := hb0.rows.own.lt R rfl
        have hRl : R < wr.heap.size := hRR.2
        have cR : wr.cell? ⟨R, i, none⟩ = some (rowv vs i) := by
          obtain ⟨g9, n9, cap9, e9, _, _, _, _, h9⟩ := hb0.rows.head (by rw [hb0.lm]; omega)
          cases e9
          exact h9 i (by rw [hb0.lm]; exact hlt)
        have fR : wr.frozen? ⟨R, i, none⟩ = false := by
          obtain ⟨g9, n9, cap9, e9, _, _, _, h9, _⟩ := hb0.rows.head (by rw [hb0.lm]; omega)
          cases e9
          exact h9 i
        have hB1 : Below wr.heap.size wr (wr.alloc (.cells (madeCells #[Value.int .i64 0] p) 3)) := (Below.refl _ _).alloc (Nat.le_refl _) _
        have hql : q < wr.heap.size := hb0.sl
        have c1a := (hB1.cell (p := ⟨q, 1, none⟩) hql).trans c1
        have cR1 := (hB1.cell (p := ⟨R, i, none⟩) hRl).trans cR
        have fR1 : (wr.alloc (.cells (madeCells #[Value.int .i64 0] p) 3)).frozen? ⟨R, i, none⟩ = false := by
          rw [← fR]; unfold World.frozen?; rw [Below.heap_alloc _ _ _ hRl]
        have hmP : ∀ W, (Instr.makeSlice 22 (.int .i64 (p : Int)) (.int .i64 (p : Int))).run Try.prog W = .ok (.slice (some ⟨W.heap.size, 0, none⟩) p p) (W.alloc (.cells (madeCells #[Value.int .i64 0] p) 3)) := fun W =>
          run_make_row' (P := Try.prog) 22 3 (.int .i64 0) 8 Try.underlying22 (by kernel_rfl) rfl .i64 .i64 p (by omega) (by omega) W
        have HB2 : Hid (BS w4 ((wr.alloc (.cells (madeCells #[Value.int .i64 0] p) 3)).setCell ⟨R, i, none⟩ (.slice (some ⟨wr.heap.size, 0, none⟩) p p)).drew w4.heap.size q R U (bl.length + 1) Wb cw vb (.func (.func f) #[] cp0) (vs.set i (.slice (some ⟨wr.heap.size, 0, none⟩) p p)) (bxs (fun r => al.getD r 0) (fun r => cl.getD r 0) i) bl.length cl.length (castT (tabR (fun r => cl.getD r 0) cl.length (i + 1))) bl) := by
          have := (hb0.row hlt p hp1000).drew
          rw [HP.out, tabR_set] at this
          rw [HP.out]
          exact this
        clear hb0 hRR hB1
        go_wp2_with fail
        go_region
        rw [World.setCell_alloc_past _ _ _ _ hRl] at HB2
        generalize hW5 : ((wr.setCell ⟨R, i, none⟩ (.slice (some ⟨wr.heap.size, 0, none⟩) p p)).alloc (.cells (madeCells #[Value.int .i64 0] p) 3)).drew = W5
        rw [hW5] at HB2
        clear cR fR cR1 fR1 c1 c1a hcz hW5 hmP hql hRl HBI HBel
        obtain ⟨y, HY⟩ : ∃ y, Hid (y = al.getD i 0) := ⟨_, rfl⟩
        have hyp : y ≤ p := by rw [HY.out, HP.out]; exact HT.out.ac i
        have hp0 : 0 < p := by rw [HP.out]; exact HT.out.cp i hlt
        have HLb : Hid ((bxs (fun r => al.getD r 0) (fun r => cl.getD r 0) i).length + (p - y) ≤ 1000) := by
          show _ ≤ _
          have h1 := HT.out.boxes
          have h2 := len_bxs (fun r => al.getD r 0) (fun r => cl.getD r 0) (i + 1)
          have h3 := bxs_len_mono (fun r => al.getD r 0) (fun r => cl.getD r 0) (show i + 1 ≤ cl.length by omega)
          rw [bxs_succ, List.length_append] at h3
          have h4 : (boxB (fun r => al.getD r 0) (fun r => cl.getD r 0) i).length = p - y := by unfold boxB; rw [HP.out, HY.out]; simp
          omega
        have HVS : Hid (∃ vs', BS w4 W5 w4.heap.size q R U (bl.length + 1) Wb cw vb (.func (.func f) #[] cp0) vs' (bxs (fun r => al.getD r 0) (fun r => cl.getD r 0) i) bl.length cl.length (castT (tabR (fun r => cl.getD r 0) cl.length (i + 1))) bl) := ⟨_, HB2.out⟩
        clear HB2
        obtain ⟨vs5, hb5⟩ := HVS.out
        have HB5 : Hid (BS w4 W5 w4.heap.size q R U (bl.length + 1) Wb cw vb (.func (.func f) #[] cp0) vs5 (bxs (fun r => al.getD r 0) (fun r => cl.getD r 0) i ++ rowK p i 0) bl.length cl.length (castT (tabR (fun r => cl.getD r 0) cl.length (i + 1))) bl) := by
          have : rowK p i 0 = [] := rfl
          rw [this, List.append_nil]; exact hb5
        clear hb5 HVS
        go_wp2
        go_loopw [11] (fun jv wr => ∃ (k : Nat) (vb : Value) (j : Int), k ≤ p - y ∧ jv = .int .i64 j ∧ Hid (j = (p : Int) - 1 - (k : Int)) ∧ Hid (BS w4 wr w4.heap.size q R U (bl.length + 1) Wb cw vb (.func (.func f) #[] cp0) vs5 (bxs (fun r => al.getD r 0) (fun r => cl.getD r 0) i ++ rowK p i k) bl.length cl.length (castT (tabR (fun r => cl.getD r 0) cl.length (i + 1))) bl)) (fun jv _ => ((intOf jv) + 1).toNat)
        case atStart => exact ⟨0, vb, (p : Int) - 1, Nat.zero_le _, by first | rfl | go_num, by show _ = _; omega, HB5⟩
        case round =>
          obtain ⟨k, vb1, j, hk, rfl, HJ, HBK⟩ := hrel
          have hj := HJ.out
          have HPA : Hid (Calls Try.prog 29 #[.slice aa al.length ca, .int .i64 (i : Int)] wr fun e w' => e = .returned (.int .i64 (y : Int)) ∧ w' = wr) := by
            rw [HY.out]; exact upartAt_at aa al.length ca i al wr (HA.out.below HBK.out.bel) rfl
          by_cases hky : k < p - y
          · obtain ⟨jn, hjn⟩ : ∃ jn : Nat, j = (jn : Int) := ⟨p - 1 - k, by omega⟩
            subst hjn
            have hjy : (jn : Int) ≥ (y : Int) := by omega
            have hjn2 : jn = p - 1 - k := by omega
            have HJN : Hid (jn = p - 1 - k) := hjn2
            have hj1000 : jn ≤ 1000 := by omega
            have hb1 := HBK.out
            have c0 : wr.cell? ⟨q, 0, none⟩ = some vb1 := by simp [World.cell?, hb1.blk]
            obtain ⟨bk, HKE⟩ : ∃ bk, Hid (bk = bxs (fun r => al.getD r 0) (fun r => cl.getD r 0) i ++ rowK p i k) := ⟨_, rfl⟩
            have HOB : Hid (wr.ownsRow w4.heap.size 52 2 vb1 bk.length (pcx bk)) := by rw [HKE.out]; exact hb1.box
            have HLk : Hid (bk.length + 1 ≤ 1000) := by
              have := HLb.out
              show _ ≤ _
              rw [HKE.out, List.length_append]
              have : (rowK p i k).length = k := by simp [rowK]
              omega
            have HSZ : Hid (w4.heap.size ≤ wr.heap.size) := hb1.bel.size
            have hvb : ∃ a0 n0 c0, vb1 = .slice a0 n0 c0 := by
              rcases hb1.box.2 with ⟨e, _⟩ | ⟨g9, cp9, cur9, e, _⟩
              · exact ⟨_, _, _, e⟩
              · exact ⟨_, _, _, e⟩
            obtain ⟨a9, n9, c9, rfl⟩ := hvb
            clear hb1 hj HJ hjn2
            go_wp2_with fail
            refine HPA.out.mono ?_
            rintro e w6 ⟨rfl, hw6⟩
            obtain rfl := hw6
            go_wp2_with (at_builtin; refine append_box (x := i) (y := jn) rfl _ _ rfl rfl rfl rfl HOB.out HLk.out HSZ.out ?_)
            intro v7 w7 ho7 hb7 hk7
            have hb1 := HBK.out
            have e0 : w7.heap[q]? = some (.cells #[.slice a9 n9 c9, .slice (some ⟨R, 0, none⟩) cl.length cl.length, .slice (some ⟨Wb, 0, none⟩) (bl.length + 1) cw, .slice (some ⟨U, 0, none⟩) (bl.length + 1) (bl.length + 1), .func (.func f) #[] cp0] 49 (0, 0)) := by
              rw [hk7.block q hb1.sl (fun e => (hb1.db q e).1 rfl)]; exact hb1.blk
            have d0 : w7.cell? ⟨q, 0, none⟩ = some (.slice a9 n9 c9) := by simp [World.cell?, e0]
            have d1 : w7.frozen? ⟨q, 0, none⟩ = false := frozen_of_row w7 _ 0 _ _ e0
            have HB8 : Hid (BS w4 (w7.setCell ⟨q, 0, none⟩ v7) w4.heap.size q R U (bl.length + 1) Wb cw v7 (.func (.func f) #[] cp0) vs5 (bxs (fun r => al.getD r 0) (fun r => cl.getD r 0) i ++ rowK p i (k + 1)) bl.length cl.length (castT (tabR (fun r => cl.getD r 0) cl.length (i + 1))) bl) := by
              have ho8 : w7.ownsRow w4.heap.size 52 2 v7 (bk ++ [(i, jn)]).length (pcx (bk ++ [(i, jn)])) := by simpa using ho7
              rw [HKE.out] at ho8
              have h := hb1.push ho8 hb7 hk7
              rw [List.append_assoc, HJN.out, ← rowK_succ] at h
              exact h
            have hv7 : ∃ a0 n0 c0, v7 = .slice a0 n0 c0 := by
              rcases ho7.2 with ⟨e, _⟩ | ⟨g8, cp8, cur8, e, _⟩
              · exact ⟨_, _, _, e⟩
              · exact ⟨_, _, _, e⟩
            obtain ⟨a8, n8, c8, rfl⟩ := hv7
            clear hb1 ho7 hb7 hk7 e0
            go_wp2
            go_roundw
            case rel => exact ⟨k + 1, _, (jn : Int) - 1, by omega, by first | rfl | go_num, by show _ = _; have := HJN.out; omega, HB8⟩
            case measure => first | (simp [intOf]; done) | (simp [intOf]; omega)
          · have hkk : k = p - y := by omega
            have hjy : ¬ (j ≥ (y : Int)) := by omega
            have HBE : Hid (BS w4 wr w4.heap.size q R U (bl.length + 1) Wb cw vb1 (.func (.func f) #[] cp0) vs5 (bxs (fun r => al.getD r 0) (fun r => cl.getD r 0) (i + 1)) bl.length cl.length (castT (tabR (fun r => cl.getD r 0) cl.length (i + 1))) bl) := by
              have h := HBK.out
              have e1 : rowK p i k = boxB (fun r => al.getD r 0) (fun r => cl.getD r 0) i := by unfold rowK boxB; rw [hkk, HP.out, HY.out]
              rw [e1, ← bxs_succ] at h
              exact h
            clear hj HJ
            go_wp2_with fail
            refine HPA.out.mono ?_
            rintro e w6 ⟨rfl, hw6⟩
            obtain rfl := hw6
            go_wp2
            go_roundw
            case rel => exact ⟨i + 1, vb1, vs5, by omega, by go_num, HBE⟩
            case measure => simp [intOf]; omega
      · obtain rfl : i = cl.length := by omega
        have hlt' : ¬ ((cl.length : Int) < (cl.length : Int)) := by omega
        have HCALL : Hid (Calls Try.prog 30 #[.pointer (some ⟨q, 0, none⟩), .int .i64 0] wr fun e w' => e = .returned (.tuple #[]) ∧ POST w') := HFROM.out wr q R U Wb cw vb vs (by have := HBI.out; rw [tabR_full] at this; exact this)
        go_wp2_with fail
        refine HCALL.out.mono ?_
        rintro e w9 ⟨rfl, hP⟩
        go_wp2
        go_end0
        exact ⟨rfl, hP⟩

end Go.Proofs.Ytncokoimbpkapaa
