/-
  Rooted: the tree of a list of cars that all find a place.
-/
import Derived.Test.YtihafckdaecgkaaZRoo
namespace Go.Proofs.Ytihafckdaecgkaa
open Go.RowKit

set_option maxHeartbeats 16000000 in
set_option maxRecDepth 100000 in
theorem Rooted_ok (HSC : SortC) (a : Option Addr) (n cap : Nat) (zs : List Int) (w : World) (hs : Shows w a zs) (hn : n = zs.length) (hc : plC zs zs.length = 0) (hf : Free (lk zs) zs.length) :
    Calls Try.prog 12 #[.slice a n cap] w fun e w' => ∃ v X, e = .returned (.tuple #[v, .int .i64 0]) ∧ Hid (X.Perm (trl (dOf zs) n n) ∧ X.Pairwise (fun x y => ¬ ltP y x)) ∧ Hid (OwnsP w' w.heap.size v X) ∧ Hid (Below w.heap.size w w') := by
  have HLo : Hid (Long (dOf zs) n) := by rw [hn]; exact long_of hc hf
  have h20 : n ≤ 20 := by rw [hn]; exact (plC_ok.1 hc).1
  have HC := Park_ok a n cap zs w hs hn hc hf
  have HS : Hid (Shows w a zs) := hs
  have HNz : Hid (n = zs.length) := hn
  obtain ⟨D, HD⟩ : ∃ D, Hid (D = dOf zs) := ⟨_, rfl⟩
  rw [← HD.out] at HLo ⊢
  clear hs hn hc hf
  go_enter Try.func12, Try.ntmps12
  go_wp2_with fail
  refine HC.mono ?_
  rintro e w1 ⟨gp, rfl, -, HB1⟩
  clear HC
  obtain ⟨i2, hj2, hp0, hp1, hp2⟩ := info_parts Try.infoP
  go_wp2_with (at_make; refine wpList_make_own _ rfl _ _ 22 rfl w1.heap.size 34 i2 (.agg #[.int .i64 0, .int .i64 0]) 2 Try.underlyingP hj2 hp0 hp1 _ _ _ n rfl rfl rfl ?b1 ?b2 ?b3 ?_)
  case b1 => rw [hp2]; omega
  case b2 => unfold maxLen; omega
  case b3 => exact Nat.le_refl _
  intro w2 hown hgrow
  obtain ⟨G, HG⟩ : ∃ G, Hid (G = w1.heap.size) := ⟨_, rfl⟩
  have HB2 : Below w1.heap.size w1 w2 := (Below.refl _ _).grown hgrow (Nat.le_refl _) (fun k h => by cases h)
  have HP2 : Hid (OwnsP w2 G (.slice (some ⟨G, 0, none⟩) 0 n) []) := by rw [HG.out]; exact hown
  have HwG : Hid (w.heap.size ≤ G) := by rw [HG.out]; exact HB1.out.size
  have HG2 : Hid (G < w2.heap.size) := (World.ownsRow.lt HP2.out G rfl).2
  have HBw2 : Hid (Below w.heap.size w w2) := HB1.out.trans (HB2.mono HB1.out.size)
  rw [← HG.out]
  obtain ⟨Lb, HLb⟩ : ∃ Lb, Hid (Lb = w2.heap.size) := ⟨_, rfl⟩
  have HGL : Hid (G < Lb) := by rw [HLb.out]; exact HG2.out
  have HwL : Hid (w.heap.size ≤ Lb) := Nat.le_trans HwG.out (Nat.le_of_lt HGL.out)
  clear hown hgrow HB2 HB1 HG hj2 hp0 hp1 hp2 i2
  obtain ⟨W3, HW3⟩ : ∃ W3, Hid (W3 = w2.alloc (.cells #[.int .i64 0] 3)) := ⟨_, rfl⟩
  have HB3 : Hid (Below w2.heap.size w2 W3) := by rw [HW3.out]; exact (Below.refl _ _).alloc (Nat.le_refl _) _
  have HP3 : Hid (OwnsP W3 G (.slice (some ⟨G, 0, none⟩) (trl D n 0).length n) (trl D n 0)) := HP2.out.below HB3.out
  have HL3 : Hid (Owns W3 Lb (.slice (some ⟨Lb, 0, none⟩) 1 1) (lin D n 0)) := by rw [HLb.out]; exact owns_of_row (Nat.le_refl _) (by rw [HW3.out]; exact heap_alloc_new _ _) rfl (by simp [lin])
  have HBw3 : Hid (Below w.heap.size w W3) := HBw2.out.trans (HB3.out.mono HBw2.out.size)
  have HLs : Hid (Lb < W3.heap.size) := (World.ownsRow.lt HL3.out Lb rfl).2
  go_upto_region 6 with fail
  rw [← HW3.out, ← HLb.out]
  clear HW3 HB3 HBw2 HP2 HLb HG2
  go_wp2
  go_loopw [6, 7, 8, 9, 10, 11] (fun v6 v7 v8 _ _ _ wr => ∃ k p : Nat, k ≤ n ∧ Hid (p = k + 1) ∧ v8 = .int .i64 (p : Int) ∧ v6 = .slice (some ⟨G, 0, none⟩) (trl D n k).length n ∧ Hid (OwnsP wr G v6 (trl D n k)) ∧ Hid (Owns wr Lb v7 (lin D n k)) ∧ Hid (Below w.heap.size w wr) ∧ Hid (Lb < wr.heap.size)) (fun _ _ v8 _ _ _ _ => n + 1 - (intOf v8).toNat)
  case atStart => exact ⟨0, 1, Nat.zero_le _, rfl, rfl, rfl, HP3, HL3, HBw3, HLs⟩
  case round =>
    clear HP3 HL3 HBw3 HLs
    obtain ⟨k, p, hk, Hp, rfl, rfl, HP, HL, HB, HLr⟩ := hrel
    by_cases hlt : k < n
    · have hpn : (p : Int) ≤ (n : Int) := by have := Hp.out; omega
      have hpk : (p : Int) - 1 = (k : Int) := by have := Hp.out; omega
      have hlen := HLo.out k hk
      have hbd := line_bd (D := D) (n := n) (k := k) (i := 0) (Nat.zero_le _)
      rw [addc_zero, List.append_nil] at hbd
      have hll : (lin D n k).length ≤ n + 1 := by
        have := line_len (D := D) (n := n) (k := k) (i := 0) (Nat.zero_le _)
        rw [addc_zero, List.append_nil] at this
        exact this
      obtain ⟨a7, c7, rfl, hs7⟩ := HL.out.shows (by omega) (fun z hz => by have := hbd z hz; omega)
      obtain ⟨b7, o7, vx, rfl, Hvx, -, -, hc7⟩ := hs7.elem (k := k) hlen
      obtain ⟨ll, Hll⟩ : ∃ ll, Hid (ll = (lin D n k).length) := ⟨_, rfl⟩
      rw [← Hll.out] at HL ⊢
      have hkl : (k : Int) < (ll : Int) := by rw [Hll.out]; omega
      have hvb := hbd _ (getD_mem hlen)
      rw [← Hvx.out] at hvb
      have hvb1 : 0 ≤ vx := hvb.1
      have hvb2 : vx ≤ 100 := by omega
      have HP0 : Hid (OwnsP wr G (.slice (some ⟨G, 0, none⟩) (trl D n k ++ (addc D (p : Int) 0).map fun v => nrm (vx, v)).length n) (trl D n k ++ (addc D (p : Int) 0).map fun v => nrm (vx, v))) := by
        rw [addc_zero, List.map_nil, List.append_nil]; exact HP.out
      have HL0 : Hid (Owns wr Lb (.slice (some ⟨b7, o7, none⟩) ll c7) (lin D n k ++ addc D (p : Int) 0)) := by
        rw [addc_zero, List.append_nil]; exact HL.out
      have e60 : Value.slice (some ⟨G, 0, none⟩) (trl D n k).length n = .slice (some ⟨G, 0, none⟩) (trl D n k ++ (addc D (p : Int) 0).map fun v => nrm (vx, v)).length n := by rw [addc_zero, List.map_nil, List.append_nil]
      have Hpp : Hid ((p : Int) = (k : Int) + 1) := by have := Hp.out; show _ = _; omega
      clear hbd hll hs7 HP HL hlen hvb
      go_wp2
      go_loopw [6, 7, 10, 11, 37] (fun v6 v7 _ _ q wq => ∃ i : Nat, i ≤ n ∧ q = .int .i64 (i : Int) ∧ v6 = .slice (some ⟨G, 0, none⟩) (trl D n k ++ (addc D (p : Int) i).map fun v => nrm (vx, v)).length n ∧ Hid (OwnsP wq G v6 (trl D n k ++ (addc D (p : Int) i).map fun v => nrm (vx, v))) ∧ Hid (Owns wq Lb v7 (lin D n k ++ addc D (p : Int) i)) ∧ Hid (Below w.heap.size w wq) ∧ Hid (Lb < wq.heap.size)) (fun _ _ _ _ q _ => n - (intOf q).toNat)
      case atStart => exact ⟨0, Nat.zero_le _, rfl, e60, by rw [e60]; exact HP0, HL0, HB, HLr⟩
      case round =>
        clear HP0 HL0 HB HLr e60 hc7
        obtain ⟨i, hi, rfl, rfl, HP, HL, HB, HLr⟩ := hrel
        by_cases hil : i < n
        · have hil' : (i : Int) < (n : Int) := by omega
          obtain ⟨b, off, z, rfl, HZ, -, -, hcz⟩ := (HS.out.below HB.out).elem (k := i) (by rw [← HNz.out]; exact hil)
          have HZd : Hid (D i = z) := by rw [HD.out]; exact HZ.out.symm
          obtain ⟨tl, Htl⟩ : ∃ tl, Hid (tl = (trl D n k ++ (addc D (p : Int) i).map fun v => nrm (vx, v)).length) := ⟨_, rfl⟩
          rw [← Htl.out] at HP ⊢
          by_cases hzp : z = (p : Int)
          · have hb : (z == (p : Int)) = true := beq_iff_eq.2 hzp
            obtain ⟨i1, Hi1⟩ : ∃ i1 : Nat, Hid (i1 = i + 1) := ⟨_, rfl⟩
            have hi1 : (i : Int) + 1 = (i1 : Int) := by have := Hi1.out; omega
            have HA : Hid (addc D (p : Int) (i + 1) = addc D (p : Int) i ++ [(i1 : Int)]) := by
              show _ = _
              rw [addc_succ, if_pos (by rw [HZd.out]; exact hzp), hi1]
            have hle := line_len (D := D) (n := n) (k := k) (i := i + 1) (by omega)
            rw [← Hpp.out, HA.out] at hle
            have hlen2 : (lin D n k ++ addc D (p : Int) i).length ≤ n := by
              simp only [List.length_append, List.length_cons, List.length_nil] at hle ⊢; omega
            have htl : tl + 1 ≤ n := by
              have := trl_line D n k
              rw [Htl.out, List.length_append, List.length_map]
              rw [List.length_append] at hlen2
              omega
            obtain ⟨mn, Hmn⟩ : ∃ mn : Int, Hid (mn = min vx (i1 : Int)) := ⟨_, rfl⟩
            obtain ⟨mx, Hmx⟩ : ∃ mx : Int, Hid (mx = max vx (i1 : Int)) := ⟨_, rfl⟩
            obtain ⟨W, HW⟩ : ∃ W, Hid (W = wr.alloc (.cells #[.int .i64 mn, .int .i64 mx] 34)) := ⟨_, rfl⟩
            have HE : Hid (Calls Try.prog 28 #[.int .i64 vx, .int .i64 (i1 : Int)] wr fun e w' => e = .returned (.agg #[.int .i64 mn, .int .i64 mx]) ∧ w' = W) := by rw [HW.out, Hmn.out, Hmx.out]; exact edgeOf_at vx i1 wr
            have HBW : Hid (Below wr.heap.size wr W) := by rw [HW.out]; exact (Below.refl _ _).alloc (Nat.le_refl _) _
            have HPW : Hid (OwnsP W G (.slice (some ⟨G, 0, none⟩) tl n) (trl D n k ++ (addc D (p : Int) i).map fun v => nrm (vx, v))) := HP.out.below HBW.out
            have HLW : Hid (Owns W Lb u7 (lin D n k ++ addc D (p : Int) i)) := HL.out.below HBW.out
            have HBwW : Hid (Below w.heap.size w W) := HB.out.trans (HBW.out.mono HB.out.size)
            have HLsW : Hid (Lb < W.heap.size) := Nat.lt_of_lt_of_le HLr.out HBW.out.size
            have HGs : Hid (G < W.heap.size) := Nat.lt_trans HGL.out HLsW.out
            clear HP HL HB HLr HBW hle
            go_wp2_with fail
            refine HE.out.mono ?_
            rintro e w9 ⟨rfl, hw9⟩
            obtain rfl : W = w9 := hw9.symm
            clear hw9 HE
            go_wp2_with (at_builtin; refine append_pairF (x := mn) (y := mx) rfl _ _ rfl rfl rfl rfl HPW.out Htl.out htl HGs.out ?_)
            intro w8 hP8 hU8 hB8
            have HP8 : Hid (OwnsP w8 G (.slice (some ⟨G, 0, none⟩) (tl + 1) n) (trl D n k ++ (addc D (p : Int) (i + 1)).map fun v => nrm (vx, v))) := by
              rw [HA.out, List.map_append, List.map_singleton]
              rw [Hmn.out, Hmx.out] at hP8
              exact hP8
            have Htl8 : Hid (tl + 1 = (trl D n k ++ (addc D (p : Int) (i + 1)).map fun v => nrm (vx, v)).length) := by
              show _ = _
              have := Htl.out
              simp only [List.length_append, List.length_map] at this
              rw [HA.out, List.map_append]
              simp only [List.length_append, List.length_map, List.length_cons, List.length_nil]
              omega
            have HV8 : Hid (w8.ownsRow Lb 3 1 u7 ((lin D n k ++ addc D (p : Int) i).map (Value.int .i64)).length ((lin D n k ++ addc D (p : Int) i).map (Value.int .i64))) := vals_of_owns (HLW.out.butGv hU8 HGL.out)
            have HB8 : Hid (Below w.heap.size w w8) := HBwW.out.trans (hB8.mono HwG.out)
            have HL8 : Hid (Lb < w8.heap.size) := Nat.lt_of_lt_of_le HLsW.out hB8.size
            have Hln2 : Hid ((lin D n k ++ addc D (p : Int) i).length ≤ n) := hlen2
            clear hP8 hU8 hB8 HPW HLW HBwW HLsW HGs hlen2 htl
            go_wp2_with (at_builtin; refine append_one elem_int (x := .int .i64 (i1 : Int)) rfl _ _ rfl rfl rfl rfl HV8.out rfl ?c1 ?c2 ?c3 ?_)
            case c1 => rw [List.length_map]; unfold maxLen; have := Hln2.out; omega
            case c2 => rw [List.length_map]; have := Hln2.out; omega
            case c3 => exact Nat.le_of_lt HL8.out
            intro v' w10 hC hBc hKc
            have HLn : Hid (Owns w10 Lb v' (lin D n k ++ addc D (p : Int) (i + 1))) := by
              rw [HA.out, ← List.append_assoc]
              refine owns_of_vals ?_
              simpa using hC
            have HPn : Hid (OwnsP w10 G (.slice (some ⟨G, 0, none⟩) (tl + 1) n) (trl D n k ++ (addc D (p : Int) (i + 1)).map fun v => nrm (vx, v))) := ownsRow_blocks HP8.out (fun q hq => by
              have : G = q := by simpa [Value.ownBlock] using hq
              subst this
              exact hBc.block G HGL.out)
            have HBn : Hid (Below w.heap.size w w10) := HB8.out.trans (hBc.mono HwL.out)
            have HLsn : Hid (Lb < w10.heap.size) := Nat.lt_of_lt_of_le HL8.out hBc.size
            clear hC hBc hKc HV8 HP8 HB8 HL8
            go_wp2
            go_roundw
            case rel => exact ⟨i + 1, by omega, by go_num, by rw [Htl8.out], HPn, HLn, HBn, HLsn⟩
            case measure => simp [intOf]; omega
          · have hb : (z == (p : Int)) = false := beq_eq_false_iff_ne.2 hzp
            have HA : Hid (addc D (p : Int) (i + 1) = addc D (p : Int) i) := by
              show _ = _
              rw [addc_succ, if_neg (by rw [HZd.out]; exact hzp), List.append_nil]
            go_wp2
            go_roundw
            case rel => exact ⟨i + 1, by omega, by go_num, by rw [HA.out, Htl.out], by rw [HA.out]; exact HP, by rw [HA.out]; exact HL, HB, HLr⟩
            case measure => simp [intOf]; omega
        · obtain rfl : i = n := by omega
          have HTk : Hid (trl D i (k + 1) = trl D i k ++ (addc D (p : Int) i).map fun v => nrm (vx, v)) := by
            show _ = _
            rw [trl, ← Hpp.out, ← Hvx.out]
          have HLk : Hid (lin D i (k + 1) = lin D i k ++ addc D (p : Int) i) := by
            show _ = _
            rw [lin, ← Hpp.out]
          go_wp2
          go_roundw
          case rel => exact ⟨k + 1, p + 1, by omega, by show _ = _; rw [Hp.out], by go_num, by rw [HTk.out], by rw [HTk.out]; exact HP, by rw [HLk.out]; exact HL, HB, HLr⟩
          case measure => simp [intOf]; omega
    · obtain rfl : k = n := by omega
      have hpn : ¬ (p : Int) ≤ (k : Int) := by have := Hp.out; omega
      have hTl := trl_len HLo.out
      have HIO := inOrder_at HSC (.slice (some ⟨G, 0, none⟩) (trl D k k).length k) (trl D k k) wr HP.out (by rw [hTl]; omega) (Nat.le_of_lt (Nat.lt_trans HGL.out HLr.out))
      clear hTl
      go_wp2_with fail
      refine HIO.mono ?_
      rintro e w8 ⟨rfl, X, HX1, HX2, HX3⟩
      go_wp2
      go_ret2
      exact ⟨_, X, rfl, HX1, HX2.out.mono HwG.out, HB.out.trans (HX3.out.mono HwG.out)⟩
end Go.Proofs.Ytihafckdaecgkaa
