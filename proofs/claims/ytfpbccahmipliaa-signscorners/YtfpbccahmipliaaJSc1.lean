/-
  The law ferlaw.SignsCorners: the first one is a matrix.
-/
import Derived.Test.YtfpbccahmipliaaJOfn
import Derived.Lib.SliceRun
namespace Go.Proofs.Ytfpbccahmipliaa
open Go.RowKit

set_option maxHeartbeats 40000000 in
set_option maxRecDepth 100000 in
theorem scor_one (a c t : Option Addr) (n N q ca cc ct : Nat) (A : Nat → Nat → Int) (ks ts : List (List Int)) (w : World) (hs : TableX w a (tz n n A)) (p : Sg n A) (hc : Table w c ks) (ht : Table w t ts) (hN : N = ks.length) (hq : q = ts.length) (hk : ks.length ≤ 17592186044416) (hr : ts.length ≤ 17592186044416) :
    Calls Try.prog 4 #[.slice a n ca, .slice c N cc, .slice t q ct] w fun e w' => e = .returned (.bool true) ∧ Below w.heap.size w w' := by
  have FC : Hid (∀ W, Below w.heap.size w W → Table W c ks) := fun W hW => hc.below hW
  have FT : Hid (∀ W, Below w.heap.size w W → Table W t ts) := fun W hW => ht.below hW
  have HNl : Hid (N = ks.length) := hN
  have HQl : Hid (q = ts.length) := hq
  have HLk : Hid (ks.length ≤ 17592186044416) := hk
  have HLt : Hid (ts.length ≤ 17592186044416) := hr
  have hNb : N ≤ 17592186044416 := by omega
  have hqb : q ≤ 17592186044416 := by omega
  have HB0 : Hid (Below w.heap.size w w) := Below.refl _ _
  clear hc ht hN hq hk hr
  have FA : Hid (∀ W, Below w.heap.size w W → TableX W a (tz n n A)) := fun W hW => hs.below hW
  have HPa : Hid (Sg n A) := p
  have n1 := p.n1
  have n7 := p.n7
  clear hs p
  obtain ⟨M, HM⟩ : ∃ M, Hid (M = n + 1) := ⟨_, rfl⟩
  have hM8 : M ≤ 8 := by rw [HM.out]; omega
  go_enter Try.func4, Try.ntmps4
  have HC : Hid (Calls Try.prog 14 #[.slice a n ca] w fun e w' => ∃ g k, e = .returned (.tuple #[.slice (some ⟨g, 0, none⟩) M k, .int .i64 0]) ∧ Hid (Table w' (some ⟨g, 0, none⟩) (tz M M (cor A))) ∧ Hid (Below w.heap.size w w')) := Corner_use a n ca M A w (FA.out w HB0.out).table HPa.out HM.out
  go_wp2_with fail
  refine HC.out.mono ?_
  rintro e w1 ⟨ga, ka, rfl, HTa, Hb⟩
  clear HC
  have HB1 : Hid (Below w.heap.size w w1) := HB0.out.trans (Hb.out.mono HB0.out.size)
  have HA1 : Hid (∀ W, Below w1.heap.size w1 W → Table W (some ⟨ga, 0, none⟩) (tz M M (cor A))) := fun W hW => HTa.out.below hW
  clear Hb HB0
  clear HTa
  have HC : Hid (Calls Try.prog 15 #[.slice a n ca] w1 fun e w' => ∃ ay cy, e = .returned (.tuple #[.slice ay n cy, .int .i64 0]) ∧ Hid (Table w' ay (tri n A)) ∧ Hid (Below w1.heap.size w1 w')) := Triangle_use a n ca A w1 (FA.out w1 HB1.out).table HPa.out
  go_wp2_with fail
  refine HC.out.mono ?_
  rintro e w2 ⟨ab, kb, rfl, HTb, Hb⟩
  clear HC
  have HB2 : Hid (Below w.heap.size w w2) := HB1.out.trans (Hb.out.mono HB1.out.size)
  have HA2 : Hid (∀ W, Below w2.heap.size w2 W → Table W (some ⟨ga, 0, none⟩) (tz M M (cor A))) := futL HA1.out Hb.out
  clear HA1
  have HD2 : Hid (∀ W, Below w2.heap.size w2 W → Table W ab (tri n A)) := fun W hW => HTb.out.below hW
  clear Hb HB1
  clear HTb
  have HC : Hid (Calls Try.prog 9 #[.slice a n ca] w2 fun e w' => e = .returned (.bool true) ∧ Hid (Below w2.heap.size w2 w')) := Signs_sq _ n _ A w2 true (FA.out w2 HB2.out).table (by omega) ⟨(fun _ => HPa.out), (fun _ => rfl)⟩
  go_wp2_with fail
  refine HC.out.mono ?_
  rintro e w3 ⟨rfl, Hb⟩
  clear HC
  have HB3 : Hid (Below w.heap.size w w3) := HB2.out.trans (Hb.out.mono HB2.out.size)
  have HA3 : Hid (∀ W, Below w3.heap.size w3 W → Table W (some ⟨ga, 0, none⟩) (tz M M (cor A))) := futL HA2.out Hb.out
  have HD3 : Hid (∀ W, Below w3.heap.size w3 W → Table W ab (tri n A)) := futL HD2.out Hb.out
  clear HA2 HD2
  clear Hb HB2
  have HC : Hid (Calls Try.prog 11 #[.slice a n ca] w3 fun e w' => ∃ g r, e = .returned (.slice (some ⟨g, 0, none⟩) M r) ∧ Hid (Table w' (some ⟨g, 0, none⟩) (tz M M (cor A))) ∧ Hid (Below w3.heap.size w3 w')) := Corners_use _ n _ M A w3 (FA.out w3 HB3.out) HPa.out HM.out
  go_wp2_with fail
  refine HC.out.mono ?_
  rintro e w4 ⟨ge, ke, rfl, HTe, Hb⟩
  clear HC
  have HB4 : Hid (Below w.heap.size w w4) := HB3.out.trans (Hb.out.mono HB3.out.size)
  have HA4 : Hid (∀ W, Below w4.heap.size w4 W → Table W (some ⟨ga, 0, none⟩) (tz M M (cor A))) := futL HA3.out Hb.out
  have HD4 : Hid (∀ W, Below w4.heap.size w4 W → Table W ab (tri n A)) := futL HD3.out Hb.out
  clear HA3 HD3
  have HE4 : Hid (∀ W, Below w4.heap.size w4 W → Table W (some ⟨ge, 0, none⟩) (tz M M (cor A))) := fun W hW => HTe.out.below hW
  clear Hb HB3
  clear HTe
  have HC : Hid (Calls Try.prog 12 #[.slice (some ⟨ga, 0, none⟩) M ka, .int .i64 0, .slice (some ⟨ge, 0, none⟩) M ke, .int .i64 0] w4 fun e w' => e = .returned (.bool true) ∧ Hid (Below w4.heap.size w4 w')) := table_same _ _ _ _ M w4 _ (HA4.out w4 (Below.refl _ _)) (HE4.out w4 (Below.refl _ _)) (by rw [tz_len]) (by rw [tz_len]; omega)
  go_wp2_with fail
  refine HC.out.mono ?_
  rintro e w5 ⟨rfl, Hb⟩
  clear HC
  have HB5 : Hid (Below w.heap.size w w5) := HB4.out.trans (Hb.out.mono HB4.out.size)
  have HA5 : Hid (∀ W, Below w5.heap.size w5 W → Table W (some ⟨ga, 0, none⟩) (tz M M (cor A))) := futL HA4.out Hb.out
  have HD5 : Hid (∀ W, Below w5.heap.size w5 W → Table W ab (tri n A)) := futL HD4.out Hb.out
  have HE5 : Hid (∀ W, Below w5.heap.size w5 W → Table W (some ⟨ge, 0, none⟩) (tz M M (cor A))) := futL HE4.out Hb.out
  clear HA4 HD4 HE4
  clear Hb HB4
  clear HA5 HE5
  have HC : Hid (Calls Try.prog 16 #[.slice a n ca] w5 fun e w' => ∃ ay cy, e = .returned (.slice ay n cy) ∧ Hid (Table w' ay (tri n A)) ∧ Hid (Below w5.heap.size w5 w')) := RTriangle_use _ n _ A w5 (FA.out w5 HB5.out).table HPa.out
  go_wp2_with fail
  refine HC.out.mono ?_
  rintro e w6 ⟨af, kf, rfl, HTf, Hb⟩
  clear HC
  have HB6 : Hid (Below w.heap.size w w6) := HB5.out.trans (Hb.out.mono HB5.out.size)
  have HD6 : Hid (∀ W, Below w6.heap.size w6 W → Table W ab (tri n A)) := futL HD5.out Hb.out
  clear HD5
  have HG6 : Hid (∀ W, Below w6.heap.size w6 W → Table W af (tri n A)) := fun W hW => HTf.out.below hW
  clear Hb HB5
  clear HTf
  have HC : Hid (Calls Try.prog 12 #[.slice ab n kb, .int .i64 0, .slice af n kf, .int .i64 0] w6 fun e w' => e = .returned (.bool true) ∧ Hid (Below w6.heap.size w6 w')) := table_same _ _ _ _ n w6 _ (HD6.out w6 (Below.refl _ _)) (HG6.out w6 (Below.refl _ _)) (by rw [tri_len]) (by rw [tri_len]; omega)
  go_wp2_with fail
  refine HC.out.mono ?_
  rintro e w7 ⟨rfl, Hb⟩
  clear HC
  have HB7 : Hid (Below w.heap.size w w7) := HB6.out.trans (Hb.out.mono HB6.out.size)
  have HD7 : Hid (∀ W, Below w7.heap.size w7 W → Table W ab (tri n A)) := futL HD6.out Hb.out
  have HG7 : Hid (∀ W, Below w7.heap.size w7 W → Table W af (tri n A)) := futL HG6.out Hb.out
  clear HD6 HG6
  clear Hb HB6
  clear HD7 HG7
  by_cases hoc : OcB ks
  · have HOc : Hid (OcB ks) := hoc
    obtain ⟨k, HNk⟩ : ∃ k, Hid (N = k + 1) := ⟨N - 1, by show _ = _; have := hoc.n2; have := HNl.out; omega⟩
    have hN8 : N ≤ 8 := by rw [HNl.out]; exact hoc.n8
    have hk7 : k ≤ 7 := by have := HNk.out; omega
    have HFd : Hid (FcOk ks ↔ Sg k (dif (box ks)) ∧ tz N N (cor (dif (box ks))) = ks) := by rw [HNk.out]; exact fc_dif hoc (by rw [← HNl.out]; exact HNk.out)
    clear hoc
    by_cases hsu : Sg k (dif (box ks))
    · have HSu : Hid (Sg k (dif (box ks))) := hsu
      by_cases hru : tz N N (cor (dif (box ks))) = ks
      · have HRu : Hid (tz N N (cor (dif (box ks))) = ks) := hru
        have HFc : Hid (FcOk ks) := HFd.out.2 ⟨hsu, hru⟩
        clear hsu hru HFd
        have HC : Hid (Calls Try.prog 17 #[.slice c N cc] w7 fun e w' => ∃ g, e = .returned (.tuple #[.slice (some ⟨g, 0, none⟩) k k, .int .i64 0]) ∧ Hid (Table w' (some ⟨g, 0, none⟩) (tz k k (dif (box ks)))) ∧ Hid (Below w7.heap.size w7 w')) := FromCorner_yes c N k cc ks w7 (FC.out w7 HB7.out) HNk.out HNl.out HFc.out
        go_wp2_with fail
        refine HC.out.mono ?_
        rintro e w8 ⟨gx, rfl, HTx, Hb⟩
        clear HC
        have HB8 : Hid (Below w.heap.size w w8) := HB7.out.trans (Hb.out.mono HB7.out.size)
        have HX8 : Hid (∀ W, Below w8.heap.size w8 W → Table W (some ⟨gx, 0, none⟩) (tz k k (dif (box ks)))) := fun W hW => HTx.out.below hW
        clear Hb HB7
        clear HTx
        have HC : Hid (Calls Try.prog 18 #[.slice c N cc] w8 fun e w' => ∃ g r, e = .returned (.slice (some ⟨g, 0, none⟩) k r) ∧ Hid (TableX w' (some ⟨g, 0, none⟩) (tz k k (dif (box ks)))) ∧ Hid (Below w8.heap.size w8 w')) := OfCorners_use c N k cc ks w8 (FC.out w8 HB8.out) HNk.out HNl.out HOc.out
        go_wp2_with fail
        refine HC.out.mono ?_
        rintro e w9 ⟨gu, ku, rfl, HTu, Hb⟩
        clear HC
        have HB9 : Hid (Below w.heap.size w w9) := HB8.out.trans (Hb.out.mono HB8.out.size)
        have HX9 : Hid (∀ W, Below w9.heap.size w9 W → Table W (some ⟨gx, 0, none⟩) (tz k k (dif (box ks)))) := futL HX8.out Hb.out
        clear HX8
        have HU9 : Hid (∀ W, Below w9.heap.size w9 W → TableX W (some ⟨gu, 0, none⟩) (tz k k (dif (box ks)))) := fun W hW => HTu.out.below hW
        clear Hb HB8
        clear HTu
        have heq : (binOp .eql 22 (.slice (some ⟨gu, 0, none⟩) k ku) (.slice none 0 0)).run Try.prog w9 = .ok (.bool false) w9 := Lib.run_eql_slice_nil w9 22 29 (some ⟨gu, 0, none⟩) k ku 0 0 Try.underlying22
        have HC : Hid (Calls Try.prog 9 #[.slice (some ⟨gu, 0, none⟩) k ku] w9 fun e w' => e = .returned (.bool true) ∧ Hid (Below w9.heap.size w9 w')) := Signs_sq _ k _ (dif (box ks)) w9 true (HU9.out w9 (Below.refl _ _)).table (by omega) ⟨(fun _ => HSu.out), (fun _ => rfl)⟩
        go_wp2_with fail
        refine HC.out.mono ?_
        rintro e w10 ⟨rfl, Hb⟩
        clear HC
        have HB10 : Hid (Below w.heap.size w w10) := HB9.out.trans (Hb.out.mono HB9.out.size)
        have HX10 : Hid (∀ W, Below w10.heap.size w10 W → Table W (some ⟨gx, 0, none⟩) (tz k k (dif (box ks)))) := futL HX9.out Hb.out
        have HU10 : Hid (∀ W, Below w10.heap.size w10 W → TableX W (some ⟨gu, 0, none⟩) (tz k k (dif (box ks)))) := futL HU9.out Hb.out
        clear HX9 HU9
        clear Hb HB9
        clear heq
        have HC : Hid (Calls Try.prog 11 #[.slice (some ⟨gu, 0, none⟩) k ku] w10 fun e w' => ∃ g r, e = .returned (.slice (some ⟨g, 0, none⟩) N r) ∧ Hid (Table w' (some ⟨g, 0, none⟩) (tz N N (cor (dif (box ks))))) ∧ Hid (Below w10.heap.size w10 w')) := Corners_use _ k _ N (dif (box ks)) w10 (HU10.out w10 (Below.refl _ _)) HSu.out HNk.out
        go_wp2_with fail
        refine HC.out.mono ?_
        rintro e w11 ⟨gz, kz, rfl, HTz, Hb⟩
        clear HC
        have HB11 : Hid (Below w.heap.size w w11) := HB10.out.trans (Hb.out.mono HB10.out.size)
        have HX11 : Hid (∀ W, Below w11.heap.size w11 W → Table W (some ⟨gx, 0, none⟩) (tz k k (dif (box ks)))) := futL HX10.out Hb.out
        have HU11 : Hid (∀ W, Below w11.heap.size w11 W → TableX W (some ⟨gu, 0, none⟩) (tz k k (dif (box ks)))) := futL HU10.out Hb.out
        clear HX10 HU10
        have HZ11 : Hid (∀ W, Below w11.heap.size w11 W → Table W (some ⟨gz, 0, none⟩) (tz N N (cor (dif (box ks))))) := fun W hW => HTz.out.below hW
        clear Hb HB10
        clear HTz
        have HC : Hid (Calls Try.prog 19 #[.slice (some ⟨gz, 0, none⟩) N kz, .slice c N cc] w11 fun e w' => e = .returned (.bool true) ∧ Hid (Below w11.heap.size w11 w')) := Rows_any _ _ N N _ _ (tz N N (cor (dif (box ks)))) ks w11 true (HZ11.out w11 (Below.refl _ _)) (FC.out w11 HB11.out) (by rw [tz_len]) HNl.out (by rw [tz_len]; omega) ⟨(fun _ => HRu.out), (fun _ => rfl)⟩
        go_wp2_with fail
        refine HC.out.mono ?_
        rintro e w12 ⟨rfl, Hb⟩
        clear HC
        have HB12 : Hid (Below w.heap.size w w12) := HB11.out.trans (Hb.out.mono HB11.out.size)
        have HX12 : Hid (∀ W, Below w12.heap.size w12 W → Table W (some ⟨gx, 0, none⟩) (tz k k (dif (box ks)))) := futL HX11.out Hb.out
        have HU12 : Hid (∀ W, Below w12.heap.size w12 W → TableX W (some ⟨gu, 0, none⟩) (tz k k (dif (box ks)))) := futL HU11.out Hb.out
        have HZ12 : Hid (∀ W, Below w12.heap.size w12 W → Table W (some ⟨gz, 0, none⟩) (tz N N (cor (dif (box ks))))) := futL HZ11.out Hb.out
        clear HX11 HU11 HZ11
        clear Hb HB11
        clear HZ12
        have HC : Hid (Calls Try.prog 12 #[.slice (some ⟨gx, 0, none⟩) k k, .int .i64 0, .slice (some ⟨gu, 0, none⟩) k ku, .int .i64 0] w12 fun e w' => e = .returned (.bool true) ∧ Hid (Below w12.heap.size w12 w')) := table_same _ _ _ _ k w12 _ (HX12.out w12 (Below.refl _ _)) (HU12.out w12 (Below.refl _ _)).table (by rw [tz_len]) (by rw [tz_len]; omega)
        go_wp2_with fail
        refine HC.out.mono ?_
        rintro e w13 ⟨rfl, Hb⟩
        clear HC
        have HB13 : Hid (Below w.heap.size w w13) := HB12.out.trans (Hb.out.mono HB12.out.size)
        have HX13 : Hid (∀ W, Below w13.heap.size w13 W → Table W (some ⟨gx, 0, none⟩) (tz k k (dif (box ks)))) := futL HX12.out Hb.out
        have HU13 : Hid (∀ W, Below w13.heap.size w13 W → TableX W (some ⟨gu, 0, none⟩) (tz k k (dif (box ks)))) := futL HU12.out Hb.out
        clear HX12 HU12
        clear Hb HB12
        clear HX13 HU13
        by_cases hsm : 1 ≤ q ∧ q ≤ 7
        · obtain ⟨hq1, hq7⟩ := hsm
          have hq1' : ¬ (q : Int) < 1 := by omega
          have hq7' : ¬ (7 : Int) < (q : Int) := by omega
          by_cases hsv : Sg q (otr ts)
          · have HSv : Hid (Sg q (otr ts)) := hsv
            by_cases hrv : tri q (otr ts) = ts
            · have HRv : Hid (tri q (otr ts) = ts) := hrv
              have HFt : Hid (FtOk ts) := (ft_otr ts).2 (by rw [← HQl.out]; exact ⟨hsv, hrv⟩)
              clear hsv hrv
              have HC : Hid (Calls Try.prog 20 #[.slice t q ct] w13 fun e w' => ∃ g, e = .returned (.tuple #[.slice (some ⟨g, 0, none⟩) q q, .int .i64 0]) ∧ Hid (Table w' (some ⟨g, 0, none⟩) (tz q q (otr ts))) ∧ Hid (Below w13.heap.size w13 w')) := FromTriangle_yes t q ct ts w13 (FT.out w13 HB13.out) HQl.out HFt.out
              go_wp2_with fail
              refine HC.out.mono ?_
              rintro e w14 ⟨gy, rfl, HTy, Hb⟩
              clear HC
              have HB14 : Hid (Below w.heap.size w w14) := HB13.out.trans (Hb.out.mono HB13.out.size)
              have HY14 : Hid (∀ W, Below w14.heap.size w14 W → Table W (some ⟨gy, 0, none⟩) (tz q q (otr ts))) := fun W hW => HTy.out.below hW
              clear Hb HB13
              clear HTy
              have HC : Hid (Calls Try.prog 21 #[.slice t q ct] w14 fun e w' => ∃ g k, e = .returned (.slice (some ⟨g, 0, none⟩) q k) ∧ Hid (Table w' (some ⟨g, 0, none⟩) (tz q q (otr ts))) ∧ Hid (Below w14.heap.size w14 w')) := OfTriangle_use t q ct ts w14 (FT.out w14 HB14.out) HQl.out hq1 hq7
              go_wp2_with fail
              refine HC.out.mono ?_
              rintro e w15 ⟨gv, kv, rfl, HTv, Hb⟩
              clear HC
              have HB15 : Hid (Below w.heap.size w w15) := HB14.out.trans (Hb.out.mono HB14.out.size)
              have HY15 : Hid (∀ W, Below w15.heap.size w15 W → Table W (some ⟨gy, 0, none⟩) (tz q q (otr ts))) := futL HY14.out Hb.out
              clear HY14
              have HV15 : Hid (∀ W, Below w15.heap.size w15 W → Table W (some ⟨gv, 0, none⟩) (tz q q (otr ts))) := fun W hW => HTv.out.below hW
              clear Hb HB14
              clear HTv
              have HC : Hid (Calls Try.prog 9 #[.slice (some ⟨gv, 0, none⟩) q kv] w15 fun e w' => e = .returned (.bool true) ∧ Hid (Below w15.heap.size w15 w')) := Signs_sq _ q _ (otr ts) w15 true (HV15.out w15 (Below.refl _ _)) (by omega) ⟨(fun _ => HSv.out), (fun _ => rfl)⟩
              go_wp2_with fail
              refine HC.out.mono ?_
              rintro e w16 ⟨rfl, Hb⟩
              clear HC
              have HB16 : Hid (Below w.heap.size w w16) := HB15.out.trans (Hb.out.mono HB15.out.size)
              have HY16 : Hid (∀ W, Below w16.heap.size w16 W → Table W (some ⟨gy, 0, none⟩) (tz q q (otr ts))) := futL HY15.out Hb.out
              have HV16 : Hid (∀ W, Below w16.heap.size w16 W → Table W (some ⟨gv, 0, none⟩) (tz q q (otr ts))) := futL HV15.out Hb.out
              clear HY15 HV15
              clear Hb HB15
              have HC : Hid (Calls Try.prog 16 #[.slice (some ⟨gv, 0, none⟩) q kv] w16 fun e w' => ∃ ay cy, e = .returned (.slice ay q cy) ∧ Hid (Table w' ay (tri q (otr ts))) ∧ Hid (Below w16.heap.size w16 w')) := RTriangle_use _ q _ (otr ts) w16 (HV16.out w16 (Below.refl _ _)) HSv.out
              go_wp2_with fail
              refine HC.out.mono ?_
              rintro e w17 ⟨az, cz, rfl, HTz, Hb⟩
              clear HC
              have HB17 : Hid (Below w.heap.size w w17) := HB16.out.trans (Hb.out.mono HB16.out.size)
              have HY17 : Hid (∀ W, Below w17.heap.size w17 W → Table W (some ⟨gy, 0, none⟩) (tz q q (otr ts))) := futL HY16.out Hb.out
              have HV17 : Hid (∀ W, Below w17.heap.size w17 W → Table W (some ⟨gv, 0, none⟩) (tz q q (otr ts))) := futL HV16.out Hb.out
              clear HY16 HV16
              have HZ17 : Hid (∀ W, Below w17.heap.size w17 W → Table W az (tri q (otr ts))) := fun W hW => HTz.out.below hW
              clear Hb HB16
              clear HTz
              have HC : Hid (Calls Try.prog 19 #[.slice az q cz, .slice t q ct] w17 fun e w' => e = .returned (.bool true) ∧ Hid (Below w17.heap.size w17 w')) := Rows_any _ _ q q _ _ (tri q (otr ts)) ts w17 true (HZ17.out w17 (Below.refl _ _)) (FT.out w17 HB17.out) (by rw [tri_len]) HQl.out (by rw [tri_len]; omega) ⟨(fun _ => HRv.out), (fun _ => rfl)⟩
              go_wp2_with fail
              refine HC.out.mono ?_
              rintro e w18 ⟨rfl, Hb⟩
              clear HC
              have HB18 : Hid (Below w.heap.size w w18) := HB17.out.trans (Hb.out.mono HB17.out.size)
              have HY18 : Hid (∀ W, Below w18.heap.size w18 W → Table W (some ⟨gy, 0, none⟩) (tz q q (otr ts))) := futL HY17.out Hb.out
              have HV18 : Hid (∀ W, Below w18.heap.size w18 W → Table W (some ⟨gv, 0, none⟩) (tz q q (otr ts))) := futL HV17.out Hb.out
              have HZ18 : Hid (∀ W, Below w18.heap.size w18 W → Table W az (tri q (otr ts))) := futL HZ17.out Hb.out
              clear HY17 HV17 HZ17
              clear Hb HB17
              clear HZ18
              have HC : Hid (Calls Try.prog 12 #[.slice (some ⟨gy, 0, none⟩) q q, .int .i64 0, .slice (some ⟨gv, 0, none⟩) q kv, .int .i64 0] w18 fun e w' => e = .returned (.bool true) ∧ Hid (Below w18.heap.size w18 w')) := table_same _ _ _ _ q w18 _ (HY18.out w18 (Below.refl _ _)) (HV18.out w18 (Below.refl _ _)) (by rw [tz_len]) (by rw [tz_len]; omega)
              go_wp2_with fail
              refine HC.out.mono ?_
              rintro e w19 ⟨rfl, Hb⟩
              clear HC
              have HB19 : Hid (Below w.heap.size w w19) := HB18.out.trans (Hb.out.mono HB18.out.size)
              have HY19 : Hid (∀ W, Below w19.heap.size w19 W → Table W (some ⟨gy, 0, none⟩) (tz q q (otr ts))) := futL HY18.out Hb.out
              have HV19 : Hid (∀ W, Below w19.heap.size w19 W → Table W (some ⟨gv, 0, none⟩) (tz q q (otr ts))) := futL HV18.out Hb.out
              clear HY18 HV18
              clear Hb HB18
              go_wp2
              go_ret
              exact ⟨by first | rfl | simp, HB19.out⟩
            · have HRv : Hid (¬ tri q (otr ts) = ts) := hrv
              have HFt : Hid (¬ FtOk ts) := fun h => hrv (by have := ((ft_otr ts).1 h).2; rw [← HQl.out] at this; exact this)
              clear hsv hrv
              have HC : Hid (Calls Try.prog 20 #[.slice t q ct] w13 fun e w' => e = .returned (.tuple #[.slice none 0 0, .int .i64 1]) ∧ Hid (Below w13.heap.size w13 w')) := FromTriangle_not t q ct ts w13 (FT.out w13 HB13.out) HQl.out HLt.out HFt.out
              go_wp2_with fail
              refine HC.out.mono ?_
              rintro e w14 ⟨rfl, Hb⟩
              clear HC
              have HB14 : Hid (Below w.heap.size w w14) := HB13.out.trans (Hb.out.mono HB13.out.size)
              clear Hb HB13
              have HC : Hid (Calls Try.prog 21 #[.slice t q ct] w14 fun e w' => ∃ g k, e = .returned (.slice (some ⟨g, 0, none⟩) q k) ∧ Hid (Table w' (some ⟨g, 0, none⟩) (tz q q (otr ts))) ∧ Hid (Below w14.heap.size w14 w')) := OfTriangle_use t q ct ts w14 (FT.out w14 HB14.out) HQl.out hq1 hq7
              go_wp2_with fail
              refine HC.out.mono ?_
              rintro e w15 ⟨gv, kv, rfl, HTv, Hb⟩
              clear HC
              have HB15 : Hid (Below w.heap.size w w15) := HB14.out.trans (Hb.out.mono HB14.out.size)
              have HV15 : Hid (∀ W, Below w15.heap.size w15 W → Table W (some ⟨gv, 0, none⟩) (tz q q (otr ts))) := fun W hW => HTv.out.below hW
              clear Hb HB14
              clear HTv
              have HC : Hid (Calls Try.prog 9 #[.slice (some ⟨gv, 0, none⟩) q kv] w15 fun e w' => e = .returned (.bool true) ∧ Hid (Below w15.heap.size w15 w')) := Signs_sq _ q _ (otr ts) w15 true (HV15.out w15 (Below.refl _ _)) (by omega) ⟨(fun _ => HSv.out), (fun _ => rfl)⟩
              go_wp2_with fail
              refine HC.out.mono ?_
              rintro e w16 ⟨rfl, Hb⟩
              clear HC
              have HB16 : Hid (Below w.heap.size w w16) := HB15.out.trans (Hb.out.mono HB15.out.size)
              have HV16 : Hid (∀ W, Below w16.heap.size w16 W → Table W (some ⟨gv, 0, none⟩) (tz q q (otr ts))) := futL HV15.out Hb.out
              clear HV15
              clear Hb HB15
              have HC : Hid (Calls Try.prog 16 #[.slice (some ⟨gv, 0, none⟩) q kv] w16 fun e w' => ∃ ay cy, e = .returned (.slice ay q cy) ∧ Hid (Table w' ay (tri q (otr ts))) ∧ Hid (Below w16.heap.size w16 w')) := RTriangle_use _ q _ (otr ts) w16 (HV16.out w16 (Below.refl _ _)) HSv.out
              go_wp2_with fail
              refine HC.out.mono ?_
              rintro e w17 ⟨az, cz, rfl, HTz, Hb⟩
              clear HC
              have HB17 : Hid (Below w.heap.size w w17) := HB16.out.trans (Hb.out.mono HB16.out.size)
              have HV17 : Hid (∀ W, Below w17.heap.size w17 W → Table W (some ⟨gv, 0, none⟩) (tz q q (otr ts))) := futL HV16.out Hb.out
              clear HV16
              have HZ17 : Hid (∀ W, Below w17.heap.size w17 W → Table W az (tri q (otr ts))) := fun W hW => HTz.out.below hW
              clear Hb HB16
              clear HTz
              have HC : Hid (Calls Try.prog 19 #[.slice az q cz, .slice t q ct] w17 fun e w' => e = .returned (.bool false) ∧ Hid (Below w17.heap.size w17 w')) := Rows_any _ _ q q _ _ (tri q (otr ts)) ts w17 false (HZ17.out w17 (Below.refl _ _)) (FT.out w17 HB17.out) (by rw [tri_len]) HQl.out (by rw [tri_len]; omega) ⟨(fun h => by cases h), (fun h => absurd h HRv.out)⟩
              go_wp2_with fail
              refine HC.out.mono ?_
              rintro e w18 ⟨rfl, Hb⟩
              clear HC
              have HB18 : Hid (Below w.heap.size w w18) := HB17.out.trans (Hb.out.mono HB17.out.size)
              have HV18 : Hid (∀ W, Below w18.heap.size w18 W → Table W (some ⟨gv, 0, none⟩) (tz q q (otr ts))) := futL HV17.out Hb.out
              have HZ18 : Hid (∀ W, Below w18.heap.size w18 W → Table W az (tri q (otr ts))) := futL HZ17.out Hb.out
              clear HV17 HZ17
              clear Hb HB17
              clear HZ18
              go_wp2
              go_ret
              exact ⟨by first | rfl | simp, HB18.out⟩
          · have HSv : Hid (¬ Sg q (otr ts)) := hsv
            have HFt : Hid (¬ FtOk ts) := fun h => hsv (by have := ((ft_otr ts).1 h).1; rw [← HQl.out] at this; exact this)
            clear hsv
            have HC : Hid (Calls Try.prog 20 #[.slice t q ct] w13 fun e w' => e = .returned (.tuple #[.slice none 0 0, .int .i64 1]) ∧ Hid (Below w13.heap.size w13 w')) := FromTriangle_not t q ct ts w13 (FT.out w13 HB13.out) HQl.out HLt.out HFt.out
            go_wp2_with fail
            refine HC.out.mono ?_
            rintro e w14 ⟨rfl, Hb⟩
            clear HC
            have HB14 : Hid (Below w.heap.size w w14) := HB13.out.trans (Hb.out.mono HB13.out.size)
            clear Hb HB13
            have HC : Hid (Calls Try.prog 21 #[.slice t q ct] w14 fun e w' => ∃ g k, e = .returned (.slice (some ⟨g, 0, none⟩) q k) ∧ Hid (Table w' (some ⟨g, 0, none⟩) (tz q q (otr ts))) ∧ Hid (Below w14.heap.size w14 w')) := OfTriangle_use t q ct ts w14 (FT.out w14 HB14.out) HQl.out hq1 hq7
            go_wp2_with fail
            refine HC.out.mono ?_
            rintro e w15 ⟨gv, kv, rfl, HTv, Hb⟩
            clear HC
            have HB15 : Hid (Below w.heap.size w w15) := HB14.out.trans (Hb.out.mono HB14.out.size)
            have HV15 : Hid (∀ W, Below w15.heap.size w15 W → Table W (some ⟨gv, 0, none⟩) (tz q q (otr ts))) := fun W hW => HTv.out.below hW
            clear Hb HB14
            clear HTv
            have HC : Hid (Calls Try.prog 9 #[.slice (some ⟨gv, 0, none⟩) q kv] w15 fun e w' => e = .returned (.bool false) ∧ Hid (Below w15.heap.size w15 w')) := Signs_sq _ q _ (otr ts) w15 false (HV15.out w15 (Below.refl _ _)) (by omega) ⟨(fun h => by cases h), (fun h => absurd h HSv.out)⟩
            go_wp2_with fail
            refine HC.out.mono ?_
            rintro e w16 ⟨rfl, Hb⟩
            clear HC
            have HB16 : Hid (Below w.heap.size w w16) := HB15.out.trans (Hb.out.mono HB15.out.size)
            have HV16 : Hid (∀ W, Below w16.heap.size w16 W → Table W (some ⟨gv, 0, none⟩) (tz q q (otr ts))) := futL HV15.out Hb.out
            clear HV15
            clear Hb HB15
            go_wp2
            go_ret
            exact ⟨by first | rfl | simp, HB16.out⟩
        · have HFt : Hid (¬ FtOk ts) := fun h => hsm (by have := ((ft_iff ts).1 h).1; have h1 := this.n1; have h7 := this.n7; rw [← HQl.out] at h1 h7; exact ⟨h1, h7⟩)
          by_cases hq1 : q < 1
          · have hq1' : (q : Int) < 1 := by omega
            clear hsm
            have HC : Hid (Calls Try.prog 20 #[.slice t q ct] w13 fun e w' => e = .returned (.tuple #[.slice none 0 0, .int .i64 1]) ∧ Hid (Below w13.heap.size w13 w')) := FromTriangle_not t q ct ts w13 (FT.out w13 HB13.out) HQl.out HLt.out HFt.out
            go_wp2_with fail
            refine HC.out.mono ?_
            rintro e w14 ⟨rfl, Hb⟩
            clear HC
            have HB14 : Hid (Below w.heap.size w w14) := HB13.out.trans (Hb.out.mono HB13.out.size)
            clear Hb HB13
            go_wp2
            go_ret
            exact ⟨by first | rfl | simp, HB14.out⟩
          · have hq1' : ¬ (q : Int) < 1 := by omega
            have hq7' : (7 : Int) < (q : Int) := by omega
            clear hsm
            have HC : Hid (Calls Try.prog 20 #[.slice t q ct] w13 fun e w' => e = .returned (.tuple #[.slice none 0 0, .int .i64 1]) ∧ Hid (Below w13.heap.size w13 w')) := FromTriangle_not t q ct ts w13 (FT.out w13 HB13.out) HQl.out HLt.out HFt.out
            go_wp2_with fail
            refine HC.out.mono ?_
            rintro e w14 ⟨rfl, Hb⟩
            clear HC
            have HB14 : Hid (Below w.heap.size w w14) := HB13.out.trans (Hb.out.mono HB13.out.size)
            clear Hb HB13
            go_wp2
            go_ret
            exact ⟨by first | rfl | simp, HB14.out⟩
      · have HRu : Hid (¬ tz N N (cor (dif (box ks))) = ks) := hru
        have HFc : Hid (¬ FcOk ks) := fun h => hru (HFd.out.1 h).2
        clear hsu hru HFd
        have HC : Hid (Calls Try.prog 17 #[.slice c N cc] w7 fun e w' => e = .returned (.tuple #[.slice none 0 0, .int .i64 1]) ∧ Hid (Below w7.heap.size w7 w')) := FromCorner_not c N cc ks w7 (FC.out w7 HB7.out) HNl.out HLk.out HFc.out
        go_wp2_with fail
        refine HC.out.mono ?_
        rintro e w8 ⟨rfl, Hb⟩
        clear HC
        have HB8 : Hid (Below w.heap.size w w8) := HB7.out.trans (Hb.out.mono HB7.out.size)
        clear Hb HB7
        have HC : Hid (Calls Try.prog 18 #[.slice c N cc] w8 fun e w' => ∃ g r, e = .returned (.slice (some ⟨g, 0, none⟩) k r) ∧ Hid (TableX w' (some ⟨g, 0, none⟩) (tz k k (dif (box ks)))) ∧ Hid (Below w8.heap.size w8 w')) := OfCorners_use c N k cc ks w8 (FC.out w8 HB8.out) HNk.out HNl.out HOc.out
        go_wp2_with fail
        refine HC.out.mono ?_
        rintro e w9 ⟨gu, ku, rfl, HTu, Hb⟩
        clear HC
        have HB9 : Hid (Below w.heap.size w w9) := HB8.out.trans (Hb.out.mono HB8.out.size)
        have HU9 : Hid (∀ W, Below w9.heap.size w9 W → TableX W (some ⟨gu, 0, none⟩) (tz k k (dif (box ks)))) := fun W hW => HTu.out.below hW
        clear Hb HB8
        clear HTu
        have heq : (binOp .eql 22 (.slice (some ⟨gu, 0, none⟩) k ku) (.slice none 0 0)).run Try.prog w9 = .ok (.bool false) w9 := Lib.run_eql_slice_nil w9 22 29 (some ⟨gu, 0, none⟩) k ku 0 0 Try.underlying22
        have HC : Hid (Calls Try.prog 9 #[.slice (some ⟨gu, 0, none⟩) k ku] w9 fun e w' => e = .returned (.bool true) ∧ Hid (Below w9.heap.size w9 w')) := Signs_sq _ k _ (dif (box ks)) w9 true (HU9.out w9 (Below.refl _ _)).table (by omega) ⟨(fun _ => HSu.out), (fun _ => rfl)⟩
        go_wp2_with fail
        refine HC.out.mono ?_
        rintro e w10 ⟨rfl, Hb⟩
        clear HC
        have HB10 : Hid (Below w.heap.size w w10) := HB9.out.trans (Hb.out.mono HB9.out.size)
        have HU10 : Hid (∀ W, Below w10.heap.size w10 W → TableX W (some ⟨gu, 0, none⟩) (tz k k (dif (box ks)))) := futL HU9.out Hb.out
        clear HU9
        clear Hb HB9
        clear heq
        have HC : Hid (Calls Try.prog 11 #[.slice (some ⟨gu, 0, none⟩) k ku] w10 fun e w' => ∃ g r, e = .returned (.slice (some ⟨g, 0, none⟩) N r) ∧ Hid (Table w' (some ⟨g, 0, none⟩) (tz N N (cor (dif (box ks))))) ∧ Hid (Below w10.heap.size w10 w')) := Corners_use _ k _ N (dif (box ks)) w10 (HU10.out w10 (Below.refl _ _)) HSu.out HNk.out
        go_wp2_with fail
        refine HC.out.mono ?_
        rintro e w11 ⟨gz, kz, rfl, HTz, Hb⟩
        clear HC
        have HB11 : Hid (Below w.heap.size w w11) := HB10.out.trans (Hb.out.mono HB10.out.size)
        have HU11 : Hid (∀ W, Below w11.heap.size w11 W → TableX W (some ⟨gu, 0, none⟩) (tz k k (dif (box ks)))) := futL HU10.out Hb.out
        clear HU10
        have HZ11 : Hid (∀ W, Below w11.heap.size w11 W → Table W (some ⟨gz, 0, none⟩) (tz N N (cor (dif (box ks))))) := fun W hW => HTz.out.below hW
        clear Hb HB10
        clear HTz
        have HC : Hid (Calls Try.prog 19 #[.slice (some ⟨gz, 0, none⟩) N kz, .slice c N cc] w11 fun e w' => e = .returned (.bool false) ∧ Hid (Below w11.heap.size w11 w')) := Rows_any _ _ N N _ _ (tz N N (cor (dif (box ks)))) ks w11 false (HZ11.out w11 (Below.refl _ _)) (FC.out w11 HB11.out) (by rw [tz_len]) HNl.out (by rw [tz_len]; omega) ⟨(fun h => by cases h), (fun h => absurd h HRu.out)⟩
        go_wp2_with fail
        refine HC.out.mono ?_
        rintro e w12 ⟨rfl, Hb⟩
        clear HC
        have HB12 : Hid (Below w.heap.size w w12) := HB11.out.trans (Hb.out.mono HB11.out.size)
        have HU12 : Hid (∀ W, Below w12.heap.size w12 W → TableX W (some ⟨gu, 0, none⟩) (tz k k (dif (box ks)))) := futL HU11.out Hb.out
        have HZ12 : Hid (∀ W, Below w12.heap.size w12 W → Table W (some ⟨gz, 0, none⟩) (tz N N (cor (dif (box ks))))) := futL HZ11.out Hb.out
        clear HU11 HZ11
        clear Hb HB11
        clear HZ12
        clear HU12
        by_cases hsm : 1 ≤ q ∧ q ≤ 7
        · obtain ⟨hq1, hq7⟩ := hsm
          have hq1' : ¬ (q : Int) < 1 := by omega
          have hq7' : ¬ (7 : Int) < (q : Int) := by omega
          by_cases hsv : Sg q (otr ts)
          · have HSv : Hid (Sg q (otr ts)) := hsv
            by_cases hrv : tri q (otr ts) = ts
            · have HRv : Hid (tri q (otr ts) = ts) := hrv
              have HFt : Hid (FtOk ts) := (ft_otr ts).2 (by rw [← HQl.out]; exact ⟨hsv, hrv⟩)
              clear hsv hrv
              have HC : Hid (Calls Try.prog 20 #[.slice t q ct] w12 fun e w' => ∃ g, e = .returned (.tuple #[.slice (some ⟨g, 0, none⟩) q q, .int .i64 0]) ∧ Hid (Table w' (some ⟨g, 0, none⟩) (tz q q (otr ts))) ∧ Hid (Below w12.heap.size w12 w')) := FromTriangle_yes t q ct ts w12 (FT.out w12 HB12.out) HQl.out HFt.out
              go_wp2_with fail
              refine HC.out.mono ?_
              rintro e w13 ⟨gy, rfl, HTy, Hb⟩
              clear HC
              have HB13 : Hid (Below w.heap.size w w13) := HB12.out.trans (Hb.out.mono HB12.out.size)
              have HY13 : Hid (∀ W, Below w13.heap.size w13 W → Table W (some ⟨gy, 0, none⟩) (tz q q (otr ts))) := fun W hW => HTy.out.below hW
              clear Hb HB12
              clear HTy
              have HC : Hid (Calls Try.prog 21 #[.slice t q ct] w13 fun e w' => ∃ g k, e = .returned (.slice (some ⟨g, 0, none⟩) q k) ∧ Hid (Table w' (some ⟨g, 0, none⟩) (tz q q (otr ts))) ∧ Hid (Below w13.heap.size w13 w')) := OfTriangle_use t q ct ts w13 (FT.out w13 HB13.out) HQl.out hq1 hq7
              go_wp2_with fail
              refine HC.out.mono ?_
              rintro e w14 ⟨gv, kv, rfl, HTv, Hb⟩
              clear HC
              have HB14 : Hid (Below w.heap.size w w14) := HB13.out.trans (Hb.out.mono HB13.out.size)
              have HY14 : Hid (∀ W, Below w14.heap.size w14 W → Table W (some ⟨gy, 0, none⟩) (tz q q (otr ts))) := futL HY13.out Hb.out
              clear HY13
              have HV14 : Hid (∀ W, Below w14.heap.size w14 W → Table W (some ⟨gv, 0, none⟩) (tz q q (otr ts))) := fun W hW => HTv.out.below hW
              clear Hb HB13
              clear HTv
              have HC : Hid (Calls Try.prog 9 #[.slice (some ⟨gv, 0, none⟩) q kv] w14 fun e w' => e = .returned (.bool true) ∧ Hid (Below w14.heap.size w14 w')) := Signs_sq _ q _ (otr ts) w14 true (HV14.out w14 (Below.refl _ _)) (by omega) ⟨(fun _ => HSv.out), (fun _ => rfl)⟩
              go_wp2_with fail
              refine HC.out.mono ?_
              rintro e w15 ⟨rfl, Hb⟩
              clear HC
              have HB15 : Hid (Below w.heap.size w w15) := HB14.out.trans (Hb.out.mono HB14.out.size)
              have HY15 : Hid (∀ W, Below w15.heap.size w15 W → Table W (some ⟨gy, 0, none⟩) (tz q q (otr ts))) := futL HY14.out Hb.out
              have HV15 : Hid (∀ W, Below w15.heap.size w15 W → Table W (some ⟨gv, 0, none⟩) (tz q q (otr ts))) := futL HV14.out Hb.out
              clear HY14 HV14
              clear Hb HB14
              have HC : Hid (Calls Try.prog 16 #[.slice (some ⟨gv, 0, none⟩) q kv] w15 fun e w' => ∃ ay cy, e = .returned (.slice ay q cy) ∧ Hid (Table w' ay (tri q (otr ts))) ∧ Hid (Below w15.heap.size w15 w')) := RTriangle_use _ q _ (otr ts) w15 (HV15.out w15 (Below.refl _ _)) HSv.out
              go_wp2_with fail
              refine HC.out.mono ?_
              rintro e w16 ⟨az, cz, rfl, HTz, Hb⟩
              clear HC
              have HB16 : Hid (Below w.heap.size w w16) := HB15.out.trans (Hb.out.mono HB15.out.size)
              have HY16 : Hid (∀ W, Below w16.heap.size w16 W → Table W (some ⟨gy, 0, none⟩) (tz q q (otr ts))) := futL HY15.out Hb.out
              have HV16 : Hid (∀ W, Below w16.heap.size w16 W → Table W (some ⟨gv, 0, none⟩) (tz q q (otr ts))) := futL HV15.out Hb.out
              clear HY15 HV15
              have HZ16 : Hid (∀ W, Below w16.heap.size w16 W → Table W az (tri q (otr ts))) := fun W hW => HTz.out.below hW
              clear Hb HB15
              clear HTz
              have HC : Hid (Calls Try.prog 19 #[.slice az q cz, .slice t q ct] w16 fun e w' => e = .returned (.bool true) ∧ Hid (Below w16.heap.size w16 w')) := Rows_any _ _ q q _ _ (tri q (otr ts)) ts w16 true (HZ16.out w16 (Below.refl _ _)) (FT.out w16 HB16.out) (by rw [tri_len]) HQl.out (by rw [tri_len]; omega) ⟨(fun _ => HRv.out), (fun _ => rfl)⟩
              go_wp2_with fail
              refine HC.out.mono ?_
              rintro e w17 ⟨rfl, Hb⟩
              clear HC
              have HB17 : Hid (Below w.heap.size w w17) := HB16.out.trans (Hb.out.mono HB16.out.size)
              have HY17 : Hid (∀ W, Below w17.heap.size w17 W → Table W (some ⟨gy, 0, none⟩) (tz q q (otr ts))) := futL HY16.out Hb.out
              have HV17 : Hid (∀ W, Below w17.heap.size w17 W → Table W (some ⟨gv, 0, none⟩) (tz q q (otr ts))) := futL HV16.out Hb.out
              have HZ17 : Hid (∀ W, Below w17.heap.size w17 W → Table W az (tri q (otr ts))) := futL HZ16.out Hb.out
              clear HY16 HV16 HZ16
              clear Hb HB16
              clear HZ17
              have HC : Hid (Calls Try.prog 12 #[.slice (some ⟨gy, 0, none⟩) q q, .int .i64 0, .slice (some ⟨gv, 0, none⟩) q kv, .int .i64 0] w17 fun e w' => e = .returned (.bool true) ∧ Hid (Below w17.heap.size w17 w')) := table_same _ _ _ _ q w17 _ (HY17.out w17 (Below.refl _ _)) (HV17.out w17 (Below.refl _ _)) (by rw [tz_len]) (by rw [tz_len]; omega)
              go_wp2_with fail
              refine HC.out.mono ?_
              rintro e w18 ⟨rfl, Hb⟩
              clear HC
              have HB18 : Hid (Below w.heap.size w w18) := HB17.out.trans (Hb.out.mono HB17.out.size)
              have HY18 : Hid (∀ W, Below w18.heap.size w18 W → Table W (some ⟨gy, 0, none⟩) (tz q q (otr ts))) := futL HY17.out Hb.out
              have HV18 : Hid (∀ W, Below w18.heap.size w18 W → Table W (some ⟨gv, 0, none⟩) (tz q q (otr ts))) := futL HV17.out Hb.out
              clear HY17 HV17
              clear Hb HB17
              go_wp2
              go_ret
              exact ⟨by first | rfl | simp, HB18.out⟩
            · have HRv : Hid (¬ tri q (otr ts) = ts) := hrv
              have HFt : Hid (¬ FtOk ts) := fun h => hrv (by have := ((ft_otr ts).1 h).2; rw [← HQl.out] at this; exact this)
              clear hsv hrv
              have HC : Hid (Calls Try.prog 20 #[.slice t q ct] w12 fun e w' => e = .returned (.tuple #[.slice none 0 0, .int .i64 1]) ∧ Hid (Below w12.heap.size w12 w')) := FromTriangle_not t q ct ts w12 (FT.out w12 HB12.out) HQl.out HLt.out HFt.out
              go_wp2_with fail
              refine HC.out.mono ?_
              rintro e w13 ⟨rfl, Hb⟩
              clear HC
              have HB13 : Hid (Below w.heap.size w w13) := HB12.out.trans (Hb.out.mono HB12.out.size)
              clear Hb HB12
              have HC : Hid (Calls Try.prog 21 #[.slice t q ct] w13 fun e w' => ∃ g k, e = .returned (.slice (some ⟨g, 0, none⟩) q k) ∧ Hid (Table w' (some ⟨g, 0, none⟩) (tz q q (otr ts))) ∧ Hid (Below w13.heap.size w13 w')) := OfTriangle_use t q ct ts w13 (FT.out w13 HB13.out) HQl.out hq1 hq7
              go_wp2_with fail
              refine HC.out.mono ?_
              rintro e w14 ⟨gv, kv, rfl, HTv, Hb⟩
              clear HC
              have HB14 : Hid (Below w.heap.size w w14) := HB13.out.trans (Hb.out.mono HB13.out.size)
              have HV14 : Hid (∀ W, Below w14.heap.size w14 W → Table W (some ⟨gv, 0, none⟩) (tz q q (otr ts))) := fun W hW => HTv.out.below hW
              clear Hb HB13
              clear HTv
              have HC : Hid (Calls Try.prog 9 #[.slice (some ⟨gv, 0, none⟩) q kv] w14 fun e w' => e = .returned (.bool true) ∧ Hid (Below w14.heap.size w14 w')) := Signs_sq _ q _ (otr ts) w14 true (HV14.out w14 (Below.refl _ _)) (by omega) ⟨(fun _ => HSv.out), (fun _ => rfl)⟩
              go_wp2_with fail
              refine HC.out.mono ?_
              rintro e w15 ⟨rfl, Hb⟩
              clear HC
              have HB15 : Hid (Below w.heap.size w w15) := HB14.out.trans (Hb.out.mono HB14.out.size)
              have HV15 : Hid (∀ W, Below w15.heap.size w15 W → Table W (some ⟨gv, 0, none⟩) (tz q q (otr ts))) := futL HV14.out Hb.out
              clear HV14
              clear Hb HB14
              have HC : Hid (Calls Try.prog 16 #[.slice (some ⟨gv, 0, none⟩) q kv] w15 fun e w' => ∃ ay cy, e = .returned (.slice ay q cy) ∧ Hid (Table w' ay (tri q (otr ts))) ∧ Hid (Below w15.heap.size w15 w')) := RTriangle_use _ q _ (otr ts) w15 (HV15.out w15 (Below.refl _ _)) HSv.out
              go_wp2_with fail
              refine HC.out.mono ?_
              rintro e w16 ⟨az, cz, rfl, HTz, Hb⟩
              clear HC
              have HB16 : Hid (Below w.heap.size w w16) := HB15.out.trans (Hb.out.mono HB15.out.size)
              have HV16 : Hid (∀ W, Below w16.heap.size w16 W → Table W (some ⟨gv, 0, none⟩) (tz q q (otr ts))) := futL HV15.out Hb.out
              clear HV15
              have HZ16 : Hid (∀ W, Below w16.heap.size w16 W → Table W az (tri q (otr ts))) := fun W hW => HTz.out.below hW
              clear Hb HB15
              clear HTz
              have HC : Hid (Calls Try.prog 19 #[.slice az q cz, .slice t q ct] w16 fun e w' => e = .returned (.bool false) ∧ Hid (Below w16.heap.size w16 w')) := Rows_any _ _ q q _ _ (tri q (otr ts)) ts w16 false (HZ16.out w16 (Below.refl _ _)) (FT.out w16 HB16.out) (by rw [tri_len]) HQl.out (by rw [tri_len]; omega) ⟨(fun h => by cases h), (fun h => absurd h HRv.out)⟩
              go_wp2_with fail
              refine HC.out.mono ?_
              rintro e w17 ⟨rfl, Hb⟩
              clear HC
              have HB17 : Hid (Below w.heap.size w w17) := HB16.out.trans (Hb.out.mono HB16.out.size)
              have HV17 : Hid (∀ W, Below w17.heap.size w17 W → Table W (some ⟨gv, 0, none⟩) (tz q q (otr ts))) := futL HV16.out Hb.out
              have HZ17 : Hid (∀ W, Below w17.heap.size w17 W → Table W az (tri q (otr ts))) := futL HZ16.out Hb.out
              clear HV16 HZ16
              clear Hb HB16
              clear HZ17
              go_wp2
              go_ret
              exact ⟨by first | rfl | simp, HB17.out⟩
          · have HSv : Hid (¬ Sg q (otr ts)) := hsv
            have HFt : Hid (¬ FtOk ts) := fun h => hsv (by have := ((ft_otr ts).1 h).1; rw [← HQl.out] at this; exact this)
            clear hsv
            have HC : Hid (Calls Try.prog 20 #[.slice t q ct] w12 fun e w' => e = .returned (.tuple #[.slice none 0 0, .int .i64 1]) ∧ Hid (Below w12.heap.size w12 w')) := FromTriangle_not t q ct ts w12 (FT.out w12 HB12.out) HQl.out HLt.out HFt.out
            go_wp2_with fail
            refine HC.out.mono ?_
            rintro e w13 ⟨rfl, Hb⟩
            clear HC
            have HB13 : Hid (Below w.heap.size w w13) := HB12.out.trans (Hb.out.mono HB12.out.size)
            clear Hb HB12
            have HC : Hid (Calls Try.prog 21 #[.slice t q ct] w13 fun e w' => ∃ g k, e = .returned (.slice (some ⟨g, 0, none⟩) q k) ∧ Hid (Table w' (some ⟨g, 0, none⟩) (tz q q (otr ts))) ∧ Hid (Below w13.heap.size w13 w')) := OfTriangle_use t q ct ts w13 (FT.out w13 HB13.out) HQl.out hq1 hq7
            go_wp2_with fail
            refine HC.out.mono ?_
            rintro e w14 ⟨gv, kv, rfl, HTv, Hb⟩
            clear HC
            have HB14 : Hid (Below w.heap.size w w14) := HB13.out.trans (Hb.out.mono HB13.out.size)
            have HV14 : Hid (∀ W, Below w14.heap.size w14 W → Table W (some ⟨gv, 0, none⟩) (tz q q (otr ts))) := fun W hW => HTv.out.below hW
            clear Hb HB13
            clear HTv
            have HC : Hid (Calls Try.prog 9 #[.slice (some ⟨gv, 0, none⟩) q kv] w14 fun e w' => e = .returned (.bool false) ∧ Hid (Below w14.heap.size w14 w')) := Signs_sq _ q _ (otr ts) w14 false (HV14.out w14 (Below.refl _ _)) (by omega) ⟨(fun h => by cases h), (fun h => absurd h HSv.out)⟩
            go_wp2_with fail
            refine HC.out.mono ?_
            rintro e w15 ⟨rfl, Hb⟩
            clear HC
            have HB15 : Hid (Below w.heap.size w w15) := HB14.out.trans (Hb.out.mono HB14.out.size)
            have HV15 : Hid (∀ W, Below w15.heap.size w15 W → Table W (some ⟨gv, 0, none⟩) (tz q q (otr ts))) := futL HV14.out Hb.out
            clear HV14
            clear Hb HB14
            go_wp2
            go_ret
            exact ⟨by first | rfl | simp, HB15.out⟩
        · have HFt : Hid (¬ FtOk ts) := fun h => hsm (by have := ((ft_iff ts).1 h).1; have h1 := this.n1; have h7 := this.n7; rw [← HQl.out] at h1 h7; exact ⟨h1, h7⟩)
          by_cases hq1 : q < 1
          · have hq1' : (q : Int) < 1 := by omega
            clear hsm
            have HC : Hid (Calls Try.prog 20 #[.slice t q ct] w12 fun e w' => e = .returned (.tuple #[.slice none 0 0, .int .i64 1]) ∧ Hid (Below w12.heap.size w12 w')) := FromTriangle_not t q ct ts w12 (FT.out w12 HB12.out) HQl.out HLt.out HFt.out
            go_wp2_with fail
            refine HC.out.mono ?_
            rintro e w13 ⟨rfl, Hb⟩
            clear HC
            have HB13 : Hid (Below w.heap.size w w13) := HB12.out.trans (Hb.out.mono HB12.out.size)
            clear Hb HB12
            go_wp2
            go_ret
            exact ⟨by first | rfl | simp, HB13.out⟩
          · have hq1' : ¬ (q : Int) < 1 := by omega
            have hq7' : (7 : Int) < (q : Int) := by omega
            clear hsm
            have HC : Hid (Calls Try.prog 20 #[.slice t q ct] w12 fun e w' => e = .returned (.tuple #[.slice none 0 0, .int .i64 1]) ∧ Hid (Below w12.heap.size w12 w')) := FromTriangle_not t q ct ts w12 (FT.out w12 HB12.out) HQl.out HLt.out HFt.out
            go_wp2_with fail
            refine HC.out.mono ?_
            rintro e w13 ⟨rfl, Hb⟩
            clear HC
            have HB13 : Hid (Below w.heap.size w w13) := HB12.out.trans (Hb.out.mono HB12.out.size)
            clear Hb HB12
            go_wp2
            go_ret
            exact ⟨by first | rfl | simp, HB13.out⟩
    · have HSu : Hid (¬ Sg k (dif (box ks))) := hsu
      have HFc : Hid (¬ FcOk ks) := fun h => hsu (HFd.out.1 h).1
      clear hsu HFd
      have HC : Hid (Calls Try.prog 17 #[.slice c N cc] w7 fun e w' => e = .returned (.tuple #[.slice none 0 0, .int .i64 1]) ∧ Hid (Below w7.heap.size w7 w')) := FromCorner_not c N cc ks w7 (FC.out w7 HB7.out) HNl.out HLk.out HFc.out
      go_wp2_with fail
      refine HC.out.mono ?_
      rintro e w8 ⟨rfl, Hb⟩
      clear HC
      have HB8 : Hid (Below w.heap.size w w8) := HB7.out.trans (Hb.out.mono HB7.out.size)
      clear Hb HB7
      have HC : Hid (Calls Try.prog 18 #[.slice c N cc] w8 fun e w' => ∃ g r, e = .returned (.slice (some ⟨g, 0, none⟩) k r) ∧ Hid (TableX w' (some ⟨g, 0, none⟩) (tz k k (dif (box ks)))) ∧ Hid (Below w8.heap.size w8 w')) := OfCorners_use c N k cc ks w8 (FC.out w8 HB8.out) HNk.out HNl.out HOc.out
      go_wp2_with fail
      refine HC.out.mono ?_
      rintro e w9 ⟨gu, ku, rfl, HTu, Hb⟩
      clear HC
      have HB9 : Hid (Below w.heap.size w w9) := HB8.out.trans (Hb.out.mono HB8.out.size)
      have HU9 : Hid (∀ W, Below w9.heap.size w9 W → TableX W (some ⟨gu, 0, none⟩) (tz k k (dif (box ks)))) := fun W hW => HTu.out.below hW
      clear Hb HB8
      clear HTu
      have heq : (binOp .eql 22 (.slice (some ⟨gu, 0, none⟩) k ku) (.slice none 0 0)).run Try.prog w9 = .ok (.bool false) w9 := Lib.run_eql_slice_nil w9 22 29 (some ⟨gu, 0, none⟩) k ku 0 0 Try.underlying22
      have HC : Hid (Calls Try.prog 9 #[.slice (some ⟨gu, 0, none⟩) k ku] w9 fun e w' => e = .returned (.bool false) ∧ Hid (Below w9.heap.size w9 w')) := Signs_sq _ k _ (dif (box ks)) w9 false (HU9.out w9 (Below.refl _ _)).table (by omega) ⟨(fun h => by cases h), (fun h => absurd h HSu.out)⟩
      go_wp2_with fail
      refine HC.out.mono ?_
      rintro e w10 ⟨rfl, Hb⟩
      clear HC
      have HB10 : Hid (Below w.heap.size w w10) := HB9.out.trans (Hb.out.mono HB9.out.size)
      have HU10 : Hid (∀ W, Below w10.heap.size w10 W → TableX W (some ⟨gu, 0, none⟩) (tz k k (dif (box ks)))) := futL HU9.out Hb.out
      clear HU9
      clear Hb HB9
      clear heq
      clear HU10
      by_cases hsm : 1 ≤ q ∧ q ≤ 7
      · obtain ⟨hq1, hq7⟩ := hsm
        have hq1' : ¬ (q : Int) < 1 := by omega
        have hq7' : ¬ (7 : Int) < (q : Int) := by omega
        by_cases hsv : Sg q (otr ts)
        · have HSv : Hid (Sg q (otr ts)) := hsv
          by_cases hrv : tri q (otr ts) = ts
          · have HRv : Hid (tri q (otr ts) = ts) := hrv
            have HFt : Hid (FtOk ts) := (ft_otr ts).2 (by rw [← HQl.out]; exact ⟨hsv, hrv⟩)
            clear hsv hrv
            have HC : Hid (Calls Try.prog 20 #[.slice t q ct] w10 fun e w' => ∃ g, e = .returned (.tuple #[.slice (some ⟨g, 0, none⟩) q q, .int .i64 0]) ∧ Hid (Table w' (some ⟨g, 0, none⟩) (tz q q (otr ts))) ∧ Hid (Below w10.heap.size w10 w')) := FromTriangle_yes t q ct ts w10 (FT.out w10 HB10.out) HQl.out HFt.out
            go_wp2_with fail
            refine HC.out.mono ?_
            rintro e w11 ⟨gy, rfl, HTy, Hb⟩
            clear HC
            have HB11 : Hid (Below w.heap.size w w11) := HB10.out.trans (Hb.out.mono HB10.out.size)
            have HY11 : Hid (∀ W, Below w11.heap.size w11 W → Table W (some ⟨gy, 0, none⟩) (tz q q (otr ts))) := fun W hW => HTy.out.below hW
            clear Hb HB10
            clear HTy
            have HC : Hid (Calls Try.prog 21 #[.slice t q ct] w11 fun e w' => ∃ g k, e = .returned (.slice (some ⟨g, 0, none⟩) q k) ∧ Hid (Table w' (some ⟨g, 0, none⟩) (tz q q (otr ts))) ∧ Hid (Below w11.heap.size w11 w')) := OfTriangle_use t q ct ts w11 (FT.out w11 HB11.out) HQl.out hq1 hq7
            go_wp2_with fail
            refine HC.out.mono ?_
            rintro e w12 ⟨gv, kv, rfl, HTv, Hb⟩
            clear HC
            have HB12 : Hid (Below w.heap.size w w12) := HB11.out.trans (Hb.out.mono HB11.out.size)
            have HY12 : Hid (∀ W, Below w12.heap.size w12 W → Table W (some ⟨gy, 0, none⟩) (tz q q (otr ts))) := futL HY11.out Hb.out
            clear HY11
            have HV12 : Hid (∀ W, Below w12.heap.size w12 W → Table W (some ⟨gv, 0, none⟩) (tz q q (otr ts))) := fun W hW => HTv.out.below hW
            clear Hb HB11
            clear HTv
            have HC : Hid (Calls Try.prog 9 #[.slice (some ⟨gv, 0, none⟩) q kv] w12 fun e w' => e = .returned (.bool true) ∧ Hid (Below w12.heap.size w12 w')) := Signs_sq _ q _ (otr ts) w12 true (HV12.out w12 (Below.refl _ _)) (by omega) ⟨(fun _ => HSv.out), (fun _ => rfl)⟩
            go_wp2_with fail
            refine HC.out.mono ?_
            rintro e w13 ⟨rfl, Hb⟩
            clear HC
            have HB13 : Hid (Below w.heap.size w w13) := HB12.out.trans (Hb.out.mono HB12.out.size)
            have HY13 : Hid (∀ W, Below w13.heap.size w13 W → Table W (some ⟨gy, 0, none⟩) (tz q q (otr ts))) := futL HY12.out Hb.out
            have HV13 : Hid (∀ W, Below w13.heap.size w13 W → Table W (some ⟨gv, 0, none⟩) (tz q q (otr ts))) := futL HV12.out Hb.out
            clear HY12 HV12
            clear Hb HB12
            have HC : Hid (Calls Try.prog 16 #[.slice (some ⟨gv, 0, none⟩) q kv] w13 fun e w' => ∃ ay cy, e = .returned (.slice ay q cy) ∧ Hid (Table w' ay (tri q (otr ts))) ∧ Hid (Below w13.heap.size w13 w')) := RTriangle_use _ q _ (otr ts) w13 (HV13.out w13 (Below.refl _ _)) HSv.out
            go_wp2_with fail
            refine HC.out.mono ?_
            rintro e w14 ⟨az, cz, rfl, HTz, Hb⟩
            clear HC
            have HB14 : Hid (Below w.heap.size w w14) := HB13.out.trans (Hb.out.mono HB13.out.size)
            have HY14 : Hid (∀ W, Below w14.heap.size w14 W → Table W (some ⟨gy, 0, none⟩) (tz q q (otr ts))) := futL HY13.out Hb.out
            have HV14 : Hid (∀ W, Below w14.heap.size w14 W → Table W (some ⟨gv, 0, none⟩) (tz q q (otr ts))) := futL HV13.out Hb.out
            clear HY13 HV13
            have HZ14 : Hid (∀ W, Below w14.heap.size w14 W → Table W az (tri q (otr ts))) := fun W hW => HTz.out.below hW
            clear Hb HB13
            clear HTz
            have HC : Hid (Calls Try.prog 19 #[.slice az q cz, .slice t q ct] w14 fun e w' => e = .returned (.bool true) ∧ Hid (Below w14.heap.size w14 w')) := Rows_any _ _ q q _ _ (tri q (otr ts)) ts w14 true (HZ14.out w14 (Below.refl _ _)) (FT.out w14 HB14.out) (by rw [tri_len]) HQl.out (by rw [tri_len]; omega) ⟨(fun _ => HRv.out), (fun _ => rfl)⟩
            go_wp2_with fail
            refine HC.out.mono ?_
            rintro e w15 ⟨rfl, Hb⟩
            clear HC
            have HB15 : Hid (Below w.heap.size w w15) := HB14.out.trans (Hb.out.mono HB14.out.size)
            have HY15 : Hid (∀ W, Below w15.heap.size w15 W → Table W (some ⟨gy, 0, none⟩) (tz q q (otr ts))) := futL HY14.out Hb.out
            have HV15 : Hid (∀ W, Below w15.heap.size w15 W → Table W (some ⟨gv, 0, none⟩) (tz q q (otr ts))) := futL HV14.out Hb.out
            have HZ15 : Hid (∀ W, Below w15.heap.size w15 W → Table W az (tri q (otr ts))) := futL HZ14.out Hb.out
            clear HY14 HV14 HZ14
            clear Hb HB14
            clear HZ15
            have HC : Hid (Calls Try.prog 12 #[.slice (some ⟨gy, 0, none⟩) q q, .int .i64 0, .slice (some ⟨gv, 0, none⟩) q kv, .int .i64 0] w15 fun e w' => e = .returned (.bool true) ∧ Hid (Below w15.heap.size w15 w')) := table_same _ _ _ _ q w15 _ (HY15.out w15 (Below.refl _ _)) (HV15.out w15 (Below.refl _ _)) (by rw [tz_len]) (by rw [tz_len]; omega)
            go_wp2_with fail
            refine HC.out.mono ?_
            rintro e w16 ⟨rfl, Hb⟩
            clear HC
            have HB16 : Hid (Below w.heap.size w w16) := HB15.out.trans (Hb.out.mono HB15.out.size)
            have HY16 : Hid (∀ W, Below w16.heap.size w16 W → Table W (some ⟨gy, 0, none⟩) (tz q q (otr ts))) := futL HY15.out Hb.out
            have HV16 : Hid (∀ W, Below w16.heap.size w16 W → Table W (some ⟨gv, 0, none⟩) (tz q q (otr ts))) := futL HV15.out Hb.out
            clear HY15 HV15
            clear Hb HB15
            go_wp2
            go_ret
            exact ⟨by first | rfl | simp, HB16.out⟩
          · have HRv : Hid (¬ tri q (otr ts) = ts) := hrv
            have HFt : Hid (¬ FtOk ts) := fun h => hrv (by have := ((ft_otr ts).1 h).2; rw [← HQl.out] at this; exact this)
            clear hsv hrv
            have HC : Hid (Calls Try.prog 20 #[.slice t q ct] w10 fun e w' => e = .returned (.tuple #[.slice none 0 0, .int .i64 1]) ∧ Hid (Below w10.heap.size w10 w')) := FromTriangle_not t q ct ts w10 (FT.out w10 HB10.out) HQl.out HLt.out HFt.out
            go_wp2_with fail
            refine HC.out.mono ?_
            rintro e w11 ⟨rfl, Hb⟩
            clear HC
            have HB11 : Hid (Below w.heap.size w w11) := HB10.out.trans (Hb.out.mono HB10.out.size)
            clear Hb HB10
            have HC : Hid (Calls Try.prog 21 #[.slice t q ct] w11 fun e w' => ∃ g k, e = .returned (.slice (some ⟨g, 0, none⟩) q k) ∧ Hid (Table w' (some ⟨g, 0, none⟩) (tz q q (otr ts))) ∧ Hid (Below w11.heap.size w11 w')) := OfTriangle_use t q ct ts w11 (FT.out w11 HB11.out) HQl.out hq1 hq7
            go_wp2_with fail
            refine HC.out.mono ?_
            rintro e w12 ⟨gv, kv, rfl, HTv, Hb⟩
            clear HC
            have HB12 : Hid (Below w.heap.size w w12) := HB11.out.trans (Hb.out.mono HB11.out.size)
            have HV12 : Hid (∀ W, Below w12.heap.size w12 W → Table W (some ⟨gv, 0, none⟩) (tz q q (otr ts))) := fun W hW => HTv.out.below hW
            clear Hb HB11
            clear HTv
            have HC : Hid (Calls Try.prog 9 #[.slice (some ⟨gv, 0, none⟩) q kv] w12 fun e w' => e = .returned (.bool true) ∧ Hid (Below w12.heap.size w12 w')) := Signs_sq _ q _ (otr ts) w12 true (HV12.out w12 (Below.refl _ _)) (by omega) ⟨(fun _ => HSv.out), (fun _ => rfl)⟩
            go_wp2_with fail
            refine HC.out.mono ?_
            rintro e w13 ⟨rfl, Hb⟩
            clear HC
            have HB13 : Hid (Below w.heap.size w w13) := HB12.out.trans (Hb.out.mono HB12.out.size)
            have HV13 : Hid (∀ W, Below w13.heap.size w13 W → Table W (some ⟨gv, 0, none⟩) (tz q q (otr ts))) := futL HV12.out Hb.out
            clear HV12
            clear Hb HB12
            have HC : Hid (Calls Try.prog 16 #[.slice (some ⟨gv, 0, none⟩) q kv] w13 fun e w' => ∃ ay cy, e = .returned (.slice ay q cy) ∧ Hid (Table w' ay (tri q (otr ts))) ∧ Hid (Below w13.heap.size w13 w')) := RTriangle_use _ q _ (otr ts) w13 (HV13.out w13 (Below.refl _ _)) HSv.out
            go_wp2_with fail
            refine HC.out.mono ?_
            rintro e w14 ⟨az, cz, rfl, HTz, Hb⟩
            clear HC
            have HB14 : Hid (Below w.heap.size w w14) := HB13.out.trans (Hb.out.mono HB13.out.size)
            have HV14 : Hid (∀ W, Below w14.heap.size w14 W → Table W (some ⟨gv, 0, none⟩) (tz q q (otr ts))) := futL HV13.out Hb.out
            clear HV13
            have HZ14 : Hid (∀ W, Below w14.heap.size w14 W → Table W az (tri q (otr ts))) := fun W hW => HTz.out.below hW
            clear Hb HB13
            clear HTz
            have HC : Hid (Calls Try.prog 19 #[.slice az q cz, .slice t q ct] w14 fun e w' => e = .returned (.bool false) ∧ Hid (Below w14.heap.size w14 w')) := Rows_any _ _ q q _ _ (tri q (otr ts)) ts w14 false (HZ14.out w14 (Below.refl _ _)) (FT.out w14 HB14.out) (by rw [tri_len]) HQl.out (by rw [tri_len]; omega) ⟨(fun h => by cases h), (fun h => absurd h HRv.out)⟩
            go_wp2_with fail
            refine HC.out.mono ?_
            rintro e w15 ⟨rfl, Hb⟩
            clear HC
            have HB15 : Hid (Below w.heap.size w w15) := HB14.out.trans (Hb.out.mono HB14.out.size)
            have HV15 : Hid (∀ W, Below w15.heap.size w15 W → Table W (some ⟨gv, 0, none⟩) (tz q q (otr ts))) := futL HV14.out Hb.out
            have HZ15 : Hid (∀ W, Below w15.heap.size w15 W → Table W az (tri q (otr ts))) := futL HZ14.out Hb.out
            clear HV14 HZ14
            clear Hb HB14
            clear HZ15
            go_wp2
            go_ret
            exact ⟨by first | rfl | simp, HB15.out⟩
        · have HSv : Hid (¬ Sg q (otr ts)) := hsv
          have HFt : Hid (¬ FtOk ts) := fun h => hsv (by have := ((ft_otr ts).1 h).1; rw [← HQl.out] at this; exact this)
          clear hsv
          have HC : Hid (Calls Try.prog 20 #[.slice t q ct] w10 fun e w' => e = .returned (.tuple #[.slice none 0 0, .int .i64 1]) ∧ Hid (Below w10.heap.size w10 w')) := FromTriangle_not t q ct ts w10 (FT.out w10 HB10.out) HQl.out HLt.out HFt.out
          go_wp2_with fail
          refine HC.out.mono ?_
          rintro e w11 ⟨rfl, Hb⟩
          clear HC
          have HB11 : Hid (Below w.heap.size w w11) := HB10.out.trans (Hb.out.mono HB10.out.size)
          clear Hb HB10
          have HC : Hid (Calls Try.prog 21 #[.slice t q ct] w11 fun e w' => ∃ g k, e = .returned (.slice (some ⟨g, 0, none⟩) q k) ∧ Hid (Table w' (some ⟨g, 0, none⟩) (tz q q (otr ts))) ∧ Hid (Below w11.heap.size w11 w')) := OfTriangle_use t q ct ts w11 (FT.out w11 HB11.out) HQl.out hq1 hq7
          go_wp2_with fail
          refine HC.out.mono ?_
          rintro e w12 ⟨gv, kv, rfl, HTv, Hb⟩
          clear HC
          have HB12 : Hid (Below w.heap.size w w12) := HB11.out.trans (Hb.out.mono HB11.out.size)
          have HV12 : Hid (∀ W, Below w12.heap.size w12 W → Table W (some ⟨gv, 0, none⟩) (tz q q (otr ts))) := fun W hW => HTv.out.below hW
          clear Hb HB11
          clear HTv
          have HC : Hid (Calls Try.prog 9 #[.slice (some ⟨gv, 0, none⟩) q kv] w12 fun e w' => e = .returned (.bool false) ∧ Hid (Below w12.heap.size w12 w')) := Signs_sq _ q _ (otr ts) w12 false (HV12.out w12 (Below.refl _ _)) (by omega) ⟨(fun h => by cases h), (fun h => absurd h HSv.out)⟩
          go_wp2_with fail
          refine HC.out.mono ?_
          rintro e w13 ⟨rfl, Hb⟩
          clear HC
          have HB13 : Hid (Below w.heap.size w w13) := HB12.out.trans (Hb.out.mono HB12.out.size)
          have HV13 : Hid (∀ W, Below w13.heap.size w13 W → Table W (some ⟨gv, 0, none⟩) (tz q q (otr ts))) := futL HV12.out Hb.out
          clear HV12
          clear Hb HB12
          go_wp2
          go_ret
          exact ⟨by first | rfl | simp, HB13.out⟩
      · have HFt : Hid (¬ FtOk ts) := fun h => hsm (by have := ((ft_iff ts).1 h).1; have h1 := this.n1; have h7 := this.n7; rw [← HQl.out] at h1 h7; exact ⟨h1, h7⟩)
        by_cases hq1 : q < 1
        · have hq1' : (q : Int) < 1 := by omega
          clear hsm
          have HC : Hid (Calls Try.prog 20 #[.slice t q ct] w10 fun e w' => e = .returned (.tuple #[.slice none 0 0, .int .i64 1]) ∧ Hid (Below w10.heap.size w10 w')) := FromTriangle_not t q ct ts w10 (FT.out w10 HB10.out) HQl.out HLt.out HFt.out
          go_wp2_with fail
          refine HC.out.mono ?_
          rintro e w11 ⟨rfl, Hb⟩
          clear HC
          have HB11 : Hid (Below w.heap.size w w11) := HB10.out.trans (Hb.out.mono HB10.out.size)
          clear Hb HB10
          go_wp2
          go_ret
          exact ⟨by first | rfl | simp, HB11.out⟩
        · have hq1' : ¬ (q : Int) < 1 := by omega
          have hq7' : (7 : Int) < (q : Int) := by omega
          clear hsm
          have HC : Hid (Calls Try.prog 20 #[.slice t q ct] w10 fun e w' => e = .returned (.tuple #[.slice none 0 0, .int .i64 1]) ∧ Hid (Below w10.heap.size w10 w')) := FromTriangle_not t q ct ts w10 (FT.out w10 HB10.out) HQl.out HLt.out HFt.out
          go_wp2_with fail
          refine HC.out.mono ?_
          rintro e w11 ⟨rfl, Hb⟩
          clear HC
          have HB11 : Hid (Below w.heap.size w w11) := HB10.out.trans (Hb.out.mono HB10.out.size)
          clear Hb HB10
          go_wp2
          go_ret
          exact ⟨by first | rfl | simp, HB11.out⟩
  · have HOc : Hid (¬ OcB ks) := hoc
    have HFc : Hid (¬ FcOk ks) := fun h => hoc (fc_oc h)
    clear hoc
    have HC : Hid (Calls Try.prog 17 #[.slice c N cc] w7 fun e w' => e = .returned (.tuple #[.slice none 0 0, .int .i64 1]) ∧ Hid (Below w7.heap.size w7 w')) := FromCorner_not c N cc ks w7 (FC.out w7 HB7.out) HNl.out HLk.out HFc.out
    go_wp2_with fail
    refine HC.out.mono ?_
    rintro e w8 ⟨rfl, Hb⟩
    clear HC
    have HB8 : Hid (Below w.heap.size w w8) := HB7.out.trans (Hb.out.mono HB7.out.size)
    clear Hb HB7
    have HC : Hid (Calls Try.prog 18 #[.slice c N cc] w8 fun e w' => e = .returned (.slice none 0 0) ∧ w' = w8) := OfCorners_no c N cc ks w8 (FC.out w8 HB8.out) HNl.out HLk.out HOc.out
    have heq : (binOp .eql 22 (.slice none 0 0) (.slice none 0 0)).run Try.prog w8 = .ok (.bool true) w8 := Lib.run_eql_slice_nil w8 22 29 none 0 0 0 0 Try.underlying22
    go_wp2_with fail
    refine HC.out.mono ?_
    rintro e w8 ⟨rfl, rfl⟩
    clear HC
    by_cases hsm : 1 ≤ q ∧ q ≤ 7
    · obtain ⟨hq1, hq7⟩ := hsm
      have hq1' : ¬ (q : Int) < 1 := by omega
      have hq7' : ¬ (7 : Int) < (q : Int) := by omega
      by_cases hsv : Sg q (otr ts)
      · have HSv : Hid (Sg q (otr ts)) := hsv
        by_cases hrv : tri q (otr ts) = ts
        · have HRv : Hid (tri q (otr ts) = ts) := hrv
          have HFt : Hid (FtOk ts) := (ft_otr ts).2 (by rw [← HQl.out]; exact ⟨hsv, hrv⟩)
          clear hsv hrv
          have HC : Hid (Calls Try.prog 20 #[.slice t q ct] w8 fun e w' => ∃ g, e = .returned (.tuple #[.slice (some ⟨g, 0, none⟩) q q, .int .i64 0]) ∧ Hid (Table w' (some ⟨g, 0, none⟩) (tz q q (otr ts))) ∧ Hid (Below w8.heap.size w8 w')) := FromTriangle_yes t q ct ts w8 (FT.out w8 HB8.out) HQl.out HFt.out
          go_wp2_with fail
          refine HC.out.mono ?_
          rintro e w9 ⟨gy, rfl, HTy, Hb⟩
          clear HC
          have HB9 : Hid (Below w.heap.size w w9) := HB8.out.trans (Hb.out.mono HB8.out.size)
          have HY9 : Hid (∀ W, Below w9.heap.size w9 W → Table W (some ⟨gy, 0, none⟩) (tz q q (otr ts))) := fun W hW => HTy.out.below hW
          clear Hb HB8
          clear HTy
          have HC : Hid (Calls Try.prog 21 #[.slice t q ct] w9 fun e w' => ∃ g k, e = .returned (.slice (some ⟨g, 0, none⟩) q k) ∧ Hid (Table w' (some ⟨g, 0, none⟩) (tz q q (otr ts))) ∧ Hid (Below w9.heap.size w9 w')) := OfTriangle_use t q ct ts w9 (FT.out w9 HB9.out) HQl.out hq1 hq7
          go_wp2_with fail
          refine HC.out.mono ?_
          rintro e w10 ⟨gv, kv, rfl, HTv, Hb⟩
          clear HC
          have HB10 : Hid (Below w.heap.size w w10) := HB9.out.trans (Hb.out.mono HB9.out.size)
          have HY10 : Hid (∀ W, Below w10.heap.size w10 W → Table W (some ⟨gy, 0, none⟩) (tz q q (otr ts))) := futL HY9.out Hb.out
          clear HY9
          have HV10 : Hid (∀ W, Below w10.heap.size w10 W → Table W (some ⟨gv, 0, none⟩) (tz q q (otr ts))) := fun W hW => HTv.out.below hW
          clear Hb HB9
          clear HTv
          have HC : Hid (Calls Try.prog 9 #[.slice (some ⟨gv, 0, none⟩) q kv] w10 fun e w' => e = .returned (.bool true) ∧ Hid (Below w10.heap.size w10 w')) := Signs_sq _ q _ (otr ts) w10 true (HV10.out w10 (Below.refl _ _)) (by omega) ⟨(fun _ => HSv.out), (fun _ => rfl)⟩
          go_wp2_with fail
          refine HC.out.mono ?_
          rintro e w11 ⟨rfl, Hb⟩
          clear HC
          have HB11 : Hid (Below w.heap.size w w11) := HB10.out.trans (Hb.out.mono HB10.out.size)
          have HY11 : Hid (∀ W, Below w11.heap.size w11 W → Table W (some ⟨gy, 0, none⟩) (tz q q (otr ts))) := futL HY10.out Hb.out
          have HV11 : Hid (∀ W, Below w11.heap.size w11 W → Table W (some ⟨gv, 0, none⟩) (tz q q (otr ts))) := futL HV10.out Hb.out
          clear HY10 HV10
          clear Hb HB10
          have HC : Hid (Calls Try.prog 16 #[.slice (some ⟨gv, 0, none⟩) q kv] w11 fun e w' => ∃ ay cy, e = .returned (.slice ay q cy) ∧ Hid (Table w' ay (tri q (otr ts))) ∧ Hid (Below w11.heap.size w11 w')) := RTriangle_use _ q _ (otr ts) w11 (HV11.out w11 (Below.refl _ _)) HSv.out
          go_wp2_with fail
          refine HC.out.mono ?_
          rintro e w12 ⟨az, cz, rfl, HTz, Hb⟩
          clear HC
          have HB12 : Hid (Below w.heap.size w w12) := HB11.out.trans (Hb.out.mono HB11.out.size)
          have HY12 : Hid (∀ W, Below w12.heap.size w12 W → Table W (some ⟨gy, 0, none⟩) (tz q q (otr ts))) := futL HY11.out Hb.out
          have HV12 : Hid (∀ W, Below w12.heap.size w12 W → Table W (some ⟨gv, 0, none⟩) (tz q q (otr ts))) := futL HV11.out Hb.out
          clear HY11 HV11
          have HZ12 : Hid (∀ W, Below w12.heap.size w12 W → Table W az (tri q (otr ts))) := fun W hW => HTz.out.below hW
          clear Hb HB11
          clear HTz
          have HC : Hid (Calls Try.prog 19 #[.slice az q cz, .slice t q ct] w12 fun e w' => e = .returned (.bool true) ∧ Hid (Below w12.heap.size w12 w')) := Rows_any _ _ q q _ _ (tri q (otr ts)) ts w12 true (HZ12.out w12 (Below.refl _ _)) (FT.out w12 HB12.out) (by rw [tri_len]) HQl.out (by rw [tri_len]; omega) ⟨(fun _ => HRv.out), (fun _ => rfl)⟩
          go_wp2_with fail
          refine HC.out.mono ?_
          rintro e w13 ⟨rfl, Hb⟩
          clear HC
          have HB13 : Hid (Below w.heap.size w w13) := HB12.out.trans (Hb.out.mono HB12.out.size)
          have HY13 : Hid (∀ W, Below w13.heap.size w13 W → Table W (some ⟨gy, 0, none⟩) (tz q q (otr ts))) := futL HY12.out Hb.out
          have HV13 : Hid (∀ W, Below w13.heap.size w13 W → Table W (some ⟨gv, 0, none⟩) (tz q q (otr ts))) := futL HV12.out Hb.out
          have HZ13 : Hid (∀ W, Below w13.heap.size w13 W → Table W az (tri q (otr ts))) := futL HZ12.out Hb.out
          clear HY12 HV12 HZ12
          clear Hb HB12
          clear HZ13
          have HC : Hid (Calls Try.prog 12 #[.slice (some ⟨gy, 0, none⟩) q q, .int .i64 0, .slice (some ⟨gv, 0, none⟩) q kv, .int .i64 0] w13 fun e w' => e = .returned (.bool true) ∧ Hid (Below w13.heap.size w13 w')) := table_same _ _ _ _ q w13 _ (HY13.out w13 (Below.refl _ _)) (HV13.out w13 (Below.refl _ _)) (by rw [tz_len]) (by rw [tz_len]; omega)
          go_wp2_with fail
          refine HC.out.mono ?_
          rintro e w14 ⟨rfl, Hb⟩
          clear HC
          have HB14 : Hid (Below w.heap.size w w14) := HB13.out.trans (Hb.out.mono HB13.out.size)
          have HY14 : Hid (∀ W, Below w14.heap.size w14 W → Table W (some ⟨gy, 0, none⟩) (tz q q (otr ts))) := futL HY13.out Hb.out
          have HV14 : Hid (∀ W, Below w14.heap.size w14 W → Table W (some ⟨gv, 0, none⟩) (tz q q (otr ts))) := futL HV13.out Hb.out
          clear HY13 HV13
          clear Hb HB13
          go_wp2
          go_ret
          exact ⟨by first | rfl | simp, HB14.out⟩
        · have HRv : Hid (¬ tri q (otr ts) = ts) := hrv
          have HFt : Hid (¬ FtOk ts) := fun h => hrv (by have := ((ft_otr ts).1 h).2; rw [← HQl.out] at this; exact this)
          clear hsv hrv
          have HC : Hid (Calls Try.prog 20 #[.slice t q ct] w8 fun e w' => e = .returned (.tuple #[.slice none 0 0, .int .i64 1]) ∧ Hid (Below w8.heap.size w8 w')) := FromTriangle_not t q ct ts w8 (FT.out w8 HB8.out) HQl.out HLt.out HFt.out
          go_wp2_with fail
          refine HC.out.mono ?_
          rintro e w9 ⟨rfl, Hb⟩
          clear HC
          have HB9 : Hid (Below w.heap.size w w9) := HB8.out.trans (Hb.out.mono HB8.out.size)
          clear Hb HB8
          have HC : Hid (Calls Try.prog 21 #[.slice t q ct] w9 fun e w' => ∃ g k, e = .returned (.slice (some ⟨g, 0, none⟩) q k) ∧ Hid (Table w' (some ⟨g, 0, none⟩) (tz q q (otr ts))) ∧ Hid (Below w9.heap.size w9 w')) := OfTriangle_use t q ct ts w9 (FT.out w9 HB9.out) HQl.out hq1 hq7
          go_wp2_with fail
          refine HC.out.mono ?_
          rintro e w10 ⟨gv, kv, rfl, HTv, Hb⟩
          clear HC
          have HB10 : Hid (Below w.heap.size w w10) := HB9.out.trans (Hb.out.mono HB9.out.size)
          have HV10 : Hid (∀ W, Below w10.heap.size w10 W → Table W (some ⟨gv, 0, none⟩) (tz q q (otr ts))) := fun W hW => HTv.out.below hW
          clear Hb HB9
          clear HTv
          have HC : Hid (Calls Try.prog 9 #[.slice (some ⟨gv, 0, none⟩) q kv] w10 fun e w' => e = .returned (.bool true) ∧ Hid (Below w10.heap.size w10 w')) := Signs_sq _ q _ (otr ts) w10 true (HV10.out w10 (Below.refl _ _)) (by omega) ⟨(fun _ => HSv.out), (fun _ => rfl)⟩
          go_wp2_with fail
          refine HC.out.mono ?_
          rintro e w11 ⟨rfl, Hb⟩
          clear HC
          have HB11 : Hid (Below w.heap.size w w11) := HB10.out.trans (Hb.out.mono HB10.out.size)
          have HV11 : Hid (∀ W, Below w11.heap.size w11 W → Table W (some ⟨gv, 0, none⟩) (tz q q (otr ts))) := futL HV10.out Hb.out
          clear HV10
          clear Hb HB10
          have HC : Hid (Calls Try.prog 16 #[.slice (some ⟨gv, 0, none⟩) q kv] w11 fun e w' => ∃ ay cy, e = .returned (.slice ay q cy) ∧ Hid (Table w' ay (tri q (otr ts))) ∧ Hid (Below w11.heap.size w11 w')) := RTriangle_use _ q _ (otr ts) w11 (HV11.out w11 (Below.refl _ _)) HSv.out
          go_wp2_with fail
          refine HC.out.mono ?_
          rintro e w12 ⟨az, cz, rfl, HTz, Hb⟩
          clear HC
          have HB12 : Hid (Below w.heap.size w w12) := HB11.out.trans (Hb.out.mono HB11.out.size)
          have HV12 : Hid (∀ W, Below w12.heap.size w12 W → Table W (some ⟨gv, 0, none⟩) (tz q q (otr ts))) := futL HV11.out Hb.out
          clear HV11
          have HZ12 : Hid (∀ W, Below w12.heap.size w12 W → Table W az (tri q (otr ts))) := fun W hW => HTz.out.below hW
          clear Hb HB11
          clear HTz
          have HC : Hid (Calls Try.prog 19 #[.slice az q cz, .slice t q ct] w12 fun e w' => e = .returned (.bool false) ∧ Hid (Below w12.heap.size w12 w')) := Rows_any _ _ q q _ _ (tri q (otr ts)) ts w12 false (HZ12.out w12 (Below.refl _ _)) (FT.out w12 HB12.out) (by rw [tri_len]) HQl.out (by rw [tri_len]; omega) ⟨(fun h => by cases h), (fun h => absurd h HRv.out)⟩
          go_wp2_with fail
          refine HC.out.mono ?_
          rintro e w13 ⟨rfl, Hb⟩
          clear HC
          have HB13 : Hid (Below w.heap.size w w13) := HB12.out.trans (Hb.out.mono HB12.out.size)
          have HV13 : Hid (∀ W, Below w13.heap.size w13 W → Table W (some ⟨gv, 0, none⟩) (tz q q (otr ts))) := futL HV12.out Hb.out
          have HZ13 : Hid (∀ W, Below w13.heap.size w13 W → Table W az (tri q (otr ts))) := futL HZ12.out Hb.out
          clear HV12 HZ12
          clear Hb HB12
          clear HZ13
          go_wp2
          go_ret
          exact ⟨by first | rfl | simp, HB13.out⟩
      · have HSv : Hid (¬ Sg q (otr ts)) := hsv
        have HFt : Hid (¬ FtOk ts) := fun h => hsv (by have := ((ft_otr ts).1 h).1; rw [← HQl.out] at this; exact this)
        clear hsv
        have HC : Hid (Calls Try.prog 20 #[.slice t q ct] w8 fun e w' => e = .returned (.tuple #[.slice none 0 0, .int .i64 1]) ∧ Hid (Below w8.heap.size w8 w')) := FromTriangle_not t q ct ts w8 (FT.out w8 HB8.out) HQl.out HLt.out HFt.out
        go_wp2_with fail
        refine HC.out.mono ?_
        rintro e w9 ⟨rfl, Hb⟩
        clear HC
        have HB9 : Hid (Below w.heap.size w w9) := HB8.out.trans (Hb.out.mono HB8.out.size)
        clear Hb HB8
        have HC : Hid (Calls Try.prog 21 #[.slice t q ct] w9 fun e w' => ∃ g k, e = .returned (.slice (some ⟨g, 0, none⟩) q k) ∧ Hid (Table w' (some ⟨g, 0, none⟩) (tz q q (otr ts))) ∧ Hid (Below w9.heap.size w9 w')) := OfTriangle_use t q ct ts w9 (FT.out w9 HB9.out) HQl.out hq1 hq7
        go_wp2_with fail
        refine HC.out.mono ?_
        rintro e w10 ⟨gv, kv, rfl, HTv, Hb⟩
        clear HC
        have HB10 : Hid (Below w.heap.size w w10) := HB9.out.trans (Hb.out.mono HB9.out.size)
        have HV10 : Hid (∀ W, Below w10.heap.size w10 W → Table W (some ⟨gv, 0, none⟩) (tz q q (otr ts))) := fun W hW => HTv.out.below hW
        clear Hb HB9
        clear HTv
        have HC : Hid (Calls Try.prog 9 #[.slice (some ⟨gv, 0, none⟩) q kv] w10 fun e w' => e = .returned (.bool false) ∧ Hid (Below w10.heap.size w10 w')) := Signs_sq _ q _ (otr ts) w10 false (HV10.out w10 (Below.refl _ _)) (by omega) ⟨(fun h => by cases h), (fun h => absurd h HSv.out)⟩
        go_wp2_with fail
        refine HC.out.mono ?_
        rintro e w11 ⟨rfl, Hb⟩
        clear HC
        have HB11 : Hid (Below w.heap.size w w11) := HB10.out.trans (Hb.out.mono HB10.out.size)
        have HV11 : Hid (∀ W, Below w11.heap.size w11 W → Table W (some ⟨gv, 0, none⟩) (tz q q (otr ts))) := futL HV10.out Hb.out
        clear HV10
        clear Hb HB10
        go_wp2
        go_ret
        exact ⟨by first | rfl | simp, HB11.out⟩
    · have HFt : Hid (¬ FtOk ts) := fun h => hsm (by have := ((ft_iff ts).1 h).1; have h1 := this.n1; have h7 := this.n7; rw [← HQl.out] at h1 h7; exact ⟨h1, h7⟩)
      by_cases hq1 : q < 1
      · have hq1' : (q : Int) < 1 := by omega
        clear hsm
        have HC : Hid (Calls Try.prog 20 #[.slice t q ct] w8 fun e w' => e = .returned (.tuple #[.slice none 0 0, .int .i64 1]) ∧ Hid (Below w8.heap.size w8 w')) := FromTriangle_not t q ct ts w8 (FT.out w8 HB8.out) HQl.out HLt.out HFt.out
        go_wp2_with fail
        refine HC.out.mono ?_
        rintro e w9 ⟨rfl, Hb⟩
        clear HC
        have HB9 : Hid (Below w.heap.size w w9) := HB8.out.trans (Hb.out.mono HB8.out.size)
        clear Hb HB8
        go_wp2
        go_ret
        exact ⟨by first | rfl | simp, HB9.out⟩
      · have hq1' : ¬ (q : Int) < 1 := by omega
        have hq7' : (7 : Int) < (q : Int) := by omega
        clear hsm
        have HC : Hid (Calls Try.prog 20 #[.slice t q ct] w8 fun e w' => e = .returned (.tuple #[.slice none 0 0, .int .i64 1]) ∧ Hid (Below w8.heap.size w8 w')) := FromTriangle_not t q ct ts w8 (FT.out w8 HB8.out) HQl.out HLt.out HFt.out
        go_wp2_with fail
        refine HC.out.mono ?_
        rintro e w9 ⟨rfl, Hb⟩
        clear HC
        have HB9 : Hid (Below w.heap.size w w9) := HB8.out.trans (Hb.out.mono HB8.out.size)
        clear Hb HB8
        go_wp2
        go_ret
        exact ⟨by first | rfl | simp, HB9.out⟩

end Go.Proofs.Ytfpbccahmipliaa
