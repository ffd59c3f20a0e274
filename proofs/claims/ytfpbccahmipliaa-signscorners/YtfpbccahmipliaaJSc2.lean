/-
  The law ferlaw.SignsCorners: the first one is none.
-/
import Derived.Test.YtfpbccahmipliaaJOfn
import Derived.Lib.SliceRun
namespace Go.Proofs.Ytfpbccahmipliaa
open Go.RowKit

set_option maxHeartbeats 40000000 in
set_option maxRecDepth 100000 in
theorem scor_two (a c t : Option Addr) (n N q ca cc ct : Nat) (ls ks ts : List (List Int)) (w : World) (hs : Table w a ls) (hn : n = ls.length) (hl : ls.length ≤ 17592186044416) (hno : ¬ SgL ls) (hc : Table w c ks) (ht : Table w t ts) (hN : N = ks.length) (hq : q = ts.length) (hk : ks.length ≤ 17592186044416) (hr : ts.length ≤ 17592186044416) :
    Calls Try.prog 4 #[.slice a n ca, .slice c N cc, .slice t q ct] w fun e w' => e = .returned (.bool true) ∧ Below w.heap.size w w' := by
  have FC : Hid (∀ W, Below w.heap.size w W → Table W c ks) := fun W hW => hc.below hW
  have FT : Hid (∀ W, Below w.heap.size w W → Table W t ts) := fun W hW => ht.below hW
  have HNl : Hid (N = ks.length) := hN
  have HQl : Hid (q = ts.length) := hq
  have HLk : Hid (ks.length ≤ 17592186044416) := hk
  have HLt : Hid (ts.length ≤ 17592186044416) := hr
  have hNb : N ≤ 17592186044416 := by omega
  have hqb : q ≤ 17592186044416 := by omega
  have HB0 : Hid (Below w.heap.size w w) := Below.refl _ _
  clear hc ht hN hq hk hr
  have FA : Hid (∀ W, Below w.heap.size w W → Table W a ls) := fun W hW => hs.below hW
  have HAl : Hid (n = ls.length) := hn
  have HLl : Hid (ls.length ≤ 17592186044416) := hl
  have HNo : Hid (¬ SgL ls) := hno
  have hnb : n ≤ 17592186044416 := by omega
  clear hs hn hl hno
  go_enter Try.func4, Try.ntmps4
  have HC : Hid (Calls Try.prog 14 #[.slice a n ca] w fun e w' => e = .returned (.tuple #[.slice none 0 0, .int .i64 1]) ∧ Hid (Below w.heap.size w w')) := Corner_no a n ca ls w (FA.out w HB0.out) HAl.out HLl.out HNo.out
  go_wp2_with fail
  refine HC.out.mono ?_
  rintro e w1 ⟨rfl, Hb⟩
  clear HC
  have HB1 : Hid (Below w.heap.size w w1) := HB0.out.trans (Hb.out.mono HB0.out.size)
  clear Hb HB0
  have HC : Hid (Calls Try.prog 15 #[.slice a n ca] w1 fun e w' => e = .returned (.tuple #[.slice none 0 0, .int .i64 1]) ∧ Hid (Below w1.heap.size w1 w')) := Triangle_no a n ca ls w1 (FA.out w1 HB1.out) HAl.out HLl.out HNo.out
  go_wp2_with fail
  refine HC.out.mono ?_
  rintro e w2 ⟨rfl, Hb⟩
  clear HC
  have HB2 : Hid (Below w.heap.size w w2) := HB1.out.trans (Hb.out.mono HB1.out.size)
  clear Hb HB1
  have HC : Hid (Calls Try.prog 9 #[.slice a n ca] w2 fun e w' => e = .returned (.bool false) ∧ Hid (Below w2.heap.size w2 w')) := Signs_at _ n _ ls w2 false (FA.out w2 HB2.out) HAl.out HLl.out ⟨(fun h => by cases h), (fun h => absurd h HNo.out)⟩
  go_wp2_with fail
  refine HC.out.mono ?_
  rintro e w3 ⟨rfl, Hb⟩
  clear HC
  have HB3 : Hid (Below w.heap.size w w3) := HB2.out.trans (Hb.out.mono HB2.out.size)
  clear Hb HB2
  by_cases hoc : OcB ks
  · have HOc : Hid (OcB ks) := hoc
    obtain ⟨k, HNk⟩ : ∃ k, Hid (N = k + 1) := ⟨N - 1, by show _ = _; have := hoc.n2; have := HNl.out; omega⟩
    have hN8 : N ≤ 8 := by rw [HNl.out]; exact hoc.n8
    have hk7 : k ≤ 7 := by have := HNk.out; omega
    have HFd : Hid (FcOk ks ↔ Sg k (dif (box ks)) ∧ tz N N (cor (dif (box ks))) = ks) := by rw [HNk.out]; exact fc_dif hoc (by rw [← HNl.out]; exact HNk.out)
    clear hoc
    by_cases hsu : Sg k (dif (box ks))
    · have HSu : Hid (Sg k (dif (box ks))) := hsu
      by_cases hru : tz N N (cor (dif (box ks))) = ks
      · have HRu : Hid (tz N N (cor (dif (box ks))) = ks) := hru
        have HFc : Hid (FcOk ks) := HFd.out.2 ⟨hsu, hru⟩
        clear hsu hru HFd
        have HC : Hid (Calls Try.prog 17 #[.slice c N cc] w3 fun e w' => ∃ g, e = .returned (.tuple #[.slice (some ⟨g, 0, none⟩) k k, .int .i64 0]) ∧ Hid (Table w' (some ⟨g, 0, none⟩) (tz k k (dif (box ks)))) ∧ Hid (Below w3.heap.size w3 w')) := FromCorner_yes c N k cc ks w3 (FC.out w3 HB3.out) HNk.out HNl.out HFc.out
        go_wp2_with fail
        refine HC.out.mono ?_
        rintro e w4 ⟨gx, rfl, HTx, Hb⟩
        clear HC
        have HB4 : Hid (Below w.heap.size w w4) := HB3.out.trans (Hb.out.mono HB3.out.size)
        have HX4 : Hid (∀ W, Below w4.heap.size w4 W → Table W (some ⟨gx, 0, none⟩) (tz k k (dif (box ks)))) := fun W hW => HTx.out.below hW
        clear Hb HB3
        clear HTx
        have HC : Hid (Calls Try.prog 18 #[.slice c N cc] w4 fun e w' => ∃ g r, e = .returned (.slice (some ⟨g, 0, none⟩) k r) ∧ Hid (TableX w' (some ⟨g, 0, none⟩) (tz k k (dif (box ks)))) ∧ Hid (Below w4.heap.size w4 w')) := OfCorners_use c N k cc ks w4 (FC.out w4 HB4.out) HNk.out HNl.out HOc.out
        go_wp2_with fail
        refine HC.out.mono ?_
        rintro e w5 ⟨gu, ku, rfl, HTu, Hb⟩
        clear HC
        have HB5 : Hid (Below w.heap.size w w5) := HB4.out.trans (Hb.out.mono HB4.out.size)
        have HX5 : Hid (∀ W, Below w5.heap.size w5 W → Table W (some ⟨gx, 0, none⟩) (tz k k (dif (box ks)))) := futL HX4.out Hb.out
        clear HX4
        have HU5 : Hid (∀ W, Below w5.heap.size w5 W → TableX W (some ⟨gu, 0, none⟩) (tz k k (dif (box ks)))) := fun W hW => HTu.out.below hW
        clear Hb HB4
        clear HTu
        have heq : (binOp .eql 22 (.slice (some ⟨gu, 0, none⟩) k ku) (.slice none 0 0)).run Try.prog w5 = .ok (.bool false) w5 := Lib.run_eql_slice_nil w5 22 29 (some ⟨gu, 0, none⟩) k ku 0 0 Try.underlying22
        have HC : Hid (Calls Try.prog 9 #[.slice (some ⟨gu, 0, none⟩) k ku] w5 fun e w' => e = .returned (.bool true) ∧ Hid (Below w5.heap.size w5 w')) := Signs_sq _ k _ (dif (box ks)) w5 true (HU5.out w5 (Below.refl _ _)).table (by omega) ⟨(fun _ => HSu.out), (fun _ => rfl)⟩
        go_wp2_with fail
        refine HC.out.mono ?_
        rintro e w6 ⟨rfl, Hb⟩
        clear HC
        have HB6 : Hid (Below w.heap.size w w6) := HB5.out.trans (Hb.out.mono HB5.out.size)
        have HX6 : Hid (∀ W, Below w6.heap.size w6 W → Table W (some ⟨gx, 0, none⟩) (tz k k (dif (box ks)))) := futL HX5.out Hb.out
        have HU6 : Hid (∀ W, Below w6.heap.size w6 W → TableX W (some ⟨gu, 0, none⟩) (tz k k (dif (box ks)))) := futL HU5.out Hb.out
        clear HX5 HU5
        clear Hb HB5
        clear heq
        have HC : Hid (Calls Try.prog 11 #[.slice (some ⟨gu, 0, none⟩) k ku] w6 fun e w' => ∃ g r, e = .returned (.slice (some ⟨g, 0, none⟩) N r) ∧ Hid (Table w' (some ⟨g, 0, none⟩) (tz N N (cor (dif (box ks))))) ∧ Hid (Below w6.heap.size w6 w')) := Corners_use _ k _ N (dif (box ks)) w6 (HU6.out w6 (Below.refl _ _)) HSu.out HNk.out
        go_wp2_with fail
        refine HC.out.mono ?_
        rintro e w7 ⟨gz, kz, rfl, HTz, Hb⟩
        clear HC
        have HB7 : Hid (Below w.heap.size w w7) := HB6.out.trans (Hb.out.mono HB6.out.size)
        have HX7 : Hid (∀ W, Below w7.heap.size w7 W → Table W (some ⟨gx, 0, none⟩) (tz k k (dif (box ks)))) := futL HX6.out Hb.out
        have HU7 : Hid (∀ W, Below w7.heap.size w7 W → TableX W (some ⟨gu, 0, none⟩) (tz k k (dif (box ks)))) := futL HU6.out Hb.out
        clear HX6 HU6
        have HZ7 : Hid (∀ W, Below w7.heap.size w7 W → Table W (some ⟨gz, 0, none⟩) (tz N N (cor (dif (box ks))))) := fun W hW => HTz.out.below hW
        clear Hb HB6
        clear HTz
        have HC : Hid (Calls Try.prog 19 #[.slice (some ⟨gz, 0, none⟩) N kz, .slice c N cc] w7 fun e w' => e = .returned (.bool true) ∧ Hid (Below w7.heap.size w7 w')) := Rows_any _ _ N N _ _ (tz N N (cor (dif (box ks)))) ks w7 true (HZ7.out w7 (Below.refl _ _)) (FC.out w7 HB7.out) (by rw [tz_len]) HNl.out (by rw [tz_len]; omega) ⟨(fun _ => HRu.out), (fun _ => rfl)⟩
        go_wp2_with fail
        refine HC.out.mono ?_
        rintro e w8 ⟨rfl, Hb⟩
        clear HC
        have HB8 : Hid (Below w.heap.size w w8) := HB7.out.trans (Hb.out.mono HB7.out.size)
        have HX8 : Hid (∀ W, Below w8.heap.size w8 W → Table W (some ⟨gx, 0, none⟩) (tz k k (dif (box ks)))) := futL HX7.out Hb.out
        have HU8 : Hid (∀ W, Below w8.heap.size w8 W → TableX W (some ⟨gu, 0, none⟩) (tz k k (dif (box ks)))) := futL HU7.out Hb.out
        have HZ8 : Hid (∀ W, Below w8.heap.size w8 W → Table W (some ⟨gz, 0, none⟩) (tz N N (cor (dif (box ks))))) := futL HZ7.out Hb.out
        clear HX7 HU7 HZ7
        clear Hb HB7
        clear HZ8
        have HC : Hid (Calls Try.prog 12 #[.slice (some ⟨gx, 0, none⟩) k k, .int .i64 0, .slice (some ⟨gu, 0, none⟩) k ku, .int .i64 0] w8 fun e w' => e = .returned (.bool true) ∧ Hid (Below w8.heap.size w8 w')) := table_same _ _ _ _ k w8 _ (HX8.out w8 (Below.refl _ _)) (HU8.out w8 (Below.refl _ _)).table (by rw [tz_len]) (by rw [tz_len]; omega)
        go_wp2_with fail
        refine HC.out.mono ?_
        rintro e w9 ⟨rfl, Hb⟩
        clear HC
        have HB9 : Hid (Below w.heap.size w w9) := HB8.out.trans (Hb.out.mono HB8.out.size)
        have HX9 : Hid (∀ W, Below w9.heap.size w9 W → Table W (some ⟨gx, 0, none⟩) (tz k k (dif (box ks)))) := futL HX8.out Hb.out
        have HU9 : Hid (∀ W, Below w9.heap.size w9 W → TableX W (some ⟨gu, 0, none⟩) (tz k k (dif (box ks)))) := futL HU8.out Hb.out
        clear HX8 HU8
        clear Hb HB8
        clear HX9 HU9
        by_cases hsm : 1 ≤ q ∧ q ≤ 7
        · obtain ⟨hq1, hq7⟩ := hsm
          have hq1' : ¬ (q : Int) < 1 := by omega
          have hq7' : ¬ (7 : Int) < (q : Int) := by omega
          by_cases hsv : Sg q (otr ts)
          · have HSv : Hid (Sg q (otr ts)) := hsv
            by_cases hrv : tri q (otr ts) = ts
            · have HRv : Hid (tri q (otr ts) = ts) := hrv
              have HFt : Hid (FtOk ts) := (ft_otr ts).2 (by rw [← HQl.out]; exact ⟨hsv, hrv⟩)
              clear hsv hrv
              have HC : Hid (Calls Try.prog 20 #[.slice t q ct] w9 fun e w' => ∃ g, e = .returned (.tuple #[.slice (some ⟨g, 0, none⟩) q q, .int .i64 0]) ∧ Hid (Table w' (some ⟨g, 0, none⟩) (tz q q (otr ts))) ∧ Hid (Below w9.heap.size w9 w')) := FromTriangle_yes t q ct ts w9 (FT.out w9 HB9.out) HQl.out HFt.out
              go_wp2_with fail
              refine HC.out.mono ?_
              rintro e w10 ⟨gy, rfl, HTy, Hb⟩
              clear HC
              have HB10 : Hid (Below w.heap.size w w10) := HB9.out.trans (Hb.out.mono HB9.out.size)
              have HY10 : Hid (∀ W, Below w10.heap.size w10 W → Table W (some ⟨gy, 0, none⟩) (tz q q (otr ts))) := fun W hW => HTy.out.below hW
              clear Hb HB9
              clear HTy
              have HC : Hid (Calls Try.prog 21 #[.slice t q ct] w10 fun e w' => ∃ g k, e = .returned (.slice (some ⟨g, 0, none⟩) q k) ∧ Hid (Table w' (some ⟨g, 0, none⟩) (tz q q (otr ts))) ∧ Hid (Below w10.heap.size w10 w')) := OfTriangle_use t q ct ts w10 (FT.out w10 HB10.out) HQl.out hq1 hq7
              go_wp2_with fail
              refine HC.out.mono ?_
              rintro e w11 ⟨gv, kv, rfl, HTv, Hb⟩
              clear HC
              have HB11 : Hid (Below w.heap.size w w11) := HB10.out.trans (Hb.out.mono HB10.out.size)
              have HY11 : Hid (∀ W, Below w11.heap.size w11 W → Table W (some ⟨gy, 0, none⟩) (tz q q (otr ts))) := futL HY10.out Hb.out
              clear HY10
              have HV11 : Hid (∀ W, Below w11.heap.size w11 W → Table W (some ⟨gv, 0, none⟩) (tz q q (otr ts))) := fun W hW => HTv.out.below hW
              clear Hb HB10
              clear HTv
              have HC : Hid (Calls Try.prog 9 #[.slice (some ⟨gv, 0, none⟩) q kv] w11 fun e w' => e = .returned (.bool true) ∧ Hid (Below w11.heap.size w11 w')) := Signs_sq _ q _ (otr ts) w11 true (HV11.out w11 (Below.refl _ _)) (by omega) ⟨(fun _ => HSv.out), (fun _ => rfl)⟩
              go_wp2_with fail
              refine HC.out.mono ?_
              rintro e w12 ⟨rfl, Hb⟩
              clear HC
              have HB12 : Hid (Below w.heap.size w w12) := HB11.out.trans (Hb.out.mono HB11.out.size)
              have HY12 : Hid (∀ W, Below w12.heap.size w12 W → Table W (some ⟨gy, 0, none⟩) (tz q q (otr ts))) := futL HY11.out Hb.out
              have HV12 : Hid (∀ W, Below w12.heap.size w12 W → Table W (some ⟨gv, 0, none⟩) (tz q q (otr ts))) := futL HV11.out Hb.out
              clear HY11 HV11
              clear Hb HB11
              have HC : Hid (Calls Try.prog 16 #[.slice (some ⟨gv, 0, none⟩) q kv] w12 fun e w' => ∃ ay cy, e = .returned (.slice ay q cy) ∧ Hid (Table w' ay (tri q (otr ts))) ∧ Hid (Below w12.heap.size w12 w')) := RTriangle_use _ q _ (otr ts) w12 (HV12.out w12 (Below.refl _ _)) HSv.out
              go_wp2_with fail
              refine HC.out.mono ?_
              rintro e w13 ⟨az, cz, rfl, HTz, Hb⟩
              clear HC
              have HB13 : Hid (Below w.heap.size w w13) := HB12.out.trans (Hb.out.mono HB12.out.size)
              have HY13 : Hid (∀ W, Below w13.heap.size w13 W → Table W (some ⟨gy, 0, none⟩) (tz q q (otr ts))) := futL HY12.out Hb.out
              have HV13 : Hid (∀ W, Below w13.heap.size w13 W → Table W (some ⟨gv, 0, none⟩) (tz q q (otr ts))) := futL HV12.out Hb.out
              clear HY12 HV12
              have HZ13 : Hid (∀ W, Below w13.heap.size w13 W → Table W az (tri q (otr ts))) := fun W hW => HTz.out.below hW
              clear Hb HB12
              clear HTz
              have HC : Hid (Calls Try.prog 19 #[.slice az q cz, .slice t q ct] w13 fun e w' => e = .returned (.bool true) ∧ Hid (Below w13.heap.size w13 w')) := Rows_any _ _ q q _ _ (tri q (otr ts)) ts w13 true (HZ13.out w13 (Below.refl _ _)) (FT.out w13 HB13.out) (by rw [tri_len]) HQl.out (by rw [tri_len]; omega) ⟨(fun _ => HRv.out), (fun _ => rfl)⟩
              go_wp2_with fail
              refine HC.out.mono ?_
              rintro e w14 ⟨rfl, Hb⟩
              clear HC
              have HB14 : Hid (Below w.heap.size w w14) := HB13.out.trans (Hb.out.mono HB13.out.size)
              have HY14 : Hid (∀ W, Below w14.heap.size w14 W → Table W (some ⟨gy, 0, none⟩) (tz q q (otr ts))) := futL HY13.out Hb.out
              have HV14 : Hid (∀ W, Below w14.heap.size w14 W → Table W (some ⟨gv, 0, none⟩) (tz q q (otr ts))) := futL HV13.out Hb.out
              have HZ14 : Hid (∀ W, Below w14.heap.size w14 W → Table W az (tri q (otr ts))) := futL HZ13.out Hb.out
              clear HY13 HV13 HZ13
              clear Hb HB13
              clear HZ14
              have HC : Hid (Calls Try.prog 12 #[.slice (some ⟨gy, 0, none⟩) q q, .int .i64 0, .slice (some ⟨gv, 0, none⟩) q kv, .int .i64 0] w14 fun e w' => e = .returned (.bool true) ∧ Hid (Below w14.heap.size w14 w')) := table_same _ _ _ _ q w14 _ (HY14.out w14 (Below.refl _ _)) (HV14.out w14 (Below.refl _ _)) (by rw [tz_len]) (by rw [tz_len]; omega)
              go_wp2_with fail
              refine HC.out.mono ?_
              rintro e w15 ⟨rfl, Hb⟩
              clear HC
              have HB15 : Hid (Below w.heap.size w w15) := HB14.out.trans (Hb.out.mono HB14.out.size)
              have HY15 : Hid (∀ W, Below w15.heap.size w15 W → Table W (some ⟨gy, 0, none⟩) (tz q q (otr ts))) := futL HY14.out Hb.out
              have HV15 : Hid (∀ W, Below w15.heap.size w15 W → Table W (some ⟨gv, 0, none⟩) (tz q q (otr ts))) := futL HV14.out Hb.out
              clear HY14 HV14
              clear Hb HB14
              go_wp2
              go_ret
              exact ⟨by first | rfl | simp, HB15.out⟩
            · have HRv : Hid (¬ tri q (otr ts) = ts) := hrv
              have HFt : Hid (¬ FtOk ts) := fun h => hrv (by have := ((ft_otr ts).1 h).2; rw [← HQl.out] at this; exact this)
              clear hsv hrv
              have HC : Hid (Calls Try.prog 20 #[.slice t q ct] w9 fun e w' => e = .returned (.tuple #[.slice none 0 0, .int .i64 1]) ∧ Hid (Below w9.heap.size w9 w')) := FromTriangle_not t q ct ts w9 (FT.out w9 HB9.out) HQl.out HLt.out HFt.out
              go_wp2_with fail
              refine HC.out.mono ?_
              rintro e w10 ⟨rfl, Hb⟩
              clear HC
              have HB10 : Hid (Below w.heap.size w w10) := HB9.out.trans (Hb.out.mono HB9.out.size)
              clear Hb HB9
              have HC : Hid (Calls Try.prog 21 #[.slice t q ct] w10 fun e w' => ∃ g k, e = .returned (.slice (some ⟨g, 0, none⟩) q k) ∧ Hid (Table w' (some ⟨g, 0, none⟩) (tz q q (otr ts))) ∧ Hid (Below w10.heap.size w10 w')) := OfTriangle_use t q ct ts w10 (FT.out w10 HB10.out) HQl.out hq1 hq7
              go_wp2_with fail
              refine HC.out.mono ?_
              rintro e w11 ⟨gv, kv, rfl, HTv, Hb⟩
              clear HC
              have HB11 : Hid (Below w.heap.size w w11) := HB10.out.trans (Hb.out.mono HB10.out.size)
              have HV11 : Hid (∀ W, Below w11.heap.size w11 W → Table W (some ⟨gv, 0, none⟩) (tz q q (otr ts))) := fun W hW => HTv.out.below hW
              clear Hb HB10
              clear HTv
              have HC : Hid (Calls Try.prog 9 #[.slice (some ⟨gv, 0, none⟩) q kv] w11 fun e w' => e = .returned (.bool true) ∧ Hid (Below w11.heap.size w11 w')) := Signs_sq _ q _ (otr ts) w11 true (HV11.out w11 (Below.refl _ _)) (by omega) ⟨(fun _ => HSv.out), (fun _ => rfl)⟩
              go_wp2_with fail
              refine HC.out.mono ?_
              rintro e w12 ⟨rfl, Hb⟩
              clear HC
              have HB12 : Hid (Below w.heap.size w w12) := HB11.out.trans (Hb.out.mono HB11.out.size)
              have HV12 : Hid (∀ W, Below w12.heap.size w12 W → Table W (some ⟨gv, 0, none⟩) (tz q q (otr ts))) := futL HV11.out Hb.out
              clear HV11
              clear Hb HB11
              have HC : Hid (Calls Try.prog 16 #[.slice (some ⟨gv, 0, none⟩) q kv] w12 fun e w' => ∃ ay cy, e = .returned (.slice ay q cy) ∧ Hid (Table w' ay (tri q (otr ts))) ∧ Hid (Below w12.heap.size w12 w')) := RTriangle_use _ q _ (otr ts) w12 (HV12.out w12 (Below.refl _ _)) HSv.out
              go_wp2_with fail
              refine HC.out.mono ?_
              rintro e w13 ⟨az, cz, rfl, HTz, Hb⟩
              clear HC
              have HB13 : Hid (Below w.heap.size w w13) := HB12.out.trans (Hb.out.mono HB12.out.size)
              have HV13 : Hid (∀ W, Below w13.heap.size w13 W → Table W (some ⟨gv, 0, none⟩) (tz q q (otr ts))) := futL HV12.out Hb.out
              clear HV12
              have HZ13 : Hid (∀ W, Below w13.heap.size w13 W → Table W az (tri q (otr ts))) := fun W hW => HTz.out.below hW
              clear Hb HB12
              clear HTz
              have HC : Hid (Calls Try.prog 19 #[.slice az q cz, .slice t q ct] w13 fun e w' => e = .returned (.bool false) ∧ Hid (Below w13.heap.size w13 w')) := Rows_any _ _ q q _ _ (tri q (otr ts)) ts w13 false (HZ13.out w13 (Below.refl _ _)) (FT.out w13 HB13.out) (by rw [tri_len]) HQl.out (by rw [tri_len]; omega) ⟨(fun h => by cases h), (fun h => absurd h HRv.out)⟩
              go_wp2_with fail
              refine HC.out.mono ?_
              rintro e w14 ⟨rfl, Hb⟩
              clear HC
              have HB14 : Hid (Below w.heap.size w w14) := HB13.out.trans (Hb.out.mono HB13.out.size)
              have HV14 : Hid (∀ W, Below w14.heap.size w14 W → Table W (some ⟨gv, 0, none⟩) (tz q q (otr ts))) := futL HV13.out Hb.out
              have HZ14 : Hid (∀ W, Below w14.heap.size w14 W → Table W az (tri q (otr ts))) := futL HZ13.out Hb.out
              clear HV13 HZ13
              clear Hb HB13
              clear HZ14
              go_wp2
              go_ret
              exact ⟨by first | rfl | simp, HB14.out⟩
          · have HSv : Hid (¬ Sg q (otr ts)) := hsv
            have HFt : Hid (¬ FtOk ts) := fun h => hsv (by have := ((ft_otr ts).1 h).1; rw [← HQl.out] at this; exact this)
            clear hsv
            have HC : Hid (Calls Try.prog 20 #[.slice t q ct] w9 fun e w' => e = .returned (.tuple #[.slice none 0 0, .int .i64 1]) ∧ Hid (Below w9.heap.size w9 w')) := FromTriangle_not t q ct ts w9 (FT.out w9 HB9.out) HQl.out HLt.out HFt.out
            go_wp2_with fail
            refine HC.out.mono ?_
            rintro e w10 ⟨rfl, Hb⟩
            clear HC
            have HB10 : Hid (Below w.heap.size w w10) := HB9.out.trans (Hb.out.mono HB9.out.size)
            clear Hb HB9
            have HC : Hid (Calls Try.prog 21 #[.slice t q ct] w10 fun e w' => ∃ g k, e = .returned (.slice (some ⟨g, 0, none⟩) q k) ∧ Hid (Table w' (some ⟨g, 0, none⟩) (tz q q (otr ts))) ∧ Hid (Below w10.heap.size w10 w')) := OfTriangle_use t q ct ts w10 (FT.out w10 HB10.out) HQl.out hq1 hq7
            go_wp2_with fail
            refine HC.out.mono ?_
            rintro e w11 ⟨gv, kv, rfl, HTv, Hb⟩
            clear HC
            have HB11 : Hid (Below w.heap.size w w11) := HB10.out.trans (Hb.out.mono HB10.out.size)
            have HV11 : Hid (∀ W, Below w11.heap.size w11 W → Table W (some ⟨gv, 0, none⟩) (tz q q (otr ts))) := fun W hW => HTv.out.below hW
            clear Hb HB10
            clear HTv
            have HC : Hid (Calls Try.prog 9 #[.slice (some ⟨gv, 0, none⟩) q kv] w11 fun e w' => e = .returned (.bool false) ∧ Hid (Below w11.heap.size w11 w')) := Signs_sq _ q _ (otr ts) w11 false (HV11.out w11 (Below.refl _ _)) (by omega) ⟨(fun h => by cases h), (fun h => absurd h HSv.out)⟩
            go_wp2_with fail
            refine HC.out.mono ?_
            rintro e w12 ⟨rfl, Hb⟩
            clear HC
            have HB12 : Hid (Below w.heap.size w w12) := HB11.out.trans (Hb.out.mono HB11.out.size)
            have HV12 : Hid (∀ W, Below w12.heap.size w12 W → Table W (some ⟨gv, 0, none⟩) (tz q q (otr ts))) := futL HV11.out Hb.out
            clear HV11
            clear Hb HB11
            go_wp2
            go_ret
            exact ⟨by first | rfl | simp, HB12.out⟩
        · have HFt : Hid (¬ FtOk ts) := fun h => hsm (by have := ((ft_iff ts).1 h).1; have h1 := this.n1; have h7 := this.n7; rw [← HQl.out] at h1 h7; exact ⟨h1, h7⟩)
          by_cases hq1 : q < 1
          · have hq1' : (q : Int) < 1 := by omega
            clear hsm
            have HC : Hid (Calls Try.prog 20 #[.slice t q ct] w9 fun e w' => e = .returned (.tuple #[.slice none 0 0, .int .i64 1]) ∧ Hid (Below w9.heap.size w9 w')) := FromTriangle_not t q ct ts w9 (FT.out w9 HB9.out) HQl.out HLt.out HFt.out
            go_wp2_with fail
            refine HC.out.mono ?_
            rintro e w10 ⟨rfl, Hb⟩
            clear HC
            have HB10 : Hid (Below w.heap.size w w10) := HB9.out.trans (Hb.out.mono HB9.out.size)
            clear Hb HB9
            go_wp2
            go_ret
            exact ⟨by first | rfl | simp, HB10.out⟩
          · have hq1' : ¬ (q : Int) < 1 := by omega
            have hq7' : (7 : Int) < (q : Int) := by omega
            clear hsm
            have HC : Hid (Calls Try.prog 20 #[.slice t q ct] w9 fun e w' => e = .returned (.tuple #[.slice none 0 0, .int .i64 1]) ∧ Hid (Below w9.heap.size w9 w')) := FromTriangle_not t q ct ts w9 (FT.out w9 HB9.out) HQl.out HLt.out HFt.out
            go_wp2_with fail
            refine HC.out.mono ?_
            rintro e w10 ⟨rfl, Hb⟩
            clear HC
            have HB10 : Hid (Below w.heap.size w w10) := HB9.out.trans (Hb.out.mono HB9.out.size)
            clear Hb HB9
            go_wp2
            go_ret
            exact ⟨by first | rfl | simp, HB10.out⟩
      · have HRu : Hid (¬ tz N N (cor (dif (box ks))) = ks) := hru
        have HFc : Hid (¬ FcOk ks) := fun h => hru (HFd.out.1 h).2
        clear hsu hru HFd
        have HC : Hid (Calls Try.prog 17 #[.slice c N cc] w3 fun e w' => e = .returned (.tuple #[.slice none 0 0, .int .i64 1]) ∧ Hid (Below w3.heap.size w3 w')) := FromCorner_not c N cc ks w3 (FC.out w3 HB3.out) HNl.out HLk.out HFc.out
        go_wp2_with fail
        refine HC.out.mono ?_
        rintro e w4 ⟨rfl, Hb⟩
        clear HC
        have HB4 : Hid (Below w.heap.size w w4) := HB3.out.trans (Hb.out.mono HB3.out.size)
        clear Hb HB3
        have HC : Hid (Calls Try.prog 18 #[.slice c N cc] w4 fun e w' => ∃ g r, e = .returned (.slice (some ⟨g, 0, none⟩) k r) ∧ Hid (TableX w' (some ⟨g, 0, none⟩) (tz k k (dif (box ks)))) ∧ Hid (Below w4.heap.size w4 w')) := OfCorners_use c N k cc ks w4 (FC.out w4 HB4.out) HNk.out HNl.out HOc.out
        go_wp2_with fail
        refine HC.out.mono ?_
        rintro e w5 ⟨gu, ku, rfl, HTu, Hb⟩
        clear HC
        have HB5 : Hid (Below w.heap.size w w5) := HB4.out.trans (Hb.out.mono HB4.out.size)
        have HU5 : Hid (∀ W, Below w5.heap.size w5 W → TableX W (some ⟨gu, 0, none⟩) (tz k k (dif (box ks)))) := fun W hW => HTu.out.below hW
        clear Hb HB4
        clear HTu
        have heq : (binOp .eql 22 (.slice (some ⟨gu, 0, none⟩) k ku) (.slice none 0 0)).run Try.prog w5 = .ok (.bool false) w5 := Lib.run_eql_slice_nil w5 22 29 (some ⟨gu, 0, none⟩) k ku 0 0 Try.underlying22
        have HC : Hid (Calls Try.prog 9 #[.slice (some ⟨gu, 0, none⟩) k ku] w5 fun e w' => e = .returned (.bool true) ∧ Hid (Below w5.heap.size w5 w')) := Signs_sq _ k _ (dif (box ks)) w5 true (HU5.out w5 (Below.refl _ _)).table (by omega) ⟨(fun _ => HSu.out), (fun _ => rfl)⟩
        go_wp2_with fail
        refine HC.out.mono ?_
        rintro e w6 ⟨rfl, Hb⟩
        clear HC
        have HB6 : Hid (Below w.heap.size w w6) := HB5.out.trans (Hb.out.mono HB5.out.size)
        have HU6 : Hid (∀ W, Below w6.heap.size w6 W → TableX W (some ⟨gu, 0, none⟩) (tz k k (dif (box ks)))) := futL HU5.out Hb.out
        clear HU5
        clear Hb HB5
        clear heq
        have HC : Hid (Calls Try.prog 11 #[.slice (some ⟨gu, 0, none⟩) k ku] w6 fun e w' => ∃ g r, e = .returned (.slice (some ⟨g, 0, none⟩) N r) ∧ Hid (Table w' (some ⟨g, 0, none⟩) (tz N N (cor (dif (box ks))))) ∧ Hid (Below w6.heap.size w6 w')) := Corners_use _ k _ N (dif (box ks)) w6 (HU6.out w6 (Below.refl _ _)) HSu.out HNk.out
        go_wp2_with fail
        refine HC.out.mono ?_
        rintro e w7 ⟨gz, kz, rfl, HTz, Hb⟩
        clear HC
        have HB7 : Hid (Below w.heap.size w w7) := HB6.out.trans (Hb.out.mono HB6.out.size)
        have HU7 : Hid (∀ W, Below w7.heap.size w7 W → TableX W (some ⟨gu, 0, none⟩) (tz k k (dif (box ks)))) := futL HU6.out Hb.out
        clear HU6
        have HZ7 : Hid (∀ W, Below w7.heap.size w7 W → Table W (some ⟨gz, 0, none⟩) (tz N N (cor (dif (box ks))))) := fun W hW => HTz.out.below hW
        clear Hb HB6
        clear HTz
        have HC : Hid (Calls Try.prog 19 #[.slice (some ⟨gz, 0, none⟩) N kz, .slice c N cc] w7 fun e w' => e = .returned (.bool false) ∧ Hid (Below w7.heap.size w7 w')) := Rows_any _ _ N N _ _ (tz N N (cor (dif (box ks)))) ks w7 false (HZ7.out w7 (Below.refl _ _)) (FC.out w7 HB7.out) (by rw [tz_len]) HNl.out (by rw [tz_len]; omega) ⟨(fun h => by cases h), (fun h => absurd h HRu.out)⟩
        go_wp2_with fail
        refine HC.out.mono ?_
        rintro e w8 ⟨rfl, Hb⟩
        clear HC
        have HB8 : Hid (Below w.heap.size w w8) := HB7.out.trans (Hb.out.mono HB7.out.size)
        have HU8 : Hid (∀ W, Below w8.heap.size w8 W → TableX W (some ⟨gu, 0, none⟩) (tz k k (dif (box ks)))) := futL HU7.out Hb.out
        have HZ8 : Hid (∀ W, Below w8.heap.size w8 W → Table W (some ⟨gz, 0, none⟩) (tz N N (cor (dif (box ks))))) := futL HZ7.out Hb.out
        clear HU7 HZ7
        clear Hb HB7
        clear HZ8
        clear HU8
        by_cases hsm : 1 ≤ q ∧ q ≤ 7
        · obtain ⟨hq1, hq7⟩ := hsm
          have hq1' : ¬ (q : Int) < 1 := by omega
          have hq7' : ¬ (7 : Int) < (q : Int) := by omega
          by_cases hsv : Sg q (otr ts)
          · have HSv : Hid (Sg q (otr ts)) := hsv
            by_cases hrv : tri q (otr ts) = ts
            · have HRv : Hid (tri q (otr ts) = ts) := hrv
              have HFt : Hid (FtOk ts) := (ft_otr ts).2 (by rw [← HQl.out]; exact ⟨hsv, hrv⟩)
              clear hsv hrv
              have HC : Hid (Calls Try.prog 20 #[.slice t q ct] w8 fun e w' => ∃ g, e = .returned (.tuple #[.slice (some ⟨g, 0, none⟩) q q, .int .i64 0]) ∧ Hid (Table w' (some ⟨g, 0, none⟩) (tz q q (otr ts))) ∧ Hid (Below w8.heap.size w8 w')) := FromTriangle_yes t q ct ts w8 (FT.out w8 HB8.out) HQl.out HFt.out
              go_wp2_with fail
              refine HC.out.mono ?_
              rintro e w9 ⟨gy, rfl, HTy, Hb⟩
              clear HC
              have HB9 : Hid (Below w.heap.size w w9) := HB8.out.trans (Hb.out.mono HB8.out.size)
              have HY9 : Hid (∀ W, Below w9.heap.size w9 W → Table W (some ⟨gy, 0, none⟩) (tz q q (otr ts))) := fun W hW => HTy.out.below hW
              clear Hb HB8
              clear HTy
              have HC : Hid (Calls Try.prog 21 #[.slice t q ct] w9 fun e w' => ∃ g k, e = .returned (.slice (some ⟨g, 0, none⟩) q k) ∧ Hid (Table w' (some ⟨g, 0, none⟩) (tz q q (otr ts))) ∧ Hid (Below w9.heap.size w9 w')) := OfTriangle_use t q ct ts w9 (FT.out w9 HB9.out) HQl.out hq1 hq7
              go_wp2_with fail
              refine HC.out.mono ?_
              rintro e w10 ⟨gv, kv, rfl, HTv, Hb⟩
              clear HC
              have HB10 : Hid (Below w.heap.size w w10) := HB9.out.trans (Hb.out.mono HB9.out.size)
              have HY10 : Hid (∀ W, Below w10.heap.size w10 W → Table W (some ⟨gy, 0, none⟩) (tz q q (otr ts))) := futL HY9.out Hb.out
              clear HY9
              have HV10 : Hid (∀ W, Below w10.heap.size w10 W → Table W (some ⟨gv, 0, none⟩) (tz q q (otr ts))) := fun W hW => HTv.out.below hW
              clear Hb HB9
              clear HTv
              have HC : Hid (Calls Try.prog 9 #[.slice (some ⟨gv, 0, none⟩) q kv] w10 fun e w' => e = .returned (.bool true) ∧ Hid (Below w10.heap.size w10 w')) := Signs_sq _ q _ (otr ts) w10 true (HV10.out w10 (Below.refl _ _)) (by omega) ⟨(fun _ => HSv.out), (fun _ => rfl)⟩
              go_wp2_with fail
              refine HC.out.mono ?_
              rintro e w11 ⟨rfl, Hb⟩
              clear HC
              have HB11 : Hid (Below w.heap.size w w11) := HB10.out.trans (Hb.out.mono HB10.out.size)
              have HY11 : Hid (∀ W, Below w11.heap.size w11 W → Table W (some ⟨gy, 0, none⟩) (tz q q (otr ts))) := futL HY10.out Hb.out
              have HV11 : Hid (∀ W, Below w11.heap.size w11 W → Table W (some ⟨gv, 0, none⟩) (tz q q (otr ts))) := futL HV10.out Hb.out
              clear HY10 HV10
              clear Hb HB10
              have HC : Hid (Calls Try.prog 16 #[.slice (some ⟨gv, 0, none⟩) q kv] w11 fun e w' => ∃ ay cy, e = .returned (.slice ay q cy) ∧ Hid (Table w' ay (tri q (otr ts))) ∧ Hid (Below w11.heap.size w11 w')) := RTriangle_use _ q _ (otr ts) w11 (HV11.out w11 (Below.refl _ _)) HSv.out
              go_wp2_with fail
              refine HC.out.mono ?_
              rintro e w12 ⟨az, cz, rfl, HTz, Hb⟩
              clear HC
              have HB12 : Hid (Below w.heap.size w w12) := HB11.out.trans (Hb.out.mono HB11.out.size)
              have HY12 : Hid (∀ W, Below w12.heap.size w12 W → Table W (some ⟨gy, 0, none⟩) (tz q q (otr ts))) := futL HY11.out Hb.out
              have HV12 : Hid (∀ W, Below w12.heap.size w12 W → Table W (some ⟨gv, 0, none⟩) (tz q q (otr ts))) := futL HV11.out Hb.out
              clear HY11 HV11
              have HZ12 : Hid (∀ W, Below w12.heap.size w12 W → Table W az (tri q (otr ts))) := fun W hW => HTz.out.below hW
              clear Hb HB11
              clear HTz
              have HC : Hid (Calls Try.prog 19 #[.slice az q cz, .slice t q ct] w12 fun e w' => e = .returned (.bool true) ∧ Hid (Below w12.heap.size w12 w')) := Rows_any _ _ q q _ _ (tri q (otr ts)) ts w12 true (HZ12.out w12 (Below.refl _ _)) (FT.out w12 HB12.out) (by rw [tri_len]) HQl.out (by rw [tri_len]; omega) ⟨(fun _ => HRv.out), (fun _ => rfl)⟩
              go_wp2_with fail
              refine HC.out.mono ?_
              rintro e w13 ⟨rfl, Hb⟩
              clear HC
              have HB13 : Hid (Below w.heap.size w w13) := HB12.out.trans (Hb.out.mono HB12.out.size)
              have HY13 : Hid (∀ W, Below w13.heap.size w13 W → Table W (some ⟨gy, 0, none⟩) (tz q q (otr ts))) := futL HY12.out Hb.out
              have HV13 : Hid (∀ W, Below w13.heap.size w13 W → Table W (some ⟨gv, 0, none⟩) (tz q q (otr ts))) := futL HV12.out Hb.out
              have HZ13 : Hid (∀ W, Below w13.heap.size w13 W → Table W az (tri q (otr ts))) := futL HZ12.out Hb.out
              clear HY12 HV12 HZ12
              clear Hb HB12
              clear HZ13
              have HC : Hid (Calls Try.prog 12 #[.slice (some ⟨gy, 0, none⟩) q q, .int .i64 0, .slice (some ⟨gv, 0, none⟩) q kv, .int .i64 0] w13 fun e w' => e = .returned (.bool true) ∧ Hid (Below w13.heap.size w13 w')) := table_same _ _ _ _ q w13 _ (HY13.out w13 (Below.refl _ _)) (HV13.out w13 (Below.refl _ _)) (by rw [tz_len]) (by rw [tz_len]; omega)
              go_wp2_with fail
              refine HC.out.mono ?_
              rintro e w14 ⟨rfl, Hb⟩
              clear HC
              have HB14 : Hid (Below w.heap.size w w14) := HB13.out.trans (Hb.out.mono HB13.out.size)
              have HY14 : Hid (∀ W, Below w14.heap.size w14 W → Table W (some ⟨gy, 0, none⟩) (tz q q (otr ts))) := futL HY13.out Hb.out
              have HV14 : Hid (∀ W, Below w14.heap.size w14 W → Table W (some ⟨gv, 0, none⟩) (tz q q (otr ts))) := futL HV13.out Hb.out
              clear HY13 HV13
              clear Hb HB13
              go_wp2
              go_ret
              exact ⟨by first | rfl | simp, HB14.out⟩
            · have HRv : Hid (¬ tri q (otr ts) = ts) := hrv
              have HFt : Hid (¬ FtOk ts) := fun h => hrv (by have := ((ft_otr ts).1 h).2; rw [← HQl.out] at this; exact this)
              clear hsv hrv
              have HC : Hid (Calls Try.prog 20 #[.slice t q ct] w8 fun e w' => e = .returned (.tuple #[.slice none 0 0, .int .i64 1]) ∧ Hid (Below w8.heap.size w8 w')) := FromTriangle_not t q ct ts w8 (FT.out w8 HB8.out) HQl.out HLt.out HFt.out
              go_wp2_with fail
              refine HC.out.mono ?_
              rintro e w9 ⟨rfl, Hb⟩
              clear HC
              have HB9 : Hid (Below w.heap.size w w9) := HB8.out.trans (Hb.out.mono HB8.out.size)
              clear Hb HB8
              have HC : Hid (Calls Try.prog 21 #[.slice t q ct] w9 fun e w' => ∃ g k, e = .returned (.slice (some ⟨g, 0, none⟩) q k) ∧ Hid (Table w' (some ⟨g, 0, none⟩) (tz q q (otr ts))) ∧ Hid (Below w9.heap.size w9 w')) := OfTriangle_use t q ct ts w9 (FT.out w9 HB9.out) HQl.out hq1 hq7
              go_wp2_with fail
              refine HC.out.mono ?_
              rintro e w10 ⟨gv, kv, rfl, HTv, Hb⟩
              clear HC
              have HB10 : Hid (Below w.heap.size w w10) := HB9.out.trans (Hb.out.mono HB9.out.size)
              have HV10 : Hid (∀ W, Below w10.heap.size w10 W → Table W (some ⟨gv, 0, none⟩) (tz q q (otr ts))) := fun W hW => HTv.out.below hW
              clear Hb HB9
              clear HTv
              have HC : Hid (Calls Try.prog 9 #[.slice (some ⟨gv, 0, none⟩) q kv] w10 fun e w' => e = .returned (.bool true) ∧ Hid (Below w10.heap.size w10 w')) := Signs_sq _ q _ (otr ts) w10 true (HV10.out w10 (Below.refl _ _)) (by omega) ⟨(fun _ => HSv.out), (fun _ => rfl)⟩
              go_wp2_with fail
              refine HC.out.mono ?_
              rintro e w11 ⟨rfl, Hb⟩
              clear HC
              have HB11 : Hid (Below w.heap.size w w11) := HB10.out.trans (Hb.out.mono HB10.out.size)
              have HV11 : Hid (∀ W, Below w11.heap.size w11 W → Table W (some ⟨gv, 0, none⟩) (tz q q (otr ts))) := futL HV10.out Hb.out
              clear HV10
              clear Hb HB10
              have HC : Hid (Calls Try.prog 16 #[.slice (some ⟨gv, 0, none⟩) q kv] w11 fun e w' => ∃ ay cy, e = .returned (.slice ay q cy) ∧ Hid (Table w' ay (tri q (otr ts))) ∧ Hid (Below w11.heap.size w11 w')) := RTriangle_use _ q _ (otr ts) w11 (HV11.out w11 (Below.refl _ _)) HSv.out
              go_wp2_with fail
              refine HC.out.mono ?_
              rintro e w12 ⟨az, cz, rfl, HTz, Hb⟩
              clear HC
              have HB12 : Hid (Below w.heap.size w w12) := HB11.out.trans (Hb.out.mono HB11.out.size)
              have HV12 : Hid (∀ W, Below w12.heap.size w12 W → Table W (some ⟨gv, 0, none⟩) (tz q q (otr ts))) := futL HV11.out Hb.out
              clear HV11
              have HZ12 : Hid (∀ W, Below w12.heap.size w12 W → Table W az (tri q (otr ts))) := fun W hW => HTz.out.below hW
              clear Hb HB11
              clear HTz
              have HC : Hid (Calls Try.prog 19 #[.slice az q cz, .slice t q ct] w12 fun e w' => e = .returned (.bool false) ∧ Hid (Below w12.heap.size w12 w')) := Rows_any _ _ q q _ _ (tri q (otr ts)) ts w12 false (HZ12.out w12 (Below.refl _ _)) (FT.out w12 HB12.out) (by rw [tri_len]) HQl.out (by rw [tri_len]; omega) ⟨(fun h => by cases h), (fun h => absurd h HRv.out)⟩
              go_wp2_with fail
              refine HC.out.mono ?_
              rintro e w13 ⟨rfl, Hb⟩
              clear HC
              have HB13 : Hid (Below w.heap.size w w13) := HB12.out.trans (Hb.out.mono HB12.out.size)
              have HV13 : Hid (∀ W, Below w13.heap.size w13 W → Table W (some ⟨gv, 0, none⟩) (tz q q (otr ts))) := futL HV12.out Hb.out
              have HZ13 : Hid (∀ W, Below w13.heap.size w13 W → Table W az (tri q (otr ts))) := futL HZ12.out Hb.out
              clear HV12 HZ12
              clear Hb HB12
              clear HZ13
              go_wp2
              go_ret
              exact ⟨by first | rfl | simp, HB13.out⟩
          · have HSv : Hid (¬ Sg q (otr ts)) := hsv
            have HFt : Hid (¬ FtOk ts) := fun h => hsv (by have := ((ft_otr ts).1 h).1; rw [← HQl.out] at this; exact this)
            clear hsv
            have HC : Hid (Calls Try.prog 20 #[.slice t q ct] w8 fun e w' => e = .returned (.tuple #[.slice none 0 0, .int .i64 1]) ∧ Hid (Below w8.heap.size w8 w')) := FromTriangle_not t q ct ts w8 (FT.out w8 HB8.out) HQl.out HLt.out HFt.out
            go_wp2_with fail
            refine HC.out.mono ?_
            rintro e w9 ⟨rfl, Hb⟩
            clear HC
            have HB9 : Hid (Below w.heap.size w w9) := HB8.out.trans (Hb.out.mono HB8.out.size)
            clear Hb HB8
            have HC : Hid (Calls Try.prog 21 #[.slice t q ct] w9 fun e w' => ∃ g k, e = .returned (.slice (some ⟨g, 0, none⟩) q k) ∧ Hid (Table w' (some ⟨g, 0, none⟩) (tz q q (otr ts))) ∧ Hid (Below w9.heap.size w9 w')) := OfTriangle_use t q ct ts w9 (FT.out w9 HB9.out) HQl.out hq1 hq7
            go_wp2_with fail
            refine HC.out.mono ?_
            rintro e w10 ⟨gv, kv, rfl, HTv, Hb⟩
            clear HC
            have HB10 : Hid (Below w.heap.size w w10) := HB9.out.trans (Hb.out.mono HB9.out.size)
            have HV10 : Hid (∀ W, Below w10.heap.size w10 W → Table W (some ⟨gv, 0, none⟩) (tz q q (otr ts))) := fun W hW => HTv.out.below hW
            clear Hb HB9
            clear HTv
            have HC : Hid (Calls Try.prog 9 #[.slice (some ⟨gv, 0, none⟩) q kv] w10 fun e w' => e = .returned (.bool false) ∧ Hid (Below w10.heap.size w10 w')) := Signs_sq _ q _ (otr ts) w10 false (HV10.out w10 (Below.refl _ _)) (by omega) ⟨(fun h => by cases h), (fun h => absurd h HSv.out)⟩
            go_wp2_with fail
            refine HC.out.mono ?_
            rintro e w11 ⟨rfl, Hb⟩
            clear HC
            have HB11 : Hid (Below w.heap.size w w11) := HB10.out.trans (Hb.out.mono HB10.out.size)
            have HV11 : Hid (∀ W, Below w11.heap.size w11 W → Table W (some ⟨gv, 0, none⟩) (tz q q (otr ts))) := futL HV10.out Hb.out
            clear HV10
            clear Hb HB10
            go_wp2
            go_ret
            exact ⟨by first | rfl | simp, HB11.out⟩
        · have HFt : Hid (¬ FtOk ts) := fun h => hsm (by have := ((ft_iff ts).1 h).1; have h1 := this.n1; have h7 := this.n7; rw [← HQl.out] at h1 h7; exact ⟨h1, h7⟩)
          by_cases hq1 : q < 1
          · have hq1' : (q : Int) < 1 := by omega
            clear hsm
            have HC : Hid (Calls Try.prog 20 #[.slice t q ct] w8 fun e w' => e = .returned (.tuple #[.slice none 0 0, .int .i64 1]) ∧ Hid (Below w8.heap.size w8 w')) := FromTriangle_not t q ct ts w8 (FT.out w8 HB8.out) HQl.out HLt.out HFt.out
            go_wp2_with fail
            refine HC.out.mono ?_
            rintro e w9 ⟨rfl, Hb⟩
            clear HC
            have HB9 : Hid (Below w.heap.size w w9) := HB8.out.trans (Hb.out.mono HB8.out.size)
            clear Hb HB8
            go_wp2
            go_ret
            exact ⟨by first | rfl | simp, HB9.out⟩
          · have hq1' : ¬ (q : Int) < 1 := by omega
            have hq7' : (7 : Int) < (q : Int) := by omega
            clear hsm
            have HC : Hid (Calls Try.prog 20 #[.slice t q ct] w8 fun e w' => e = .returned (.tuple #[.slice none 0 0, .int .i64 1]) ∧ Hid (Below w8.heap.size w8 w')) := FromTriangle_not t q ct ts w8 (FT.out w8 HB8.out) HQl.out HLt.out HFt.out
            go_wp2_with fail
            refine HC.out.mono ?_
            rintro e w9 ⟨rfl, Hb⟩
            clear HC
            have HB9 : Hid (Below w.heap.size w w9) := HB8.out.trans (Hb.out.mono HB8.out.size)
            clear Hb HB8
            go_wp2
            go_ret
            exact ⟨by first | rfl | simp, HB9.out⟩
    · have HSu : Hid (¬ Sg k (dif (box ks))) := hsu
      have HFc : Hid (¬ FcOk ks) := fun h => hsu (HFd.out.1 h).1
      clear hsu HFd
      have HC : Hid (Calls Try.prog 17 #[.slice c N cc] w3 fun e w' => e = .returned (.tuple #[.slice none 0 0, .int .i64 1]) ∧ Hid (Below w3.heap.size w3 w')) := FromCorner_not c N cc ks w3 (FC.out w3 HB3.out) HNl.out HLk.out HFc.out
      go_wp2_with fail
      refine HC.out.mono ?_
      rintro e w4 ⟨rfl, Hb⟩
      clear HC
      have HB4 : Hid (Below w.heap.size w w4) := HB3.out.trans (Hb.out.mono HB3.out.size)
      clear Hb HB3
      have HC : Hid (Calls Try.prog 18 #[.slice c N cc] w4 fun e w' => ∃ g r, e = .returned (.slice (some ⟨g, 0, none⟩) k r) ∧ Hid (TableX w' (some ⟨g, 0, none⟩) (tz k k (dif (box ks)))) ∧ Hid (Below w4.heap.size w4 w')) := OfCorners_use c N k cc ks w4 (FC.out w4 HB4.out) HNk.out HNl.out HOc.out
      go_wp2_with fail
      refine HC.out.mono ?_
      rintro e w5 ⟨gu, ku, rfl, HTu, Hb⟩
      clear HC
      have HB5 : Hid (Below w.heap.size w w5) := HB4.out.trans (Hb.out.mono HB4.out.size)
      have HU5 : Hid (∀ W, Below w5.heap.size w5 W → TableX W (some ⟨gu, 0, none⟩) (tz k k (dif (box ks)))) := fun W hW => HTu.out.below hW
      clear Hb HB4
      clear HTu
      have heq : (binOp .eql 22 (.slice (some ⟨gu, 0, none⟩) k ku) (.slice none 0 0)).run Try.prog w5 = .ok (.bool false) w5 := Lib.run_eql_slice_nil w5 22 29 (some ⟨gu, 0, none⟩) k ku 0 0 Try.underlying22
      have HC : Hid (Calls Try.prog 9 #[.slice (some ⟨gu, 0, none⟩) k ku] w5 fun e w' => e = .returned (.bool false) ∧ Hid (Below w5.heap.size w5 w')) := Signs_sq _ k _ (dif (box ks)) w5 false (HU5.out w5 (Below.refl _ _)).table (by omega) ⟨(fun h => by cases h), (fun h => absurd h HSu.out)⟩
      go_wp2_with fail
      refine HC.out.mono ?_
      rintro e w6 ⟨rfl, Hb⟩
      clear HC
      have HB6 : Hid (Below w.heap.size w w6) := HB5.out.trans (Hb.out.mono HB5.out.size)
      have HU6 : Hid (∀ W, Below w6.heap.size w6 W → TableX W (some ⟨gu, 0, none⟩) (tz k k (dif (box ks)))) := futL HU5.out Hb.out
      clear HU5
      clear Hb HB5
      clear heq
      clear HU6
      by_cases hsm : 1 ≤ q ∧ q ≤ 7
      · obtain ⟨hq1, hq7⟩ := hsm
        have hq1' : ¬ (q : Int) < 1 := by omega
        have hq7' : ¬ (7 : Int) < (q : Int) := by omega
        by_cases hsv : Sg q (otr ts)
        · have HSv : Hid (Sg q (otr ts)) := hsv
          by_cases hrv : tri q (otr ts) = ts
          · have HRv : Hid (tri q (otr ts) = ts) := hrv
            have HFt : Hid (FtOk ts) := (ft_otr ts).2 (by rw [← HQl.out]; exact ⟨hsv, hrv⟩)
            clear hsv hrv
            have HC : Hid (Calls Try.prog 20 #[.slice t q ct] w6 fun e w' => ∃ g, e = .returned (.tuple #[.slice (some ⟨g, 0, none⟩) q q, .int .i64 0]) ∧ Hid (Table w' (some ⟨g, 0, none⟩) (tz q q (otr ts))) ∧ Hid (Below w6.heap.size w6 w')) := FromTriangle_yes t q ct ts w6 (FT.out w6 HB6.out) HQl.out HFt.out
            go_wp2_with fail
            refine HC.out.mono ?_
            rintro e w7 ⟨gy, rfl, HTy, Hb⟩
            clear HC
            have HB7 : Hid (Below w.heap.size w w7) := HB6.out.trans (Hb.out.mono HB6.out.size)
            have HY7 : Hid (∀ W, Below w7.heap.size w7 W → Table W (some ⟨gy, 0, none⟩) (tz q q (otr ts))) := fun W hW => HTy.out.below hW
            clear Hb HB6
            clear HTy
            have HC : Hid (Calls Try.prog 21 #[.slice t q ct] w7 fun e w' => ∃ g k, e = .returned (.slice (some ⟨g, 0, none⟩) q k) ∧ Hid (Table w' (some ⟨g, 0, none⟩) (tz q q (otr ts))) ∧ Hid (Below w7.heap.size w7 w')) := OfTriangle_use t q ct ts w7 (FT.out w7 HB7.out) HQl.out hq1 hq7
            go_wp2_with fail
            refine HC.out.mono ?_
            rintro e w8 ⟨gv, kv, rfl, HTv, Hb⟩
            clear HC
            have HB8 : Hid (Below w.heap.size w w8) := HB7.out.trans (Hb.out.mono HB7.out.size)
            have HY8 : Hid (∀ W, Below w8.heap.size w8 W → Table W (some ⟨gy, 0, none⟩) (tz q q (otr ts))) := futL HY7.out Hb.out
            clear HY7
            have HV8 : Hid (∀ W, Below w8.heap.size w8 W → Table W (some ⟨gv, 0, none⟩) (tz q q (otr ts))) := fun W hW => HTv.out.below hW
            clear Hb HB7
            clear HTv
            have HC : Hid (Calls Try.prog 9 #[.slice (some ⟨gv, 0, none⟩) q kv] w8 fun e w' => e = .returned (.bool true) ∧ Hid (Below w8.heap.size w8 w')) := Signs_sq _ q _ (otr ts) w8 true (HV8.out w8 (Below.refl _ _)) (by omega) ⟨(fun _ => HSv.out), (fun _ => rfl)⟩
            go_wp2_with fail
            refine HC.out.mono ?_
            rintro e w9 ⟨rfl, Hb⟩
            clear HC
            have HB9 : Hid (Below w.heap.size w w9) := HB8.out.trans (Hb.out.mono HB8.out.size)
            have HY9 : Hid (∀ W, Below w9.heap.size w9 W → Table W (some ⟨gy, 0, none⟩) (tz q q (otr ts))) := futL HY8.out Hb.out
            have HV9 : Hid (∀ W, Below w9.heap.size w9 W → Table W (some ⟨gv, 0, none⟩) (tz q q (otr ts))) := futL HV8.out Hb.out
            clear HY8 HV8
            clear Hb HB8
            have HC : Hid (Calls Try.prog 16 #[.slice (some ⟨gv, 0, none⟩) q kv] w9 fun e w' => ∃ ay cy, e = .returned (.slice ay q cy) ∧ Hid (Table w' ay (tri q (otr ts))) ∧ Hid (Below w9.heap.size w9 w')) := RTriangle_use _ q _ (otr ts) w9 (HV9.out w9 (Below.refl _ _)) HSv.out
            go_wp2_with fail
            refine HC.out.mono ?_
            rintro e w10 ⟨az, cz, rfl, HTz, Hb⟩
            clear HC
            have HB10 : Hid (Below w.heap.size w w10) := HB9.out.trans (Hb.out.mono HB9.out.size)
            have HY10 : Hid (∀ W, Below w10.heap.size w10 W → Table W (some ⟨gy, 0, none⟩) (tz q q (otr ts))) := futL HY9.out Hb.out
            have HV10 : Hid (∀ W, Below w10.heap.size w10 W → Table W (some ⟨gv, 0, none⟩) (tz q q (otr ts))) := futL HV9.out Hb.out
            clear HY9 HV9
            have HZ10 : Hid (∀ W, Below w10.heap.size w10 W → Table W az (tri q (otr ts))) := fun W hW => HTz.out.below hW
            clear Hb HB9
            clear HTz
            have HC : Hid (Calls Try.prog 19 #[.slice az q cz, .slice t q ct] w10 fun e w' => e = .returned (.bool true) ∧ Hid (Below w10.heap.size w10 w')) := Rows_any _ _ q q _ _ (tri q (otr ts)) ts w10 true (HZ10.out w10 (Below.refl _ _)) (FT.out w10 HB10.out) (by rw [tri_len]) HQl.out (by rw [tri_len]; omega) ⟨(fun _ => HRv.out), (fun _ => rfl)⟩
            go_wp2_with fail
            refine HC.out.mono ?_
            rintro e w11 ⟨rfl, Hb⟩
            clear HC
            have HB11 : Hid (Below w.heap.size w w11) := HB10.out.trans (Hb.out.mono HB10.out.size)
            have HY11 : Hid (∀ W, Below w11.heap.size w11 W → Table W (some ⟨gy, 0, none⟩) (tz q q (otr ts))) := futL HY10.out Hb.out
            have HV11 : Hid (∀ W, Below w11.heap.size w11 W → Table W (some ⟨gv, 0, none⟩) (tz q q (otr ts))) := futL HV10.out Hb.out
            have HZ11 : Hid (∀ W, Below w11.heap.size w11 W → Table W az (tri q (otr ts))) := futL HZ10.out Hb.out
            clear HY10 HV10 HZ10
            clear Hb HB10
            clear HZ11
            have HC : Hid (Calls Try.prog 12 #[.slice (some ⟨gy, 0, none⟩) q q, .int .i64 0, .slice (some ⟨gv, 0, none⟩) q kv, .int .i64 0] w11 fun e w' => e = .returned (.bool true) ∧ Hid (Below w11.heap.size w11 w')) := table_same _ _ _ _ q w11 _ (HY11.out w11 (Below.refl _ _)) (HV11.out w11 (Below.refl _ _)) (by rw [tz_len]) (by rw [tz_len]; omega)
            go_wp2_with fail
            refine HC.out.mono ?_
            rintro e w12 ⟨rfl, Hb⟩
            clear HC
            have HB12 : Hid (Below w.heap.size w w12) := HB11.out.trans (Hb.out.mono HB11.out.size)
            have HY12 : Hid (∀ W, Below w12.heap.size w12 W → Table W (some ⟨gy, 0, none⟩) (tz q q (otr ts))) := futL HY11.out Hb.out
            have HV12 : Hid (∀ W, Below w12.heap.size w12 W → Table W (some ⟨gv, 0, none⟩) (tz q q (otr ts))) := futL HV11.out Hb.out
            clear HY11 HV11
            clear Hb HB11
            go_wp2
            go_ret
            exact ⟨by first | rfl | simp, HB12.out⟩
          · have HRv : Hid (¬ tri q (otr ts) = ts) := hrv
            have HFt : Hid (¬ FtOk ts) := fun h => hrv (by have := ((ft_otr ts).1 h).2; rw [← HQl.out] at this; exact this)
            clear hsv hrv
            have HC : Hid (Calls Try.prog 20 #[.slice t q ct] w6 fun e w' => e = .returned (.tuple #[.slice none 0 0, .int .i64 1]) ∧ Hid (Below w6.heap.size w6 w')) := FromTriangle_not t q ct ts w6 (FT.out w6 HB6.out) HQl.out HLt.out HFt.out
            go_wp2_with fail
            refine HC.out.mono ?_
            rintro e w7 ⟨rfl, Hb⟩
            clear HC
            have HB7 : Hid (Below w.heap.size w w7) := HB6.out.trans (Hb.out.mono HB6.out.size)
            clear Hb HB6
            have HC : Hid (Calls Try.prog 21 #[.slice t q ct] w7 fun e w' => ∃ g k, e = .returned (.slice (some ⟨g, 0, none⟩) q k) ∧ Hid (Table w' (some ⟨g, 0, none⟩) (tz q q (otr ts))) ∧ Hid (Below w7.heap.size w7 w')) := OfTriangle_use t q ct ts w7 (FT.out w7 HB7.out) HQl.out hq1 hq7
            go_wp2_with fail
            refine HC.out.mono ?_
            rintro e w8 ⟨gv, kv, rfl, HTv, Hb⟩
            clear HC
            have HB8 : Hid (Below w.heap.size w w8) := HB7.out.trans (Hb.out.mono HB7.out.size)
            have HV8 : Hid (∀ W, Below w8.heap.size w8 W → Table W (some ⟨gv, 0, none⟩) (tz q q (otr ts))) := fun W hW => HTv.out.below hW
            clear Hb HB7
            clear HTv
            have HC : Hid (Calls Try.prog 9 #[.slice (some ⟨gv, 0, none⟩) q kv] w8 fun e w' => e = .returned (.bool true) ∧ Hid (Below w8.heap.size w8 w')) := Signs_sq _ q _ (otr ts) w8 true (HV8.out w8 (Below.refl _ _)) (by omega) ⟨(fun _ => HSv.out), (fun _ => rfl)⟩
            go_wp2_with fail
            refine HC.out.mono ?_
            rintro e w9 ⟨rfl, Hb⟩
            clear HC
            have HB9 : Hid (Below w.heap.size w w9) := HB8.out.trans (Hb.out.mono HB8.out.size)
            have HV9 : Hid (∀ W, Below w9.heap.size w9 W → Table W (some ⟨gv, 0, none⟩) (tz q q (otr ts))) := futL HV8.out Hb.out
            clear HV8
            clear Hb HB8
            have HC : Hid (Calls Try.prog 16 #[.slice (some ⟨gv, 0, none⟩) q kv] w9 fun e w' => ∃ ay cy, e = .returned (.slice ay q cy) ∧ Hid (Table w' ay (tri q (otr ts))) ∧ Hid (Below w9.heap.size w9 w')) := RTriangle_use _ q _ (otr ts) w9 (HV9.out w9 (Below.refl _ _)) HSv.out
            go_wp2_with fail
            refine HC.out.mono ?_
            rintro e w10 ⟨az, cz, rfl, HTz, Hb⟩
            clear HC
            have HB10 : Hid (Below w.heap.size w w10) := HB9.out.trans (Hb.out.mono HB9.out.size)
            have HV10 : Hid (∀ W, Below w10.heap.size w10 W → Table W (some ⟨gv, 0, none⟩) (tz q q (otr ts))) := futL HV9.out Hb.out
            clear HV9
            have HZ10 : Hid (∀ W, Below w10.heap.size w10 W → Table W az (tri q (otr ts))) := fun W hW => HTz.out.below hW
            clear Hb HB9
            clear HTz
            have HC : Hid (Calls Try.prog 19 #[.slice az q cz, .slice t q ct] w10 fun e w' => e = .returned (.bool false) ∧ Hid (Below w10.heap.size w10 w')) := Rows_any _ _ q q _ _ (tri q (otr ts)) ts w10 false (HZ10.out w10 (Below.refl _ _)) (FT.out w10 HB10.out) (by rw [tri_len]) HQl.out (by rw [tri_len]; omega) ⟨(fun h => by cases h), (fun h => absurd h HRv.out)⟩
            go_wp2_with fail
            refine HC.out.mono ?_
            rintro e w11 ⟨rfl, Hb⟩
            clear HC
            have HB11 : Hid (Below w.heap.size w w11) := HB10.out.trans (Hb.out.mono HB10.out.size)
            have HV11 : Hid (∀ W, Below w11.heap.size w11 W → Table W (some ⟨gv, 0, none⟩) (tz q q (otr ts))) := futL HV10.out Hb.out
            have HZ11 : Hid (∀ W, Below w11.heap.size w11 W → Table W az (tri q (otr ts))) := futL HZ10.out Hb.out
            clear HV10 HZ10
            clear Hb HB10
            clear HZ11
            go_wp2
            go_ret
            exact ⟨by first | rfl | simp, HB11.out⟩
        · have HSv : Hid (¬ Sg q (otr ts)) := hsv
          have HFt : Hid (¬ FtOk ts) := fun h => hsv (by have := ((ft_otr ts).1 h).1; rw [← HQl.out] at this; exact this)
          clear hsv
          have HC : Hid (Calls Try.prog 20 #[.slice t q ct] w6 fun e w' => e = .returned (.tuple #[.slice none 0 0, .int .i64 1]) ∧ Hid (Below w6.heap.size w6 w')) := FromTriangle_not t q ct ts w6 (FT.out w6 HB6.out) HQl.out HLt.out HFt.out
          go_wp2_with fail
          refine HC.out.mono ?_
          rintro e w7 ⟨rfl, Hb⟩
          clear HC
          have HB7 : Hid (Below w.heap.size w w7) := HB6.out.trans (Hb.out.mono HB6.out.size)
          clear Hb HB6
          have HC : Hid (Calls Try.prog 21 #[.slice t q ct] w7 fun e w' => ∃ g k, e = .returned (.slice (some ⟨g, 0, none⟩) q k) ∧ Hid (Table w' (some ⟨g, 0, none⟩) (tz q q (otr ts))) ∧ Hid (Below w7.heap.size w7 w')) := OfTriangle_use t q ct ts w7 (FT.out w7 HB7.out) HQl.out hq1 hq7
          go_wp2_with fail
          refine HC.out.mono ?_
          rintro e w8 ⟨gv, kv, rfl, HTv, Hb⟩
          clear HC
          have HB8 : Hid (Below w.heap.size w w8) := HB7.out.trans (Hb.out.mono HB7.out.size)
          have HV8 : Hid (∀ W, Below w8.heap.size w8 W → Table W (some ⟨gv, 0, none⟩) (tz q q (otr ts))) := fun W hW => HTv.out.below hW
          clear Hb HB7
          clear HTv
          have HC : Hid (Calls Try.prog 9 #[.slice (some ⟨gv, 0, none⟩) q kv] w8 fun e w' => e = .returned (.bool false) ∧ Hid (Below w8.heap.size w8 w')) := Signs_sq _ q _ (otr ts) w8 false (HV8.out w8 (Below.refl _ _)) (by omega) ⟨(fun h => by cases h), (fun h => absurd h HSv.out)⟩
          go_wp2_with fail
          refine HC.out.mono ?_
          rintro e w9 ⟨rfl, Hb⟩
          clear HC
          have HB9 : Hid (Below w.heap.size w w9) := HB8.out.trans (Hb.out.mono HB8.out.size)
          have HV9 : Hid (∀ W, Below w9.heap.size w9 W → Table W (some ⟨gv, 0, none⟩) (tz q q (otr ts))) := futL HV8.out Hb.out
          clear HV8
          clear Hb HB8
          go_wp2
          go_ret
          exact ⟨by first | rfl | simp, HB9.out⟩
      · have HFt : Hid (¬ FtOk ts) := fun h => hsm (by have := ((ft_iff ts).1 h).1; have h1 := this.n1; have h7 := this.n7; rw [← HQl.out] at h1 h7; exact ⟨h1, h7⟩)
        by_cases hq1 : q < 1
        · have hq1' : (q : Int) < 1 := by omega
          clear hsm
          have HC : Hid (Calls Try.prog 20 #[.slice t q ct] w6 fun e w' => e = .returned (.tuple #[.slice none 0 0, .int .i64 1]) ∧ Hid (Below w6.heap.size w6 w')) := FromTriangle_not t q ct ts w6 (FT.out w6 HB6.out) HQl.out HLt.out HFt.out
          go_wp2_with fail
          refine HC.out.mono ?_
          rintro e w7 ⟨rfl, Hb⟩
          clear HC
          have HB7 : Hid (Below w.heap.size w w7) := HB6.out.trans (Hb.out.mono HB6.out.size)
          clear Hb HB6
          go_wp2
          go_ret
          exact ⟨by first | rfl | simp, HB7.out⟩
        · have hq1' : ¬ (q : Int) < 1 := by omega
          have hq7' : (7 : Int) < (q : Int) := by omega
          clear hsm
          have HC : Hid (Calls Try.prog 20 #[.slice t q ct] w6 fun e w' => e = .returned (.tuple #[.slice none 0 0, .int .i64 1]) ∧ Hid (Below w6.heap.size w6 w')) := FromTriangle_not t q ct ts w6 (FT.out w6 HB6.out) HQl.out HLt.out HFt.out
          go_wp2_with fail
          refine HC.out.mono ?_
          rintro e w7 ⟨rfl, Hb⟩
          clear HC
          have HB7 : Hid (Below w.heap.size w w7) := HB6.out.trans (Hb.out.mono HB6.out.size)
          clear Hb HB6
          go_wp2
          go_ret
          exact ⟨by first | rfl | simp, HB7.out⟩
  · have HOc : Hid (¬ OcB ks) := hoc
    have HFc : Hid (¬ FcOk ks) := fun h => hoc (fc_oc h)
    clear hoc
    have HC : Hid (Calls Try.prog 17 #[.slice c N cc] w3 fun e w' => e = .returned (.tuple #[.slice none 0 0, .int .i64 1]) ∧ Hid (Below w3.heap.size w3 w')) := FromCorner_not c N cc ks w3 (FC.out w3 HB3.out) HNl.out HLk.out HFc.out
    go_wp2_with fail
    refine HC.out.mono ?_
    rintro e w4 ⟨rfl, Hb⟩
    clear HC
    have HB4 : Hid (Below w.heap.size w w4) := HB3.out.trans (Hb.out.mono HB3.out.size)
    clear Hb HB3
    have HC : Hid (Calls Try.prog 18 #[.slice c N cc] w4 fun e w' => e = .returned (.slice none 0 0) ∧ w' = w4) := OfCorners_no c N cc ks w4 (FC.out w4 HB4.out) HNl.out HLk.out HOc.out
    have heq : (binOp .eql 22 (.slice none 0 0) (.slice none 0 0)).run Try.prog w4 = .ok (.bool true) w4 := Lib.run_eql_slice_nil w4 22 29 none 0 0 0 0 Try.underlying22
    go_wp2_with fail
    refine HC.out.mono ?_
    rintro e w4 ⟨rfl, rfl⟩
    clear HC
    by_cases hsm : 1 ≤ q ∧ q ≤ 7
    · obtain ⟨hq1, hq7⟩ := hsm
      have hq1' : ¬ (q : Int) < 1 := by omega
      have hq7' : ¬ (7 : Int) < (q : Int) := by omega
      by_cases hsv : Sg q (otr ts)
      · have HSv : Hid (Sg q (otr ts)) := hsv
        by_cases hrv : tri q (otr ts) = ts
        · have HRv : Hid (tri q (otr ts) = ts) := hrv
          have HFt : Hid (FtOk ts) := (ft_otr ts).2 (by rw [← HQl.out]; exact ⟨hsv, hrv⟩)
          clear hsv hrv
          have HC : Hid (Calls Try.prog 20 #[.slice t q ct] w4 fun e w' => ∃ g, e = .returned (.tuple #[.slice (some ⟨g, 0, none⟩) q q, .int .i64 0]) ∧ Hid (Table w' (some ⟨g, 0, none⟩) (tz q q (otr ts))) ∧ Hid (Below w4.heap.size w4 w')) := FromTriangle_yes t q ct ts w4 (FT.out w4 HB4.out) HQl.out HFt.out
          go_wp2_with fail
          refine HC.out.mono ?_
          rintro e w5 ⟨gy, rfl, HTy, Hb⟩
          clear HC
          have HB5 : Hid (Below w.heap.size w w5) := HB4.out.trans (Hb.out.mono HB4.out.size)
          have HY5 : Hid (∀ W, Below w5.heap.size w5 W → Table W (some ⟨gy, 0, none⟩) (tz q q (otr ts))) := fun W hW => HTy.out.below hW
          clear Hb HB4
          clear HTy
          have HC : Hid (Calls Try.prog 21 #[.slice t q ct] w5 fun e w' => ∃ g k, e = .returned (.slice (some ⟨g, 0, none⟩) q k) ∧ Hid (Table w' (some ⟨g, 0, none⟩) (tz q q (otr ts))) ∧ Hid (Below w5.heap.size w5 w')) := OfTriangle_use t q ct ts w5 (FT.out w5 HB5.out) HQl.out hq1 hq7
          go_wp2_with fail
          refine HC.out.mono ?_
          rintro e w6 ⟨gv, kv, rfl, HTv, Hb⟩
          clear HC
          have HB6 : Hid (Below w.heap.size w w6) := HB5.out.trans (Hb.out.mono HB5.out.size)
          have HY6 : Hid (∀ W, Below w6.heap.size w6 W → Table W (some ⟨gy, 0, none⟩) (tz q q (otr ts))) := futL HY5.out Hb.out
          clear HY5
          have HV6 : Hid (∀ W, Below w6.heap.size w6 W → Table W (some ⟨gv, 0, none⟩) (tz q q (otr ts))) := fun W hW => HTv.out.below hW
          clear Hb HB5
          clear HTv
          have HC : Hid (Calls Try.prog 9 #[.slice (some ⟨gv, 0, none⟩) q kv] w6 fun e w' => e = .returned (.bool true) ∧ Hid (Below w6.heap.size w6 w')) := Signs_sq _ q _ (otr ts) w6 true (HV6.out w6 (Below.refl _ _)) (by omega) ⟨(fun _ => HSv.out), (fun _ => rfl)⟩
          go_wp2_with fail
          refine HC.out.mono ?_
          rintro e w7 ⟨rfl, Hb⟩
          clear HC
          have HB7 : Hid (Below w.heap.size w w7) := HB6.out.trans (Hb.out.mono HB6.out.size)
          have HY7 : Hid (∀ W, Below w7.heap.size w7 W → Table W (some ⟨gy, 0, none⟩) (tz q q (otr ts))) := futL HY6.out Hb.out
          have HV7 : Hid (∀ W, Below w7.heap.size w7 W → Table W (some ⟨gv, 0, none⟩) (tz q q (otr ts))) := futL HV6.out Hb.out
          clear HY6 HV6
          clear Hb HB6
          have HC : Hid (Calls Try.prog 16 #[.slice (some ⟨gv, 0, none⟩) q kv] w7 fun e w' => ∃ ay cy, e = .returned (.slice ay q cy) ∧ Hid (Table w' ay (tri q (otr ts))) ∧ Hid (Below w7.heap.size w7 w')) := RTriangle_use _ q _ (otr ts) w7 (HV7.out w7 (Below.refl _ _)) HSv.out
          go_wp2_with fail
          refine HC.out.mono ?_
          rintro e w8 ⟨az, cz, rfl, HTz, Hb⟩
          clear HC
          have HB8 : Hid (Below w.heap.size w w8) := HB7.out.trans (Hb.out.mono HB7.out.size)
          have HY8 : Hid (∀ W, Below w8.heap.size w8 W → Table W (some ⟨gy, 0, none⟩) (tz q q (otr ts))) := futL HY7.out Hb.out
          have HV8 : Hid (∀ W, Below w8.heap.size w8 W → Table W (some ⟨gv, 0, none⟩) (tz q q (otr ts))) := futL HV7.out Hb.out
          clear HY7 HV7
          have HZ8 : Hid (∀ W, Below w8.heap.size w8 W → Table W az (tri q (otr ts))) := fun W hW => HTz.out.below hW
          clear Hb HB7
          clear HTz
          have HC : Hid (Calls Try.prog 19 #[.slice az q cz, .slice t q ct] w8 fun e w' => e = .returned (.bool true) ∧ Hid (Below w8.heap.size w8 w')) := Rows_any _ _ q q _ _ (tri q (otr ts)) ts w8 true (HZ8.out w8 (Below.refl _ _)) (FT.out w8 HB8.out) (by rw [tri_len]) HQl.out (by rw [tri_len]; omega) ⟨(fun _ => HRv.out), (fun _ => rfl)⟩
          go_wp2_with fail
          refine HC.out.mono ?_
          rintro e w9 ⟨rfl, Hb⟩
          clear HC
          have HB9 : Hid (Below w.heap.size w w9) := HB8.out.trans (Hb.out.mono HB8.out.size)
          have HY9 : Hid (∀ W, Below w9.heap.size w9 W → Table W (some ⟨gy, 0, none⟩) (tz q q (otr ts))) := futL HY8.out Hb.out
          have HV9 : Hid (∀ W, Below w9.heap.size w9 W → Table W (some ⟨gv, 0, none⟩) (tz q q (otr ts))) := futL HV8.out Hb.out
          have HZ9 : Hid (∀ W, Below w9.heap.size w9 W → Table W az (tri q (otr ts))) := futL HZ8.out Hb.out
          clear HY8 HV8 HZ8
          clear Hb HB8
          clear HZ9
          have HC : Hid (Calls Try.prog 12 #[.slice (some ⟨gy, 0, none⟩) q q, .int .i64 0, .slice (some ⟨gv, 0, none⟩) q kv, .int .i64 0] w9 fun e w' => e = .returned (.bool true) ∧ Hid (Below w9.heap.size w9 w')) := table_same _ _ _ _ q w9 _ (HY9.out w9 (Below.refl _ _)) (HV9.out w9 (Below.refl _ _)) (by rw [tz_len]) (by rw [tz_len]; omega)
          go_wp2_with fail
          refine HC.out.mono ?_
          rintro e w10 ⟨rfl, Hb⟩
          clear HC
          have HB10 : Hid (Below w.heap.size w w10) := HB9.out.trans (Hb.out.mono HB9.out.size)
          have HY10 : Hid (∀ W, Below w10.heap.size w10 W → Table W (some ⟨gy, 0, none⟩) (tz q q (otr ts))) := futL HY9.out Hb.out
          have HV10 : Hid (∀ W, Below w10.heap.size w10 W → Table W (some ⟨gv, 0, none⟩) (tz q q (otr ts))) := futL HV9.out Hb.out
          clear HY9 HV9
          clear Hb HB9
          go_wp2
          go_ret
          exact ⟨by first | rfl | simp, HB10.out⟩
        · have HRv : Hid (¬ tri q (otr ts) = ts) := hrv
          have HFt : Hid (¬ FtOk ts) := fun h => hrv (by have := ((ft_otr ts).1 h).2; rw [← HQl.out] at this; exact this)
          clear hsv hrv
          have HC : Hid (Calls Try.prog 20 #[.slice t q ct] w4 fun e w' => e = .returned (.tuple #[.slice none 0 0, .int .i64 1]) ∧ Hid (Below w4.heap.size w4 w')) := FromTriangle_not t q ct ts w4 (FT.out w4 HB4.out) HQl.out HLt.out HFt.out
          go_wp2_with fail
          refine HC.out.mono ?_
          rintro e w5 ⟨rfl, Hb⟩
          clear HC
          have HB5 : Hid (Below w.heap.size w w5) := HB4.out.trans (Hb.out.mono HB4.out.size)
          clear Hb HB4
          have HC : Hid (Calls Try.prog 21 #[.slice t q ct] w5 fun e w' => ∃ g k, e = .returned (.slice (some ⟨g, 0, none⟩) q k) ∧ Hid (Table w' (some ⟨g, 0, none⟩) (tz q q (otr ts))) ∧ Hid (Below w5.heap.size w5 w')) := OfTriangle_use t q ct ts w5 (FT.out w5 HB5.out) HQl.out hq1 hq7
          go_wp2_with fail
          refine HC.out.mono ?_
          rintro e w6 ⟨gv, kv, rfl, HTv, Hb⟩
          clear HC
          have HB6 : Hid (Below w.heap.size w w6) := HB5.out.trans (Hb.out.mono HB5.out.size)
          have HV6 : Hid (∀ W, Below w6.heap.size w6 W → Table W (some ⟨gv, 0, none⟩) (tz q q (otr ts))) := fun W hW => HTv.out.below hW
          clear Hb HB5
          clear HTv
          have HC : Hid (Calls Try.prog 9 #[.slice (some ⟨gv, 0, none⟩) q kv] w6 fun e w' => e = .returned (.bool true) ∧ Hid (Below w6.heap.size w6 w')) := Signs_sq _ q _ (otr ts) w6 true (HV6.out w6 (Below.refl _ _)) (by omega) ⟨(fun _ => HSv.out), (fun _ => rfl)⟩
          go_wp2_with fail
          refine HC.out.mono ?_
          rintro e w7 ⟨rfl, Hb⟩
          clear HC
          have HB7 : Hid (Below w.heap.size w w7) := HB6.out.trans (Hb.out.mono HB6.out.size)
          have HV7 : Hid (∀ W, Below w7.heap.size w7 W → Table W (some ⟨gv, 0, none⟩) (tz q q (otr ts))) := futL HV6.out Hb.out
          clear HV6
          clear Hb HB6
          have HC : Hid (Calls Try.prog 16 #[.slice (some ⟨gv, 0, none⟩) q kv] w7 fun e w' => ∃ ay cy, e = .returned (.slice ay q cy) ∧ Hid (Table w' ay (tri q (otr ts))) ∧ Hid (Below w7.heap.size w7 w')) := RTriangle_use _ q _ (otr ts) w7 (HV7.out w7 (Below.refl _ _)) HSv.out
          go_wp2_with fail
          refine HC.out.mono ?_
          rintro e w8 ⟨az, cz, rfl, HTz, Hb⟩
          clear HC
          have HB8 : Hid (Below w.heap.size w w8) := HB7.out.trans (Hb.out.mono HB7.out.size)
          have HV8 : Hid (∀ W, Below w8.heap.size w8 W → Table W (some ⟨gv, 0, none⟩) (tz q q (otr ts))) := futL HV7.out Hb.out
          clear HV7
          have HZ8 : Hid (∀ W, Below w8.heap.size w8 W → Table W az (tri q (otr ts))) := fun W hW => HTz.out.below hW
          clear Hb HB7
          clear HTz
          have HC : Hid (Calls Try.prog 19 #[.slice az q cz, .slice t q ct] w8 fun e w' => e = .returned (.bool false) ∧ Hid (Below w8.heap.size w8 w')) := Rows_any _ _ q q _ _ (tri q (otr ts)) ts w8 false (HZ8.out w8 (Below.refl _ _)) (FT.out w8 HB8.out) (by rw [tri_len]) HQl.out (by rw [tri_len]; omega) ⟨(fun h => by cases h), (fun h => absurd h HRv.out)⟩
          go_wp2_with fail
          refine HC.out.mono ?_
          rintro e w9 ⟨rfl, Hb⟩
          clear HC
          have HB9 : Hid (Below w.heap.size w w9) := HB8.out.trans (Hb.out.mono HB8.out.size)
          have HV9 : Hid (∀ W, Below w9.heap.size w9 W → Table W (some ⟨gv, 0, none⟩) (tz q q (otr ts))) := futL HV8.out Hb.out
          have HZ9 : Hid (∀ W, Below w9.heap.size w9 W → Table W az (tri q (otr ts))) := futL HZ8.out Hb.out
          clear HV8 HZ8
          clear Hb HB8
          clear HZ9
          go_wp2
          go_ret
          exact ⟨by first | rfl | simp, HB9.out⟩
      · have HSv : Hid (¬ Sg q (otr ts)) := hsv
        have HFt : Hid (¬ FtOk ts) := fun h => hsv (by have := ((ft_otr ts).1 h).1; rw [← HQl.out] at this; exact this)
        clear hsv
        have HC : Hid (Calls Try.prog 20 #[.slice t q ct] w4 fun e w' => e = .returned (.tuple #[.slice none 0 0, .int .i64 1]) ∧ Hid (Below w4.heap.size w4 w')) := FromTriangle_not t q ct ts w4 (FT.out w4 HB4.out) HQl.out HLt.out HFt.out
        go_wp2_with fail
        refine HC.out.mono ?_
        rintro e w5 ⟨rfl, Hb⟩
        clear HC
        have HB5 : Hid (Below w.heap.size w w5) := HB4.out.trans (Hb.out.mono HB4.out.size)
        clear Hb HB4
        have HC : Hid (Calls Try.prog 21 #[.slice t q ct] w5 fun e w' => ∃ g k, e = .returned (.slice (some ⟨g, 0, none⟩) q k) ∧ Hid (Table w' (some ⟨g, 0, none⟩) (tz q q (otr ts))) ∧ Hid (Below w5.heap.size w5 w')) := OfTriangle_use t q ct ts w5 (FT.out w5 HB5.out) HQl.out hq1 hq7
        go_wp2_with fail
        refine HC.out.mono ?_
        rintro e w6 ⟨gv, kv, rfl, HTv, Hb⟩
        clear HC
        have HB6 : Hid (Below w.heap.size w w6) := HB5.out.trans (Hb.out.mono HB5.out.size)
        have HV6 : Hid (∀ W, Below w6.heap.size w6 W → Table W (some ⟨gv, 0, none⟩) (tz q q (otr ts))) := fun W hW => HTv.out.below hW
        clear Hb HB5
        clear HTv
        have HC : Hid (Calls Try.prog 9 #[.slice (some ⟨gv, 0, none⟩) q kv] w6 fun e w' => e = .returned (.bool false) ∧ Hid (Below w6.heap.size w6 w')) := Signs_sq _ q _ (otr ts) w6 false (HV6.out w6 (Below.refl _ _)) (by omega) ⟨(fun h => by cases h), (fun h => absurd h HSv.out)⟩
        go_wp2_with fail
        refine HC.out.mono ?_
        rintro e w7 ⟨rfl, Hb⟩
        clear HC
        have HB7 : Hid (Below w.heap.size w w7) := HB6.out.trans (Hb.out.mono HB6.out.size)
        have HV7 : Hid (∀ W, Below w7.heap.size w7 W → Table W (some ⟨gv, 0, none⟩) (tz q q (otr ts))) := futL HV6.out Hb.out
        clear HV6
        clear Hb HB6
        go_wp2
        go_ret
        exact ⟨by first | rfl | simp, HB7.out⟩
    · have HFt : Hid (¬ FtOk ts) := fun h => hsm (by have := ((ft_iff ts).1 h).1; have h1 := this.n1; have h7 := this.n7; rw [← HQl.out] at h1 h7; exact ⟨h1, h7⟩)
      by_cases hq1 : q < 1
      · have hq1' : (q : Int) < 1 := by omega
        clear hsm
        have HC : Hid (Calls Try.prog 20 #[.slice t q ct] w4 fun e w' => e = .returned (.tuple #[.slice none 0 0, .int .i64 1]) ∧ Hid (Below w4.heap.size w4 w')) := FromTriangle_not t q ct ts w4 (FT.out w4 HB4.out) HQl.out HLt.out HFt.out
        go_wp2_with fail
        refine HC.out.mono ?_
        rintro e w5 ⟨rfl, Hb⟩
        clear HC
        have HB5 : Hid (Below w.heap.size w w5) := HB4.out.trans (Hb.out.mono HB4.out.size)
        clear Hb HB4
        go_wp2
        go_ret
        exact ⟨by first | rfl | simp, HB5.out⟩
      · have hq1' : ¬ (q : Int) < 1 := by omega
        have hq7' : (7 : Int) < (q : Int) := by omega
        clear hsm
        have HC : Hid (Calls Try.prog 20 #[.slice t q ct] w4 fun e w' => e = .returned (.tuple #[.slice none 0 0, .int .i64 1]) ∧ Hid (Below w4.heap.size w4 w')) := FromTriangle_not t q ct ts w4 (FT.out w4 HB4.out) HQl.out HLt.out HFt.out
        go_wp2_with fail
        refine HC.out.mono ?_
        rintro e w5 ⟨rfl, Hb⟩
        clear HC
        have HB5 : Hid (Below w.heap.size w w5) := HB4.out.trans (Hb.out.mono HB4.out.size)
        clear Hb HB4
        go_wp2
        go_ret
        exact ⟨by first | rfl | simp, HB5.out⟩

end Go.Proofs.Ytfpbccahmipliaa
