/-
  The law ferkeep.SignsLattice: the third does not go with them.
-/
import Derived.Test.YtfpbccahmipliaaJLtb
namespace Go.Proofs.Ytfpbccahmipliaa
open Go.RowKit

set_option maxHeartbeats 16000000 in
set_option maxRecDepth 100000 in
theorem slat_three (a b c : Option Addr) (n l ca cb cc : Nat) (A B : Nat → Nat → Int) (ks : List (List Int)) (w : World) (hs : Table w a (tz n n A)) (ht : Table w b (tz n n B)) (hc : Table w c ks) (p : Sg n A) (q : Sg n B) (hl : l = ks.length) (hk : ks.length ≤ 17592186044416) (hno : ¬ (SgL ks ∧ ks.length = n)) :
    Calls Try.prog 5 #[.slice a n ca, .slice b n cb, .slice c l cc] w fun e w' => e = .returned (.bool true) ∧ Below w.heap.size w w' := by
  have FA : Hid (∀ W, Below w.heap.size w W → Table W a (tz n n A)) := fun W hW => hs.below hW
  have FB : Hid (∀ W, Below w.heap.size w W → Table W b (tz n n B)) := fun W hW => ht.below hW
  have HPa : Hid (Sg n A) := p
  have HPb : Hid (Sg n B) := q
  have HPm : Hid (Sg n (mee A B)) := p.mee q
  have HPj : Hid (Sg n (joi A B)) := p.joi q
  have n1 := p.n1
  have n7 := p.n7
  obtain ⟨o, Ho⟩ := bel_ex n A B
  have FC : Hid (∀ W, Below w.heap.size w W → Table W c ks) := fun W hW => hc.below hW
  have HLl : Hid (l = ks.length) := hl
  have HLk : Hid (ks.length ≤ 17592186044416) := hk
  obtain ⟨E1, hE1⟩ := two_ex ks (tz n n A)
  have HE1 : Hid (TwoE ks (tz n n A) E1) := hE1
  have hZ1 : (E1 != 0) = true := by
    by_cases h : SgL ks
    · rw [hE1.shape h (sg_list.2 p) (fun e => hno ⟨h, by rw [tz_len] at e; exact e⟩)]; rfl
    · rw [hE1.bad (fun q => h q.1)]; rfl
  have hY1 : (E1 == 0) = false := by simpa using hZ1
  obtain ⟨E2, hE2⟩ := two_ex ks (tz n n B)
  have HE2 : Hid (TwoE ks (tz n n B) E2) := hE2
  have hZ2 : (E2 != 0) = true := by
    by_cases h : SgL ks
    · rw [hE2.shape h (sg_list.2 q) (fun e => hno ⟨h, by rw [tz_len] at e; exact e⟩)]; rfl
    · rw [hE2.bad (fun q => h q.1)]; rfl
  have hY2 : (E2 == 0) = false := by simpa using hZ2
  obtain ⟨E3, hE3⟩ := two_ex (tz n n A) ks
  have HE3 : Hid (TwoE (tz n n A) ks E3) := hE3
  have hZ3 : (E3 != 0) = true := by
    by_cases h : SgL ks
    · rw [hE3.shape (sg_list.2 p) h (fun e => hno ⟨h, by rw [tz_len] at e; exact e.symm⟩)]; rfl
    · rw [hE3.bad (fun q => h q.2)]; rfl
  have hY3 : (E3 == 0) = false := by simpa using hZ3
  obtain ⟨E4, hE4⟩ := two_ex (tz n n B) ks
  have HE4 : Hid (TwoE (tz n n B) ks E4) := hE4
  have hZ4 : (E4 != 0) = true := by
    by_cases h : SgL ks
    · rw [hE4.shape (sg_list.2 q) h (fun e => hno ⟨h, by rw [tz_len] at e; exact e.symm⟩)]; rfl
    · rw [hE4.bad (fun q => h q.2)]; rfl
  have hY4 : (E4 == 0) = false := by simpa using hZ4
  clear hs ht hc p q hl hk hno hE1 hE2 hE3 hE4
  go_enter Try.func5, Try.ntmps5
  go_wp2_with fail
  refine (head_meet w).mono ?_
  rintro e w1 ⟨g0, gs0, rfl, HR0, HB1⟩
  have HC := hid_w (head_rows g0 gs0 w1 HR0)
  go_wp2_with fail
  refine HC.out.mono ?_
  rintro e w2 ⟨rfl, Hb⟩
  have HB2 : Hid (Below w.heap.size w w2) := HB1.out.trans (Hb.out.mono HB1.out.size)
  clear HC Hb HB1 HR0
  have HC : Hid (Calls Try.prog 14 #[.slice a n ca] w2 fun e w' => ∃ g gs, e = .returned (.tuple #[.slice (some ⟨g, 0, none⟩) (n + 1) (n + 1), .int .i64 0]) ∧ w2.heap.size ≤ g ∧ Hid (Rez w' g g (n + 1) (n + 1) gs (cor A)) ∧ Hid (Below w2.heap.size w2 w')) := Corner_ok a n n ca A w2 (FA.out w2 HB2.out) rfl HPa.out
  go_wp2_with fail
  refine HC.out.mono ?_
  rintro e w3 ⟨gx, gsx, rfl, hgx, HRx, Hb⟩
  clear HC
  have HB3 : Hid (Below w.heap.size w w3) := HB2.out.trans (Hb.out.mono HB2.out.size)
  have HX3 : Hid (∀ W, Below w3.heap.size w3 W → Table W (some ⟨gx, 0, none⟩) (tz (n + 1) (n + 1) (cor A))) := fun W hW => (HRx.out.below hW).table (by omega) (fun i hi j hj => by have := HPa.out.kc.bound7 (i := i) (j := j) (by omega) (by omega); omega)
  clear Hb HB2
  clear hgx HRx
  have HC : Hid (Calls Try.prog 15 #[.slice a n ca] w3 fun e w' => ∃ ay cy, e = .returned (.tuple #[.slice ay n cy, .int .i64 0]) ∧ Hid (Table w' ay (tri n A)) ∧ Hid (Below w3.heap.size w3 w')) := Triangle_use a n ca A w3 (FA.out w3 HB3.out) HPa.out
  go_wp2_with fail
  refine HC.out.mono ?_
  rintro e w4 ⟨ay, cy, rfl, HTy, Hb⟩
  clear HC
  have HB4 : Hid (Below w.heap.size w w4) := HB3.out.trans (Hb.out.mono HB3.out.size)
  have HX4 : Hid (∀ W, Below w4.heap.size w4 W → Table W (some ⟨gx, 0, none⟩) (tz (n + 1) (n + 1) (cor A))) := futL HX3.out Hb.out
  clear HX3
  have HY4 : Hid (∀ W, Below w4.heap.size w4 W → Table W ay (tri n A)) := fun W hW => HTy.out.below hW
  clear Hb HB3
  clear HTy
  have HC : Hid (Calls Try.prog 17 #[.slice (some ⟨gx, 0, none⟩) (n + 1) (n + 1)] w4 fun e w' => ∃ h gs, e = .returned (.tuple #[.slice (some ⟨h, 0, none⟩) n n, .int .i64 0]) ∧ Hid (Rez w' h h n n gs A) ∧ Hid (Below w4.heap.size w4 w')) := FromCorner_ok gx n A w4 (HX4.out w4 (Below.refl _ _)) HPa.out
  go_wp2_with fail
  refine HC.out.mono ?_
  rintro e w5 ⟨gu, gsu, rfl, HRu, Hb⟩
  clear HC
  have HB5 : Hid (Below w.heap.size w w5) := HB4.out.trans (Hb.out.mono HB4.out.size)
  have HX5 : Hid (∀ W, Below w5.heap.size w5 W → Table W (some ⟨gx, 0, none⟩) (tz (n + 1) (n + 1) (cor A))) := futL HX4.out Hb.out
  have HY5 : Hid (∀ W, Below w5.heap.size w5 W → Table W ay (tri n A)) := futL HY4.out Hb.out
  clear HX4 HY4
  have HU5 : Hid (∀ W, Below w5.heap.size w5 W → Table W (some ⟨gu, 0, none⟩) (tz n n (A))) := fun W hW => (HRu.out.below hW).table (by omega) HPa.out.lowL
  clear Hb HB4
  clear HRu HX5
  have HC : Hid (Calls Try.prog 20 #[.slice ay n cy] w5 fun e w' => ∃ h gs, e = .returned (.tuple #[.slice (some ⟨h, 0, none⟩) n n, .int .i64 0]) ∧ Hid (Rez w' h h n n gs A) ∧ Hid (Below w5.heap.size w5 w')) := FromTriangle_ok ay n cy A w5 (HY5.out w5 (Below.refl _ _)) HPa.out
  go_wp2_with fail
  refine HC.out.mono ?_
  rintro e w6 ⟨gv, gsv, rfl, HRv, Hb⟩
  clear HC
  have HB6 : Hid (Below w.heap.size w w6) := HB5.out.trans (Hb.out.mono HB5.out.size)
  have HY6 : Hid (∀ W, Below w6.heap.size w6 W → Table W ay (tri n A)) := futL HY5.out Hb.out
  have HU6 : Hid (∀ W, Below w6.heap.size w6 W → Table W (some ⟨gu, 0, none⟩) (tz n n (A))) := futL HU5.out Hb.out
  clear HY5 HU5
  have HV6 : Hid (∀ W, Below w6.heap.size w6 W → Table W (some ⟨gv, 0, none⟩) (tz n n (A))) := fun W hW => (HRv.out.below hW).table (by omega) HPa.out.lowL
  clear Hb HB5
  clear HRv HY6
  have HC : Hid (Calls Try.prog 19 #[.slice (some ⟨gu, 0, none⟩) n n, .slice a n ca] w6 fun e w' => e = .returned (.bool true) ∧ Hid (Below w6.heap.size w6 w')) := Rows_same _ _ n _ _ A w6 (HU6.out w6 (Below.refl _ _)) (FA.out w6 HB6.out) (by omega)
  go_wp2_with fail
  refine HC.out.mono ?_
  rintro e w7 ⟨rfl, Hb⟩
  clear HC
  have HB7 : Hid (Below w.heap.size w w7) := HB6.out.trans (Hb.out.mono HB6.out.size)
  have HU7 : Hid (∀ W, Below w7.heap.size w7 W → Table W (some ⟨gu, 0, none⟩) (tz n n (A))) := futL HU6.out Hb.out
  have HV7 : Hid (∀ W, Below w7.heap.size w7 W → Table W (some ⟨gv, 0, none⟩) (tz n n (A))) := futL HV6.out Hb.out
  clear HU6 HV6
  clear Hb HB6
  clear HU7
  have HC : Hid (Calls Try.prog 19 #[.slice (some ⟨gv, 0, none⟩) n n, .slice a n ca] w7 fun e w' => e = .returned (.bool true) ∧ Hid (Below w7.heap.size w7 w')) := Rows_same _ _ n _ _ A w7 (HV7.out w7 (Below.refl _ _)) (FA.out w7 HB7.out) (by omega)
  go_wp2_with fail
  refine HC.out.mono ?_
  rintro e w8 ⟨rfl, Hb⟩
  clear HC
  have HB8 : Hid (Below w.heap.size w w8) := HB7.out.trans (Hb.out.mono HB7.out.size)
  have HV8 : Hid (∀ W, Below w8.heap.size w8 W → Table W (some ⟨gv, 0, none⟩) (tz n n (A))) := futL HV7.out Hb.out
  clear HV7
  clear Hb HB7
  clear HV8
  have HC : Hid (Calls Try.prog 6 #[.slice a n ca, .slice b n cb] w8 fun e w' => ∃ g gs, e = .returned (.tuple #[.slice (some ⟨g, 0, none⟩) n n, .int .i64 0]) ∧ w8.heap.size ≤ g ∧ Hid (Rez w' g g n n gs (mee A B)) ∧ Hid (Below w8.heap.size w8 w')) := Meet_ok a b n n n ca cb A B w8 (FA.out w8 HB8.out) (FB.out w8 HB8.out) rfl rfl HPa.out HPb.out
  go_wp2_with fail
  refine HC.out.mono ?_
  rintro e w9 ⟨gm, gsgm, rfl, hg9, HR9, Hb⟩
  clear HC
  have HB9 : Hid (Below w.heap.size w w9) := HB8.out.trans (Hb.out.mono HB8.out.size)
  have HM9 : Hid (∀ W, Below w9.heap.size w9 W → Table W (some ⟨gm, 0, none⟩) (tz n n (mee A B))) := fun W hW => (HR9.out.below hW).table (by omega) HPm.out.lowL
  clear Hb HB8
  clear hg9 HR9
  have HC : Hid (Calls Try.prog 7 #[.slice a n ca, .slice b n cb] w9 fun e w' => ∃ g gs, e = .returned (.tuple #[.slice (some ⟨g, 0, none⟩) n n, .int .i64 0]) ∧ w9.heap.size ≤ g ∧ Hid (Rez w' g g n n gs (joi A B)) ∧ Hid (Below w9.heap.size w9 w')) := Join_ok a b n n n ca cb A B w9 (FA.out w9 HB9.out) (FB.out w9 HB9.out) rfl rfl HPa.out HPb.out
  go_wp2_with fail
  refine HC.out.mono ?_
  rintro e w10 ⟨gj, gsgj, rfl, hg9, HR9, Hb⟩
  clear HC
  have HB10 : Hid (Below w.heap.size w w10) := HB9.out.trans (Hb.out.mono HB9.out.size)
  have HM10 : Hid (∀ W, Below w10.heap.size w10 W → Table W (some ⟨gm, 0, none⟩) (tz n n (mee A B))) := futL HM9.out Hb.out
  clear HM9
  have HJ10 : Hid (∀ W, Below w10.heap.size w10 W → Table W (some ⟨gj, 0, none⟩) (tz n n (joi A B))) := fun W hW => (HR9.out.below hW).table (by omega) HPj.out.lowL
  clear Hb HB9
  clear hg9 HR9
  have HC : Hid (Calls Try.prog 8 #[.slice (some ⟨gm, 0, none⟩) n n, .slice a n ca] w10 fun e w' => e = .returned (.tuple #[.bool true, .int .i64 0]) ∧ Hid (Below w10.heap.size w10 w')) := SgBelow_ok _ _ n n n _ _ (mee A B) (A) w10 true (HM10.out w10 (Below.refl _ _)) (FA.out w10 HB10.out) rfl rfl HPm.out HPa.out ⟨fun _ => (bel_mee HPa.out HPb.out).1, fun _ => rfl⟩
  go_wp2_with fail
  refine HC.out.mono ?_
  rintro e w11 ⟨rfl, Hb⟩
  clear HC
  have HB11 : Hid (Below w.heap.size w w11) := HB10.out.trans (Hb.out.mono HB10.out.size)
  have HM11 : Hid (∀ W, Below w11.heap.size w11 W → Table W (some ⟨gm, 0, none⟩) (tz n n (mee A B))) := futL HM10.out Hb.out
  have HJ11 : Hid (∀ W, Below w11.heap.size w11 W → Table W (some ⟨gj, 0, none⟩) (tz n n (joi A B))) := futL HJ10.out Hb.out
  clear HM10 HJ10
  clear Hb HB10
  have HC : Hid (Calls Try.prog 8 #[.slice (some ⟨gm, 0, none⟩) n n, .slice b n cb] w11 fun e w' => e = .returned (.tuple #[.bool true, .int .i64 0]) ∧ Hid (Below w11.heap.size w11 w')) := SgBelow_ok _ _ n n n _ _ (mee A B) (B) w11 true (HM11.out w11 (Below.refl _ _)) (FB.out w11 HB11.out) rfl rfl HPm.out HPb.out ⟨fun _ => (bel_mee HPa.out HPb.out).2, fun _ => rfl⟩
  go_wp2_with fail
  refine HC.out.mono ?_
  rintro e w12 ⟨rfl, Hb⟩
  clear HC
  have HB12 : Hid (Below w.heap.size w w12) := HB11.out.trans (Hb.out.mono HB11.out.size)
  have HM12 : Hid (∀ W, Below w12.heap.size w12 W → Table W (some ⟨gm, 0, none⟩) (tz n n (mee A B))) := futL HM11.out Hb.out
  have HJ12 : Hid (∀ W, Below w12.heap.size w12 W → Table W (some ⟨gj, 0, none⟩) (tz n n (joi A B))) := futL HJ11.out Hb.out
  clear HM11 HJ11
  clear Hb HB11
  have HC : Hid (Calls Try.prog 8 #[.slice a n ca, .slice (some ⟨gj, 0, none⟩) n n] w12 fun e w' => e = .returned (.tuple #[.bool true, .int .i64 0]) ∧ Hid (Below w12.heap.size w12 w')) := SgBelow_ok _ _ n n n _ _ (A) (joi A B) w12 true (FA.out w12 HB12.out) (HJ12.out w12 (Below.refl _ _)) rfl rfl HPa.out HPj.out ⟨fun _ => (bel_joi HPa.out HPb.out).1, fun _ => rfl⟩
  go_wp2_with fail
  refine HC.out.mono ?_
  rintro e w13 ⟨rfl, Hb⟩
  clear HC
  have HB13 : Hid (Below w.heap.size w w13) := HB12.out.trans (Hb.out.mono HB12.out.size)
  have HM13 : Hid (∀ W, Below w13.heap.size w13 W → Table W (some ⟨gm, 0, none⟩) (tz n n (mee A B))) := futL HM12.out Hb.out
  have HJ13 : Hid (∀ W, Below w13.heap.size w13 W → Table W (some ⟨gj, 0, none⟩) (tz n n (joi A B))) := futL HJ12.out Hb.out
  clear HM12 HJ12
  clear Hb HB12
  have HC : Hid (Calls Try.prog 8 #[.slice b n cb, .slice (some ⟨gj, 0, none⟩) n n] w13 fun e w' => e = .returned (.tuple #[.bool true, .int .i64 0]) ∧ Hid (Below w13.heap.size w13 w')) := SgBelow_ok _ _ n n n _ _ (B) (joi A B) w13 true (FB.out w13 HB13.out) (HJ13.out w13 (Below.refl _ _)) rfl rfl HPb.out HPj.out ⟨fun _ => (bel_joi HPa.out HPb.out).2, fun _ => rfl⟩
  go_wp2_with fail
  refine HC.out.mono ?_
  rintro e w14 ⟨rfl, Hb⟩
  clear HC
  have HB14 : Hid (Below w.heap.size w w14) := HB13.out.trans (Hb.out.mono HB13.out.size)
  have HM14 : Hid (∀ W, Below w14.heap.size w14 W → Table W (some ⟨gm, 0, none⟩) (tz n n (mee A B))) := futL HM13.out Hb.out
  have HJ14 : Hid (∀ W, Below w14.heap.size w14 W → Table W (some ⟨gj, 0, none⟩) (tz n n (joi A B))) := futL HJ13.out Hb.out
  clear HM13 HJ13
  clear Hb HB13
  have HC : Hid (Calls Try.prog 8 #[.slice a n ca, .slice b n cb] w14 fun e w' => e = .returned (.tuple #[.bool o, .int .i64 0]) ∧ Hid (Below w14.heap.size w14 w')) := SgBelow_ok _ _ n n n _ _ (A) (B) w14 o (FA.out w14 HB14.out) (FB.out w14 HB14.out) rfl rfl HPa.out HPb.out Ho
  go_wp2_with fail
  refine HC.out.mono ?_
  rintro e w15 ⟨rfl, Hb⟩
  clear HC
  have HB15 : Hid (Below w.heap.size w w15) := HB14.out.trans (Hb.out.mono HB14.out.size)
  have HM15 : Hid (∀ W, Below w15.heap.size w15 W → Table W (some ⟨gm, 0, none⟩) (tz n n (mee A B))) := futL HM14.out Hb.out
  have HJ15 : Hid (∀ W, Below w15.heap.size w15 W → Table W (some ⟨gj, 0, none⟩) (tz n n (joi A B))) := futL HJ14.out Hb.out
  clear HM14 HJ14
  clear Hb HB14
  have HC : Hid (Calls Try.prog 22 #[.slice (some ⟨gm, 0, none⟩) n n] w15 fun e w' => e = .returned (.int .i64 0) ∧ Hid (Below w15.heap.size w15 w')) := Check_ok _ n n _ w15 (HM15.out w15 (Below.refl _ _)) HPm.out
  go_wp2_with fail
  refine HC.out.mono ?_
  rintro e w16 ⟨rfl, Hb⟩
  clear HC
  have HB16 : Hid (Below w.heap.size w w16) := HB15.out.trans (Hb.out.mono HB15.out.size)
  have HM16 : Hid (∀ W, Below w16.heap.size w16 W → Table W (some ⟨gm, 0, none⟩) (tz n n (mee A B))) := futL HM15.out Hb.out
  have HJ16 : Hid (∀ W, Below w16.heap.size w16 W → Table W (some ⟨gj, 0, none⟩) (tz n n (joi A B))) := futL HJ15.out Hb.out
  clear HM15 HJ15
  clear Hb HB15
  have HC : Hid (Calls Try.prog 22 #[.slice (some ⟨gj, 0, none⟩) n n] w16 fun e w' => e = .returned (.int .i64 0) ∧ Hid (Below w16.heap.size w16 w')) := Check_ok _ n n _ w16 (HJ16.out w16 (Below.refl _ _)) HPj.out
  go_wp2_with fail
  refine HC.out.mono ?_
  rintro e w17 ⟨rfl, Hb⟩
  clear HC
  have HB17 : Hid (Below w.heap.size w w17) := HB16.out.trans (Hb.out.mono HB16.out.size)
  have HM17 : Hid (∀ W, Below w17.heap.size w17 W → Table W (some ⟨gm, 0, none⟩) (tz n n (mee A B))) := futL HM16.out Hb.out
  have HJ17 : Hid (∀ W, Below w17.heap.size w17 W → Table W (some ⟨gj, 0, none⟩) (tz n n (joi A B))) := futL HJ16.out Hb.out
  clear HM16 HJ16
  clear Hb HB16
  have HC : Hid (Calls Try.prog 19 #[.slice (some ⟨gm, 0, none⟩) n n, .slice a n ca] w17 fun e w' => e = .returned (.bool o) ∧ Hid (Below w17.heap.size w17 w')) := Rows_bool _ _ n _ _ (mee A B) A w17 o (HM17.out w17 (Below.refl _ _)) (FA.out w17 HB17.out) (by omega) (Ho.out.trans (bel_iff_mee HPa.out HPb.out))
  go_wp2_with fail
  refine HC.out.mono ?_
  rintro e w18 ⟨rfl, Hb⟩
  clear HC
  have HB18 : Hid (Below w.heap.size w w18) := HB17.out.trans (Hb.out.mono HB17.out.size)
  have HM18 : Hid (∀ W, Below w18.heap.size w18 W → Table W (some ⟨gm, 0, none⟩) (tz n n (mee A B))) := futL HM17.out Hb.out
  have HJ18 : Hid (∀ W, Below w18.heap.size w18 W → Table W (some ⟨gj, 0, none⟩) (tz n n (joi A B))) := futL HJ17.out Hb.out
  clear HM17 HJ17
  clear Hb HB17
  have hoo : (o != o) = false := by simp
  have HC : Hid (Calls Try.prog 19 #[.slice (some ⟨gj, 0, none⟩) n n, .slice b n cb] w18 fun e w' => e = .returned (.bool o) ∧ Hid (Below w18.heap.size w18 w')) := Rows_bool _ _ n _ _ (joi A B) B w18 o (HJ18.out w18 (Below.refl _ _)) (FB.out w18 HB18.out) (by omega) (Ho.out.trans (bel_iff_joi HPa.out HPb.out))
  go_wp2_with fail
  refine HC.out.mono ?_
  rintro e w19 ⟨rfl, Hb⟩
  clear HC
  have HB19 : Hid (Below w.heap.size w w19) := HB18.out.trans (Hb.out.mono HB18.out.size)
  have HM19 : Hid (∀ W, Below w19.heap.size w19 W → Table W (some ⟨gm, 0, none⟩) (tz n n (mee A B))) := futL HM18.out Hb.out
  have HJ19 : Hid (∀ W, Below w19.heap.size w19 W → Table W (some ⟨gj, 0, none⟩) (tz n n (joi A B))) := futL HJ18.out Hb.out
  clear HM18 HJ18
  clear Hb HB18
  have HC : Hid (Calls Try.prog 8 #[.slice c l cc, .slice a n ca] w19 fun e w' => e = .returned (.tuple #[.bool false, .int .i64 E1]) ∧ Hid (Below w19.heap.size w19 w')) := SgBelow_no _ _ _ _ _ _ ks (tz n n A) w19 E1 (FC.out w19 HB19.out) (FA.out w19 HB19.out) HLl.out (by rw [tz_len]) HLk.out (by rw [tz_len]; omega) HE1 hZ1
  go_wp2_with fail
  refine HC.out.mono ?_
  rintro e w20 ⟨rfl, Hb⟩
  clear HC
  have HB20 : Hid (Below w.heap.size w w20) := HB19.out.trans (Hb.out.mono HB19.out.size)
  have HM20 : Hid (∀ W, Below w20.heap.size w20 W → Table W (some ⟨gm, 0, none⟩) (tz n n (mee A B))) := futL HM19.out Hb.out
  have HJ20 : Hid (∀ W, Below w20.heap.size w20 W → Table W (some ⟨gj, 0, none⟩) (tz n n (joi A B))) := futL HJ19.out Hb.out
  clear HM19 HJ19
  clear Hb HB19
  have HC : Hid (Calls Try.prog 8 #[.slice c l cc, .slice b n cb] w20 fun e w' => e = .returned (.tuple #[.bool false, .int .i64 E2]) ∧ Hid (Below w20.heap.size w20 w')) := SgBelow_no _ _ _ _ _ _ ks (tz n n B) w20 E2 (FC.out w20 HB20.out) (FB.out w20 HB20.out) HLl.out (by rw [tz_len]) HLk.out (by rw [tz_len]; omega) HE2 hZ2
  go_wp2_with fail
  refine HC.out.mono ?_
  rintro e w21 ⟨rfl, Hb⟩
  clear HC
  have HB21 : Hid (Below w.heap.size w w21) := HB20.out.trans (Hb.out.mono HB20.out.size)
  have HM21 : Hid (∀ W, Below w21.heap.size w21 W → Table W (some ⟨gm, 0, none⟩) (tz n n (mee A B))) := futL HM20.out Hb.out
  have HJ21 : Hid (∀ W, Below w21.heap.size w21 W → Table W (some ⟨gj, 0, none⟩) (tz n n (joi A B))) := futL HJ20.out Hb.out
  clear HM20 HJ20
  clear Hb HB20
  have HC : Hid (Calls Try.prog 8 #[.slice a n ca, .slice c l cc] w21 fun e w' => e = .returned (.tuple #[.bool false, .int .i64 E3]) ∧ Hid (Below w21.heap.size w21 w')) := SgBelow_no _ _ _ _ _ _ (tz n n A) ks w21 E3 (FA.out w21 HB21.out) (FC.out w21 HB21.out) (by rw [tz_len]) HLl.out (by rw [tz_len]; omega) HLk.out HE3 hZ3
  go_wp2_with fail
  refine HC.out.mono ?_
  rintro e w22 ⟨rfl, Hb⟩
  clear HC
  have HB22 : Hid (Below w.heap.size w w22) := HB21.out.trans (Hb.out.mono HB21.out.size)
  have HM22 : Hid (∀ W, Below w22.heap.size w22 W → Table W (some ⟨gm, 0, none⟩) (tz n n (mee A B))) := futL HM21.out Hb.out
  have HJ22 : Hid (∀ W, Below w22.heap.size w22 W → Table W (some ⟨gj, 0, none⟩) (tz n n (joi A B))) := futL HJ21.out Hb.out
  clear HM21 HJ21
  clear Hb HB21
  have HC : Hid (Calls Try.prog 8 #[.slice b n cb, .slice c l cc] w22 fun e w' => e = .returned (.tuple #[.bool false, .int .i64 E4]) ∧ Hid (Below w22.heap.size w22 w')) := SgBelow_no _ _ _ _ _ _ (tz n n B) ks w22 E4 (FB.out w22 HB22.out) (FC.out w22 HB22.out) (by rw [tz_len]) HLl.out (by rw [tz_len]; omega) HLk.out HE4 hZ4
  go_wp2_with fail
  refine HC.out.mono ?_
  rintro e w23 ⟨rfl, Hb⟩
  clear HC
  have HB23 : Hid (Below w.heap.size w w23) := HB22.out.trans (Hb.out.mono HB22.out.size)
  have HM23 : Hid (∀ W, Below w23.heap.size w23 W → Table W (some ⟨gm, 0, none⟩) (tz n n (mee A B))) := futL HM22.out Hb.out
  have HJ23 : Hid (∀ W, Below w23.heap.size w23 W → Table W (some ⟨gj, 0, none⟩) (tz n n (joi A B))) := futL HJ22.out Hb.out
  clear HM22 HJ22
  clear Hb HB22
  go_wp2
  go_ret
  exact ⟨rfl, HB23.out⟩

end Go.Proofs.Ytfpbccahmipliaa
