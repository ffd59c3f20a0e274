/-
  The law ferkeep.SignsLattice: the first two do not go together.
-/
import Derived.Test.YtfpbccahmipliaaJLtb
namespace Go.Proofs.Ytfpbccahmipliaa
open Go.RowKit

set_option maxHeartbeats 16000000 in
set_option maxRecDepth 100000 in
theorem slat_two (a b c : Option Addr) (n m l ca cb cc : Nat) (A : Nat → Nat → Int) (ms : List (List Int)) (w : World) (hs : Table w a (tz n n A)) (ht : Table w b ms) (p : Sg n A) (hm : m = ms.length) (hk : ms.length ≤ 17592186044416) (hno : ¬ (SgL ms ∧ ms.length = n)) :
    Calls Try.prog 5 #[.slice a n ca, .slice b m cb, .slice c l cc] w fun e w' => e = .returned (.bool true) ∧ Below w.heap.size w w' := by
  have FA : Hid (∀ W, Below w.heap.size w W → Table W a (tz n n A)) := fun W hW => hs.below hW
  have FB : Hid (∀ W, Below w.heap.size w W → Table W b ms) := fun W hW => ht.below hW
  have HPa : Hid (Sg n A) := p
  have n1 := p.n1
  have n7 := p.n7
  obtain ⟨E, hE⟩ := two_ex (tz n n A) ms
  have HE : Hid (TwoE (tz n n A) ms E) := hE
  have hE0 : (E != 0) = true := by
    by_cases h : SgL ms
    · rw [hE.shape (sg_list.2 p) h (fun e => hno ⟨h, by rw [tz_len] at e; exact e.symm⟩)]; rfl
    · rw [hE.bad (fun q => h q.2)]; rfl
  have HMl : Hid (m = ms.length) := hm
  have HLm : Hid (ms.length ≤ 17592186044416) := hk
  clear hs ht p hm hk hno hE
  go_enter Try.func5, Try.ntmps5
  go_wp2_with fail
  refine (head_meet w).mono ?_
  rintro e w1 ⟨g0, gs0, rfl, HR0, HB1⟩
  have HC := hid_w (head_rows g0 gs0 w1 HR0)
  go_wp2_with fail
  refine HC.out.mono ?_
  rintro e w2 ⟨rfl, Hb⟩
  have HB2 : Hid (Below w.heap.size w w2) := HB1.out.trans (Hb.out.mono HB1.out.size)
  clear HC Hb HB1 HR0
  have HC : Hid (Calls Try.prog 14 #[.slice a n ca] w2 fun e w' => ∃ g gs, e = .returned (.tuple #[.slice (some ⟨g, 0, none⟩) (n + 1) (n + 1), .int .i64 0]) ∧ w2.heap.size ≤ g ∧ Hid (Rez w' g g (n + 1) (n + 1) gs (cor A)) ∧ Hid (Below w2.heap.size w2 w')) := Corner_ok a n n ca A w2 (FA.out w2 HB2.out) rfl HPa.out
  go_wp2_with fail
  refine HC.out.mono ?_
  rintro e w3 ⟨gx, gsx, rfl, hgx, HRx, Hb⟩
  clear HC
  have HB3 : Hid (Below w.heap.size w w3) := HB2.out.trans (Hb.out.mono HB2.out.size)
  have HX3 : Hid (∀ W, Below w3.heap.size w3 W → Table W (some ⟨gx, 0, none⟩) (tz (n + 1) (n + 1) (cor A))) := fun W hW => (HRx.out.below hW).table (by omega) (fun i hi j hj => by have := HPa.out.kc.bound7 (i := i) (j := j) (by omega) (by omega); omega)
  clear Hb HB2
  clear hgx HRx
  have HC : Hid (Calls Try.prog 15 #[.slice a n ca] w3 fun e w' => ∃ ay cy, e = .returned (.tuple #[.slice ay n cy, .int .i64 0]) ∧ Hid (Table w' ay (tri n A)) ∧ Hid (Below w3.heap.size w3 w')) := Triangle_use a n ca A w3 (FA.out w3 HB3.out) HPa.out
  go_wp2_with fail
  refine HC.out.mono ?_
  rintro e w4 ⟨ay, cy, rfl, HTy, Hb⟩
  clear HC
  have HB4 : Hid (Below w.heap.size w w4) := HB3.out.trans (Hb.out.mono HB3.out.size)
  have HX4 : Hid (∀ W, Below w4.heap.size w4 W → Table W (some ⟨gx, 0, none⟩) (tz (n + 1) (n + 1) (cor A))) := futL HX3.out Hb.out
  clear HX3
  have HY4 : Hid (∀ W, Below w4.heap.size w4 W → Table W ay (tri n A)) := fun W hW => HTy.out.below hW
  clear Hb HB3
  clear HTy
  have HC : Hid (Calls Try.prog 17 #[.slice (some ⟨gx, 0, none⟩) (n + 1) (n + 1)] w4 fun e w' => ∃ h gs, e = .returned (.tuple #[.slice (some ⟨h, 0, none⟩) n n, .int .i64 0]) ∧ Hid (Rez w' h h n n gs A) ∧ Hid (Below w4.heap.size w4 w')) := FromCorner_ok gx n A w4 (HX4.out w4 (Below.refl _ _)) HPa.out
  go_wp2_with fail
  refine HC.out.mono ?_
  rintro e w5 ⟨gu, gsu, rfl, HRu, Hb⟩
  clear HC
  have HB5 : Hid (Below w.heap.size w w5) := HB4.out.trans (Hb.out.mono HB4.out.size)
  have HX5 : Hid (∀ W, Below w5.heap.size w5 W → Table W (some ⟨gx, 0, none⟩) (tz (n + 1) (n + 1) (cor A))) := futL HX4.out Hb.out
  have HY5 : Hid (∀ W, Below w5.heap.size w5 W → Table W ay (tri n A)) := futL HY4.out Hb.out
  clear HX4 HY4
  have HU5 : Hid (∀ W, Below w5.heap.size w5 W → Table W (some ⟨gu, 0, none⟩) (tz n n (A))) := fun W hW => (HRu.out.below hW).table (by omega) HPa.out.lowL
  clear Hb HB4
  clear HRu HX5
  have HC : Hid (Calls Try.prog 20 #[.slice ay n cy] w5 fun e w' => ∃ h gs, e = .returned (.tuple #[.slice (some ⟨h, 0, none⟩) n n, .int .i64 0]) ∧ Hid (Rez w' h h n n gs A) ∧ Hid (Below w5.heap.size w5 w')) := FromTriangle_ok ay n cy A w5 (HY5.out w5 (Below.refl _ _)) HPa.out
  go_wp2_with fail
  refine HC.out.mono ?_
  rintro e w6 ⟨gv, gsv, rfl, HRv, Hb⟩
  clear HC
  have HB6 : Hid (Below w.heap.size w w6) := HB5.out.trans (Hb.out.mono HB5.out.size)
  have HY6 : Hid (∀ W, Below w6.heap.size w6 W → Table W ay (tri n A)) := futL HY5.out Hb.out
  have HU6 : Hid (∀ W, Below w6.heap.size w6 W → Table W (some ⟨gu, 0, none⟩) (tz n n (A))) := futL HU5.out Hb.out
  clear HY5 HU5
  have HV6 : Hid (∀ W, Below w6.heap.size w6 W → Table W (some ⟨gv, 0, none⟩) (tz n n (A))) := fun W hW => (HRv.out.below hW).table (by omega) HPa.out.lowL
  clear Hb HB5
  clear HRv HY6
  have HC : Hid (Calls Try.prog 19 #[.slice (some ⟨gu, 0, none⟩) n n, .slice a n ca] w6 fun e w' => e = .returned (.bool true) ∧ Hid (Below w6.heap.size w6 w')) := Rows_same _ _ n _ _ A w6 (HU6.out w6 (Below.refl _ _)) (FA.out w6 HB6.out) (by omega)
  go_wp2_with fail
  refine HC.out.mono ?_
  rintro e w7 ⟨rfl, Hb⟩
  clear HC
  have HB7 : Hid (Below w.heap.size w w7) := HB6.out.trans (Hb.out.mono HB6.out.size)
  have HU7 : Hid (∀ W, Below w7.heap.size w7 W → Table W (some ⟨gu, 0, none⟩) (tz n n (A))) := futL HU6.out Hb.out
  have HV7 : Hid (∀ W, Below w7.heap.size w7 W → Table W (some ⟨gv, 0, none⟩) (tz n n (A))) := futL HV6.out Hb.out
  clear HU6 HV6
  clear Hb HB6
  clear HU7
  have HC : Hid (Calls Try.prog 19 #[.slice (some ⟨gv, 0, none⟩) n n, .slice a n ca] w7 fun e w' => e = .returned (.bool true) ∧ Hid (Below w7.heap.size w7 w')) := Rows_same _ _ n _ _ A w7 (HV7.out w7 (Below.refl _ _)) (FA.out w7 HB7.out) (by omega)
  go_wp2_with fail
  refine HC.out.mono ?_
  rintro e w8 ⟨rfl, Hb⟩
  clear HC
  have HB8 : Hid (Below w.heap.size w w8) := HB7.out.trans (Hb.out.mono HB7.out.size)
  have HV8 : Hid (∀ W, Below w8.heap.size w8 W → Table W (some ⟨gv, 0, none⟩) (tz n n (A))) := futL HV7.out Hb.out
  clear HV7
  clear Hb HB7
  clear HV8
  have HC : Hid (Calls Try.prog 6 #[.slice a n ca, .slice b m cb] w8 fun e w' => e = .returned (.tuple #[.slice none 0 0, .int .i64 E]) ∧ Hid (Below w8.heap.size w8 w')) := Meet_no a b n m ca cb _ ms w8 E (FA.out w8 HB8.out) (FB.out w8 HB8.out) (by rw [tz_len]) HMl.out (by rw [tz_len]; omega) HLm.out HE hE0
  go_wp2_with fail
  refine HC.out.mono ?_
  rintro e w9 ⟨rfl, Hb⟩
  clear HC
  have HB9 : Hid (Below w.heap.size w w9) := HB8.out.trans (Hb.out.mono HB8.out.size)
  clear Hb HB8
  have HC : Hid (Calls Try.prog 7 #[.slice a n ca, .slice b m cb] w9 fun e w' => e = .returned (.tuple #[.slice none 0 0, .int .i64 E]) ∧ Hid (Below w9.heap.size w9 w')) := Join_no a b n m ca cb _ ms w9 E (FA.out w9 HB9.out) (FB.out w9 HB9.out) (by rw [tz_len]) HMl.out (by rw [tz_len]; omega) HLm.out HE hE0
  go_wp2_with fail
  refine HC.out.mono ?_
  rintro e w10 ⟨rfl, Hb⟩
  clear HC
  have HB10 : Hid (Below w.heap.size w w10) := HB9.out.trans (Hb.out.mono HB9.out.size)
  clear Hb HB9
  have hEE : (E == E) = true := by simp
  go_wp2
  go_ret
  exact ⟨by first | rfl | simp, HB10.out⟩

end Go.Proofs.Ytfpbccahmipliaa
