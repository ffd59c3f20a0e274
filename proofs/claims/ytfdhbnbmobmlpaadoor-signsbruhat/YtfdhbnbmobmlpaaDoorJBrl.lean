/-
  The law ferkeep.SignsBruhat.
-/
import Derived.Test.YtfdhbnbmobmlpaaDoorJAla
import Derived.Test.YtfdhbnbmobmlpaaDoorJMat
import Derived.Test.YtfdhbnbmobmlpaaDoorJTws
import Derived.Test.YtfdhbnbmobmlpaaDoorJCnu
import Derived.Test.YtfdhbnbmobmlpaaDoorEIto
import Derived.Test.YtfdhbnbmobmlpaaDoorPBel
namespace Go.Proofs.YtfdhbnbmobmlpaaDoor
open Go.RowKit

theorem matrix_use (a : Option Addr) (n cap : Nat) (xs : List Int) (w : World) (hs : Shows w a xs) (hn : n = xs.length) (p : IsPerm xs) :
    Calls Tryd.prog 10 #[.slice a n cap] w fun e w' => ∃ b c, e = .returned (.slice b n c) ∧ Hid (Table w' b (tz n n (pmt xs))) ∧ Hid (Below w.heap.size w w') := by
  refine (matrix_at a n cap xs w hs hn p).mono ?_
  rintro e w' ⟨v, rfl, HT, HB⟩
  obtain ⟨b, m, c, rfl, hT, HM⟩ := HT.out.table (tz_wf (by rw [hn]; have := p.len; omega) (fun i _ j _ => by unfold pmt; split <;> omega))
  have hm : m = n := by rw [HM.out, tz_len]
  subst hm
  exact ⟨b, c, rfl, hT, HB⟩

set_option maxHeartbeats 8000000 in
set_option maxRecDepth 100000 in
theorem sbru_at (a b : Option Addr) (n m ca cb : Nat) (xs ys : List Int) (z : Int) (w : World) (hs : Shows w a xs) (ht : Shows w b ys) (hn : n = xs.length) (hm : m = ys.length) (hz : -9223372036854775808 ≤ z ∧ z ≤ 9223372036854775807) (htab : Lib.TabIs Tryd.prog w "internal/strconv.uint64pow10" .u64 Lib.pow10Tab) :
    Calls Tryd.prog 3 #[.slice a n ca, .slice b m cb, .int .i64 z] w fun e w' => e = .returned (.bool true) ∧ Below w.heap.size w w' := by
  have HTab : Hid (∀ W, Below w.heap.size w W → Lib.TabIs Tryd.prog W "internal/strconv.uint64pow10" .u64 Lib.pow10Tab) := fun W hW => Lib.tabBelow_of_tabIs htab W hW
  have FA : Hid (∀ W, Below w.heap.size w W → Shows W a xs) := fun W hW => hs.below hW
  have FB : Hid (∀ W, Below w.heap.size w W → Shows W b ys) := fun W hW => ht.below hW
  have HN : Hid (n = xs.length) := hn
  have HM : Hid (m = ys.length) := hm
  have hnb : n ≤ 17592186044416 := by rw [hn]; exact hs.len
  have HPk : Hid (Calls Tryd.prog 4 #[.int .i64 z, .int .i64 5] w fun e w' => ∃ m : Nat, e = .returned (.int .i64 m) ∧ m < 5 ∧ w' = w) := Pick_e z 5 w hz (by omega) (by omega)
  obtain ⟨c, t, hBr⟩ := belR_ex xs ys
  have HBr : Hid (BelR xs ys c t) := hBr
  clear hs ht hn hm hz htab hBr
  go_enter Tryd.func3, Tryd.ntmps3
  go_wp2_with fail
  refine HPk.out.mono ?_
  rintro e w0 ⟨k, rfl, hk5, hw0⟩
  obtain rfl : w = w0 := hw0.symm
  clear hw0 HPk
  obtain ⟨r, Hr⟩ : ∃ r, Hid (r = k + 1) := ⟨_, rfl⟩
  have hr1 : 1 ≤ r := by rw [Hr.out]; omega
  have hr5 : r ≤ 5 := by rw [Hr.out]; omega
  have hwr : IntKind.i64.wrap (1 + (k : Int)) = (r : Int) := by rw [IntKind.wrap_i64, Hr.out]; omega
  clear hk5
  obtain ⟨K, HK⟩ : ∃ K, Hid (K = (srS r (r * r) []).length) := ⟨_, rfl⟩
  have HKc : Hid (K = pL (lows (unN r r) (ovN r r))) := by show _ = _; rw [HK.out, asm_list r (by omega) hr1, asm_count r (by omega)]
  have hK : K ≤ 1000 := by
    rw [HK.out, asm_list r (by omega) hr1]
    rcases (show r = 1 ∨ r = 2 ∨ r = 3 ∨ r = 4 ∨ r = 5 by omega) with h | h | h | h | h <;> (rw [h]; decide)
  obtain ⟨s, HSs⟩ : ∃ s : ByteArray, Hid (s = ⟨(numT K).toArray⟩) := ⟨_, rfl⟩
  have HC1 : Hid (Calls Tryd.prog 5 #[.int .i64 (r : Int)] w fun e w' => ∃ a cap, e = .returned (.tuple #[.slice a K cap, .int .i64 0]) ∧ Hid (Below w.heap.size w w')) := by rw [HK.out]; exact SgAll_ok r w hr1 hr5
  go_wp2_with fail
  refine HC1.out.mono ?_
  rintro e w1 ⟨al, cl, rfl, HB1⟩
  have HC2 : Hid (Calls Tryd.prog 6 #[.int .i64 (r : Int)] w1 fun e w' => e = .returned (.tuple #[.string s, .int .i64 0]) ∧ Hid (Below w1.heap.size w1 w')) := by
    rw [HSs.out, HKc.out]
    exact SgCount_ok r w1 hr1 (by omega) (HTab.out w1 HB1.out)
  clear HC1
  go_wp2_with fail
  refine HC2.out.mono ?_
  rintro e w2 ⟨rfl, Hb⟩
  have HB2 : Hid (Below w.heap.size w w2) := HB1.out.trans (Hb.out.mono HB1.out.size)
  have HC3 : Hid (Calls Tryd.prog 7 #[.int .i64 (K : Int)] w2 fun e w' => e = .returned (.string s) ∧ Below w2.heap.size w2 w') := by rw [HSs.out]; exact Itoa_e K (by omega) w2 (HTab.out w2 HB2.out)
  clear HC2 Hb HB1
  go_wp2_with fail
  refine HC3.out.mono ?_
  rintro e w3 ⟨rfl, hb⟩
  have HB3 : Hid (Below w.heap.size w w3) := HB2.out.trans (hb.mono HB2.out.size)
  have HC4 : Hid (Calls Tryd.prog 8 #[.slice a n ca, .slice b m cb] w3 fun e w' => e = .returned (.tuple #[.bool t, .int .i64 c]) ∧ Below w3.heap.size w3 w') := Below_at a b n m ca cb w3 (FA.out w3 HB3.out) (FB.out w3 HB3.out) HN.out HM.out HBr.out
  clear HC3 hb HB2
  go_wp2_with fail
  refine HC4.out.mono ?_
  rintro e w4 ⟨rfl, hb⟩
  have HB4 : Hid (Below w.heap.size w w4) := HB3.out.trans (hb.mono HB3.out.size)
  clear HC4 hb HB3
  by_cases hc : c = 0
  · subst hc
    by_cases h1 : n < 1
    · have h1' : (n : Int) < 1 := by omega
      go_wp2
      go_ret
      exact ⟨rfl, HB4.out⟩
    have h1' : ¬ (n : Int) < 1 := by omega
    by_cases h7 : 7 < n
    · have h7' : (7 : Int) < (n : Int) := by omega
      go_wp2
      go_ret
      exact ⟨rfl, HB4.out⟩
    have h7' : ¬ (7 : Int) < (n : Int) := by omega
    obtain ⟨hp, hq, hl⟩ := two_ok.1 HBr.out.1
    have HP : Hid (IsPerm xs) := hp
    have HQ : Hid (IsPerm ys) := hq
    obtain rfl : m = n := by rw [HN.out, HM.out]; exact hl.symm
    have HSg : Hid (Sg m (pmt xs)) := by rw [HN.out]; exact sg_pmt hp (by rw [← HN.out]; omega) (by rw [← HN.out]; omega)
    have HSh : Hid (Sg m (pmt ys)) := by rw [HM.out]; exact sg_pmt hq (by rw [← HM.out]; omega) (by rw [← HM.out]; omega)
    have Ht : Hid (t = true ↔ Bel m (pmt xs) (pmt ys)) := by
      rw [HN.out]
      exact (HBr.out.2.1 rfl).trans (bel_under hp hq hl).symm
    clear hp hq hl
    have HC5 : Hid (Calls Tryd.prog 10 #[.slice a m ca] w4 fun e w' => ∃ b c, e = .returned (.slice b m c) ∧ Hid (Table w' b (tz m m (pmt xs))) ∧ Hid (Below w4.heap.size w4 w')) := matrix_use a m ca xs w4 (FA.out w4 HB4.out) HN.out HP.out
    go_wp2_with fail
    refine HC5.out.mono ?_
    rintro e w5 ⟨b5, c5, rfl, HT5, Hb5⟩
    have HB5 : Hid (Below w.heap.size w w5) := HB4.out.trans (Hb5.out.mono HB4.out.size)
    have HC6 : Hid (Calls Tryd.prog 10 #[.slice b m cb] w5 fun e w' => ∃ b c, e = .returned (.slice b m c) ∧ Hid (Table w' b (tz m m (pmt ys))) ∧ Hid (Below w5.heap.size w5 w')) := matrix_use b m cb ys w5 (FB.out w5 HB5.out) HM.out HQ.out
    clear HC5 Hb5 HB4
    go_wp2_with fail
    refine HC6.out.mono ?_
    rintro e w6 ⟨b6, c6, rfl, HT6, Hb6⟩
    have HB6 : Hid (Below w.heap.size w w6) := HB5.out.trans (Hb6.out.mono HB5.out.size)
    have HC7 : Hid (Calls Tryd.prog 9 #[.slice b5 m c5, .slice b6 m c6] w6 fun e w' => e = .returned (.tuple #[.bool t, .int .i64 0]) ∧ Hid (Below w6.heap.size w6 w')) := SgBelow_ok b5 b6 m m m c5 c6 (pmt xs) (pmt ys) w6 t (HT5.out.below Hb6.out) HT6.out rfl rfl HSg.out HSh.out Ht
    clear HC6 Hb6 HB5 HT5 HT6
    go_wp2_with fail
    refine HC7.out.mono ?_
    rintro e w7 ⟨rfl, Hb7⟩
    have HB7 : Hid (Below w.heap.size w w7) := HB6.out.trans (Hb7.out.mono HB6.out.size)
    have htt : (t == t) = true := by simp
    clear HC7 Hb7 HB6
    go_wp2
    go_ret
    exact ⟨by first | rfl | simp, HB7.out⟩
  · have hcb : (c != 0) = true := bne_iff_ne.2 hc
    clear hc
    go_wp2
    go_ret
    exact ⟨rfl, HB4.out⟩

end Go.Proofs.YtfdhbnbmobmlpaaDoor
