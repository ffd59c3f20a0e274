/-
  The law ferlaw.ParkingSays.
-/
import Derived.Test.YtlghldfolfmoeaaDoorZShf
import Derived.Test.YtlghldfolfmoeaaDoorZCnt
import Derived.Test.YtlghldfolfmoeaaDoorZLsw
namespace Go.Proofs.YtlghldfolfmoeaaDoor
open Go.RowKit

set_option maxHeartbeats 1000000 in
set_option maxRecDepth 100000 in
theorem listz_err (a b : Option Addr) (ca cb n : Nat) (w : World) (c : Int) (hc : (c != 0) = true) :
    Calls Tryd.prog 8 #[.slice a 0 ca, .int .i64 c, .slice b n cb, .int .i64 c] w fun e w' => e = .returned (.bool true) ∧ Hid (Below w.heap.size w w') := by
  go_enter Tryd.func8, Tryd.ntmps8
  go_wp2
  go_ret
  exact ⟨rfl, Below.refl _ _⟩
set_option maxHeartbeats 1000000 in
set_option maxRecDepth 100000 in
theorem listz_ok (a b : Option Addr) (ca cb n m : Nat) (w : World) (zs : List Int) (hs : Shows w a zs) (ht : Shows w b zs) (hn : Hid (n = zs.length)) (hm : Hid (m = zs.length)) :
    Calls Tryd.prog 8 #[.slice a n ca, .int .i64 0, .slice b m cb, .int .i64 0] w fun e w' => e = .returned (.bool true) ∧ Hid (Below w.heap.size w w') := by
  go_enter Tryd.func8, Tryd.ntmps8
  go_wp2_with (go_at_call 16; refine (Same_at _ _ _ _ _ _ zs zs _ hs ht hn.out hm.out true (by simp)).mono ?_; rintro e w1 ⟨rfl, k, rfl⟩)
  go_ret
  exact ⟨rfl, below_drewN (Below.refl _ _) k⟩

set_option maxHeartbeats 8000000 in
set_option maxRecDepth 100000 in
theorem psay_at (a : Option Addr) (n ca : Nat) (m : Int) (zs : List Int) (w : World) (hs : Shows w a zs) (hn : n = zs.length) (hm1 : -9223372036854775808 ≤ m ∧ m ≤ 9223372036854775807) (htab : Lib.TabIs Tryd.prog w "internal/strconv.uint64pow10" .u64 Lib.pow10Tab) :
    Calls Tryd.prog 3 #[.slice a n ca, .int .i64 m] w fun e w' => e = .returned (.bool true) ∧ Below w.heap.size w w' := by
  have HTab : Hid (∀ W, Below w.heap.size w W → Lib.TabIs Tryd.prog W "internal/strconv.uint64pow10" .u64 Lib.pow10Tab) := fun W hW => Lib.tabBelow_of_tabIs htab W hW
  have HS : Hid (Shows w a zs) := hs
  have HN : Hid (n = zs.length) := hn
  have hnb : n ≤ 17592186044416 := by have := hs.len; omega
  have HM1 : Hid (-9223372036854775808 ≤ m ∧ m ≤ 9223372036854775807) := hm1
  clear hs hn hm1 htab
  obtain ⟨c, HCc⟩ : ∃ c, Hid (plC zs zs.length = c) := ⟨_, rfl⟩
  obtain ⟨d, HDd⟩ : ∃ d, Hid (plC zs ((zs.length : Int) + 1) = d) := ⟨_, rfl⟩
  have HCar : Hid (∀ W, Below w.heap.size w W → Calls Tryd.prog 5 #[.slice a n ca, .int .i64 (n : Int)] W fun e w' => e = .returned (.int .i64 c) ∧ w' = W) := fun W hW => Cars_at a n ca zs n c W (HS.out.below hW) HN.out (by rw [HN.out]; exact HCc.out)
  have HCar2 : Hid (∀ W, Below w.heap.size w W → Calls Tryd.prog 5 #[.slice a n ca, .int .i64 ((n : Int) + 1)] W fun e w' => e = .returned (.int .i64 d) ∧ w' = W) := fun W hW => Cars_at a n ca zs ((n : Int) + 1) d W (HS.out.below hW) HN.out (by rw [HN.out]; exact HDd.out)
  have HChk : Hid (∀ W, Below w.heap.size w W → Calls Tryd.prog 6 #[.slice a n ca] W fun e w' => e = .returned (.int .i64 c) ∧ w' = W) := fun W hW => PkCheck_at a n ca zs c W (HS.out.below hW) HN.out HCc.out
  by_cases hc0 : c = 0
  · subst hc0
    obtain ⟨h20, hz⟩ := plC_ok.1 HCc.out
    have hn20 : n ≤ 20 := by rw [HN.out]; exact h20
    have HPd : Hid (∀ W, Below w.heap.size w W → Calls Tryd.prog 7 #[.slice a n ca] W fun e w' => ∃ v, e = .returned v ∧ Hid (PkdR w' W.heap.size zs v) ∧ Hid (Below W.heap.size W w')) := fun W hW => Parked_at a n ca zs W (HS.out.below hW) HN.out hn20 hz
    clear h20 hz
    by_cases hfr : Free (lk zs) zs.length
    · have HFr : Hid (Free (lk zs) zs.length) := hfr
      have HP := Park_ok a n ca zs w HS.out HN.out HCc.out hfr
      clear hfr
      go_enter Tryd.func3, Tryd.ntmps3
      go_wp2_with fail
      refine HP.mono ?_
      rintro e w1 ⟨ga, rfl, HOa, HBw1⟩
      clear HP
      have HC1 := HCar.out w1 HBw1.out
      go_wp2_with fail
      refine HC1.mono ?_
      rintro e w2 ⟨rfl, rfl⟩
      clear HC1
      have HC1 := HChk.out w2 HBw1.out
      go_wp2_with fail
      refine HC1.mono ?_
      rintro e w3 ⟨rfl, rfl⟩
      clear HC1
      have HC1 := HPd.out w3 HBw1.out
      go_wp2_with fail
      refine HC1.mono ?_
      rintro e w4 ⟨v4, rfl, HR4, Hb4⟩
      clear HC1
      have HBw4 : Hid (Below w.heap.size w w4) := HBw1.out.trans (Hb4.out.mono HBw1.out.size)
      obtain ⟨g4, c4, rfl, HO4⟩ : ∃ g4 c4, v4 = .slice (some ⟨g4, 0, none⟩) n c4 ∧ Hid (Owns w4 w3.heap.size (.slice (some ⟨g4, 0, none⟩) n c4) (plcs (zs.length + 1) (lk zs))) := by
        rcases HR4.out with ⟨_, g4, c4, e4, h4⟩ | ⟨hno, _⟩
        · rw [← HN.out] at e4 h4; exact ⟨g4, c4, e4, by rw [← HN.out]; exact h4⟩
        · exact absurd HFr.out hno
      clear HR4
      have heq : (binOp .eql 22 (.slice (some ⟨g4, 0, none⟩) n c4) (.slice none 0 0)).run Tryd.prog w4 = .ok (.bool false) w4 := Lib.run_eql_slice_nil w4 22 3 (some ⟨g4, 0, none⟩) n c4 0 0 Tryd.underlying22
      have hpl : (plcs (zs.length + 1) (lk zs)).length = n := by rw [plcs_length, lk_length, ← HN.out]
      have hwd := plcs_wide (ms := zs) (by rw [← HN.out]; exact hn20) HFr.out
      have HLs : Hid (Calls Tryd.prog 8 #[.slice (some ⟨ga, 0, none⟩) n n, .int .i64 0, .slice (some ⟨g4, 0, none⟩) n c4, .int .i64 0] w4 fun e w' => e = .returned (.bool true) ∧ Hid (Below w4.heap.size w4 w')) := by
        have ha := HOa.out.below Hb4.out
        obtain ⟨a9, c9, hv9, hs9⟩ := ha.shows (by rw [hpl]; exact hnb) hwd
        obtain ⟨a8, c8, hv8, hs8⟩ := HO4.out.shows (by rw [hpl]; exact hnb) hwd
        simp only [Value.slice.injEq] at hv9 hv8
        exact listz_ok _ _ _ _ _ _ _ _ (by rw [hv9.1]; exact hs9) (by rw [hv8.1]; exact hs8) hpl.symm hpl.symm
      clear hpl hwd HOa HO4 Hb4
      go_wp2_with fail
      refine HLs.out.mono ?_
      rintro e w5 ⟨rfl, Hb⟩
      have HBw5 : Hid (Below w.heap.size w w5) := HBw4.out.trans (Hb.out.mono HBw4.out.size)
      clear HLs Hb heq
      by_cases hmr : m < 0 ∨ 60 < m
      · have HCn := PkCount_no m w5 hmr
        by_cases hm0 : m < 0
        · clear hmr
          go_wp2_with fail
          refine HCn.mono ?_
          rintro e wb1 ⟨rfl, rfl⟩
          clear HCn
          have HBwb1 : Hid (Below w.heap.size w wb1) := HBw5
          by_cases hd0 : d = 0
          · subst hd0
            obtain ⟨f, hf⟩ := free_ex (lk zs)
            have HL := Lucky_ok a n ca f zs wb1 (HS.out.below HBwb1.out) HN.out HDd.out hf
            obtain ⟨K, HK⟩ : ∃ K, Hid (K = n - f) := ⟨_, rfl⟩
            have HF : Hid (Free (lk zs) f) := hf
            have hK : K ≤ 20 := by rw [HK.out]; have := (plC_ok.1 HDd.out).1; rw [← HN.out] at this; omega
            rw [← HK.out] at HL
            clear hf
            go_wp2_with fail
            refine HL.mono ?_
            rintro e wc1 ⟨rfl, Hb⟩
            have HBwc1 : Hid (Below w.heap.size w wc1) := HBwb1.out.trans (Hb.out.mono HBwb1.out.size)
            clear HL Hb
            have HC2 := HCar2.out wc1 HBwc1.out
            go_wp2_with fail
            refine HC2.mono ?_
            rintro e wc2 ⟨rfl, rfl⟩
            have HSh := Shift_at a n ca f zs wc2 (HS.out.below HBwc1.out) HN.out HDd.out HF.out
            rw [← HK.out] at HSh
            clear HC2
            go_wp2_with fail
            refine HSh.mono ?_
            rintro e wc3 ⟨rfl, Hb⟩
            have HBwc3 : Hid (Below w.heap.size w wc3) := HBwc1.out.trans (Hb.out.mono HBwc1.out.size)
            clear HSh Hb
            go_wp2
            go_ret
            exact ⟨rfl, HBwc3.out⟩
          · have hdb : (d != 0) = true := bne_iff_ne.2 hd0
            have HL := Lucky_no a n ca zs d wb1 (HS.out.below HBwb1.out) HN.out HDd.out hdb
            clear hd0
            go_wp2_with fail
            refine HL.mono ?_
            rintro e wc1 ⟨rfl, rfl⟩
            clear HL
            have HC2 := HCar2.out wc1 HBwb1.out
            go_wp2_with fail
            refine HC2.mono ?_
            rintro e wc2 ⟨rfl, rfl⟩
            clear HC2
            go_wp2
            go_ret
            exact ⟨rfl, HBwb1.out⟩
        · have hm60 : 60 < m := by omega
          clear hmr
          go_wp2_with fail
          refine HCn.mono ?_
          rintro e wb1 ⟨rfl, rfl⟩
          clear HCn
          have HBwb1 : Hid (Below w.heap.size w wb1) := HBw5
          by_cases hd0 : d = 0
          · subst hd0
            obtain ⟨f, hf⟩ := free_ex (lk zs)
            have HL := Lucky_ok a n ca f zs wb1 (HS.out.below HBwb1.out) HN.out HDd.out hf
            obtain ⟨K, HK⟩ : ∃ K, Hid (K = n - f) := ⟨_, rfl⟩
            have HF : Hid (Free (lk zs) f) := hf
            have hK : K ≤ 20 := by rw [HK.out]; have := (plC_ok.1 HDd.out).1; rw [← HN.out] at this; omega
            rw [← HK.out] at HL
            clear hf
            go_wp2_with fail
            refine HL.mono ?_
            rintro e wc1 ⟨rfl, Hb⟩
            have HBwc1 : Hid (Below w.heap.size w wc1) := HBwb1.out.trans (Hb.out.mono HBwb1.out.size)
            clear HL Hb
            have HC2 := HCar2.out wc1 HBwc1.out
            go_wp2_with fail
            refine HC2.mono ?_
            rintro e wc2 ⟨rfl, rfl⟩
            have HSh := Shift_at a n ca f zs wc2 (HS.out.below HBwc1.out) HN.out HDd.out HF.out
            rw [← HK.out] at HSh
            clear HC2
            go_wp2_with fail
            refine HSh.mono ?_
            rintro e wc3 ⟨rfl, Hb⟩
            have HBwc3 : Hid (Below w.heap.size w wc3) := HBwc1.out.trans (Hb.out.mono HBwc1.out.size)
            clear HSh Hb
            go_wp2
            go_ret
            exact ⟨rfl, HBwc3.out⟩
          · have hdb : (d != 0) = true := bne_iff_ne.2 hd0
            have HL := Lucky_no a n ca zs d wb1 (HS.out.below HBwb1.out) HN.out HDd.out hdb
            clear hd0
            go_wp2_with fail
            refine HL.mono ?_
            rintro e wc1 ⟨rfl, rfl⟩
            clear HL
            have HC2 := HCar2.out wc1 HBwb1.out
            go_wp2_with fail
            refine HC2.mono ?_
            rintro e wc2 ⟨rfl, rfl⟩
            clear HC2
            go_wp2
            go_ret
            exact ⟨rfl, HBwb1.out⟩
      · obtain ⟨q, rfl⟩ : ∃ q : Nat, m = (q : Int) := ⟨m.toNat, by omega⟩
        have hq60 : q ≤ 60 := by omega
        have hq1 : ¬ (q : Int) < 0 := by omega
        have hq2 : ¬ (60 : Int) < (q : Int) := by omega
        obtain ⟨s, HSs⟩ : ∃ s : ByteArray, Hid (s = ⟨(Lib.decDigits (pw q)).toArray⟩) := ⟨_, rfl⟩
        have HCn := PkCount_ok q w5 hq60 (HTab.out w5 HBw5.out)
        rw [← HSs.out] at HCn
        clear hmr
        go_wp2_with fail
        refine HCn.mono ?_
        rintro e wb1 ⟨rfl, Hb⟩
        have HBwb1 : Hid (Below w.heap.size w wb1) := HBw5.out.trans (Hb.out.mono HBw5.out.size)
        have HLi := Lists_at q wb1 hq60
        rw [← HSs.out] at HLi
        clear HCn Hb
        go_wp2_with fail
        refine HLi.mono ?_
        rintro e wb2 ⟨rfl, Hb⟩
        have HBwb2 : Hid (Below w.heap.size w wb2) := HBwb1.out.trans (Hb.out.mono HBwb1.out.size)
        clear HLi Hb
        by_cases hd0 : d = 0
        · subst hd0
          obtain ⟨f, hf⟩ := free_ex (lk zs)
          have HL := Lucky_ok a n ca f zs wb2 (HS.out.below HBwb2.out) HN.out HDd.out hf
          obtain ⟨K, HK⟩ : ∃ K, Hid (K = n - f) := ⟨_, rfl⟩
          have HF : Hid (Free (lk zs) f) := hf
          have hK : K ≤ 20 := by rw [HK.out]; have := (plC_ok.1 HDd.out).1; rw [← HN.out] at this; omega
          rw [← HK.out] at HL
          clear hf
          go_wp2_with fail
          refine HL.mono ?_
          rintro e wc1 ⟨rfl, Hb⟩
          have HBwc1 : Hid (Below w.heap.size w wc1) := HBwb2.out.trans (Hb.out.mono HBwb2.out.size)
          clear HL Hb
          have HC2 := HCar2.out wc1 HBwc1.out
          go_wp2_with fail
          refine HC2.mono ?_
          rintro e wc2 ⟨rfl, rfl⟩
          have HSh := Shift_at a n ca f zs wc2 (HS.out.below HBwc1.out) HN.out HDd.out HF.out
          rw [← HK.out] at HSh
          clear HC2
          go_wp2_with fail
          refine HSh.mono ?_
          rintro e wc3 ⟨rfl, Hb⟩
          have HBwc3 : Hid (Below w.heap.size w wc3) := HBwc1.out.trans (Hb.out.mono HBwc1.out.size)
          clear HSh Hb
          go_wp2
          go_ret
          exact ⟨rfl, HBwc3.out⟩
        · have hdb : (d != 0) = true := bne_iff_ne.2 hd0
          have HL := Lucky_no a n ca zs d wb2 (HS.out.below HBwb2.out) HN.out HDd.out hdb
          clear hd0
          go_wp2_with fail
          refine HL.mono ?_
          rintro e wc1 ⟨rfl, rfl⟩
          clear HL
          have HC2 := HCar2.out wc1 HBwb2.out
          go_wp2_with fail
          refine HC2.mono ?_
          rintro e wc2 ⟨rfl, rfl⟩
          clear HC2
          go_wp2
          go_ret
          exact ⟨rfl, HBwb2.out⟩
    · have HFr : Hid (¬ Free (lk zs) zs.length) := hfr
      have HP := Park_no a n ca zs w 5 HS.out HN.out (by unfold pkE; rw [if_pos HCc.out]) (fun h => HFr.out h.2)
      clear hfr
      go_enter Tryd.func3, Tryd.ntmps3
      go_wp2_with fail
      refine HP.mono ?_
      rintro e w1 ⟨rfl, HBw1⟩
      clear HP
      have HC1 := HCar.out w1 HBw1.out
      go_wp2_with fail
      refine HC1.mono ?_
      rintro e w2 ⟨rfl, rfl⟩
      clear HC1
      have HC1 := HChk.out w2 HBw1.out
      go_wp2_with fail
      refine HC1.mono ?_
      rintro e w3 ⟨rfl, rfl⟩
      clear HC1
      have HC1 := HPd.out w3 HBw1.out
      go_wp2_with fail
      refine HC1.mono ?_
      rintro e w4 ⟨v4, rfl, HR4, Hb4⟩
      clear HC1
      have HBw4 : Hid (Below w.heap.size w w4) := HBw1.out.trans (Hb4.out.mono HBw1.out.size)
      obtain rfl : v4 = .slice none 0 0 := by
        rcases HR4.out with ⟨hyes, _⟩ | ⟨_, e4⟩
        · exact absurd hyes HFr.out
        · exact e4
      clear HR4
      have heq : (binOp .eql 22 (.slice none 0 0) (.slice none 0 0)).run Tryd.prog w4 = .ok (.bool true) w4 := Lib.run_eql_slice_nil w4 22 3 none 0 0 0 0 Tryd.underlying22
      have HLs := listz_err none none 0 0 0 w4 5 (by decide)
      clear Hb4
      go_wp2_with fail
      refine HLs.mono ?_
      rintro e w5 ⟨rfl, Hb⟩
      have HBw5 : Hid (Below w.heap.size w w5) := HBw4.out.trans (Hb.out.mono HBw4.out.size)
      clear HLs Hb heq
      by_cases hmr : m < 0 ∨ 60 < m
      · have HCn := PkCount_no m w5 hmr
        by_cases hm0 : m < 0
        · clear hmr
          go_wp2_with fail
          refine HCn.mono ?_
          rintro e wb1 ⟨rfl, rfl⟩
          clear HCn
          have HBwb1 : Hid (Below w.heap.size w wb1) := HBw5
          by_cases hd0 : d = 0
          · subst hd0
            obtain ⟨f, hf⟩ := free_ex (lk zs)
            have HL := Lucky_ok a n ca f zs wb1 (HS.out.below HBwb1.out) HN.out HDd.out hf
            obtain ⟨K, HK⟩ : ∃ K, Hid (K = n - f) := ⟨_, rfl⟩
            have HF : Hid (Free (lk zs) f) := hf
            have hK : K ≤ 20 := by rw [HK.out]; have := (plC_ok.1 HDd.out).1; rw [← HN.out] at this; omega
            rw [← HK.out] at HL
            clear hf
            go_wp2_with fail
            refine HL.mono ?_
            rintro e wc1 ⟨rfl, Hb⟩
            have HBwc1 : Hid (Below w.heap.size w wc1) := HBwb1.out.trans (Hb.out.mono HBwb1.out.size)
            clear HL Hb
            have HC2 := HCar2.out wc1 HBwc1.out
            go_wp2_with fail
            refine HC2.mono ?_
            rintro e wc2 ⟨rfl, rfl⟩
            have HSh := Shift_at a n ca f zs wc2 (HS.out.below HBwc1.out) HN.out HDd.out HF.out
            rw [← HK.out] at HSh
            clear HC2
            go_wp2_with fail
            refine HSh.mono ?_
            rintro e wc3 ⟨rfl, Hb⟩
            have HBwc3 : Hid (Below w.heap.size w wc3) := HBwc1.out.trans (Hb.out.mono HBwc1.out.size)
            clear HSh Hb
            go_wp2
            go_ret
            exact ⟨rfl, HBwc3.out⟩
          · have hdb : (d != 0) = true := bne_iff_ne.2 hd0
            have HL := Lucky_no a n ca zs d wb1 (HS.out.below HBwb1.out) HN.out HDd.out hdb
            clear hd0
            go_wp2_with fail
            refine HL.mono ?_
            rintro e wc1 ⟨rfl, rfl⟩
            clear HL
            have HC2 := HCar2.out wc1 HBwb1.out
            go_wp2_with fail
            refine HC2.mono ?_
            rintro e wc2 ⟨rfl, rfl⟩
            clear HC2
            go_wp2
            go_ret
            exact ⟨rfl, HBwb1.out⟩
        · have hm60 : 60 < m := by omega
          clear hmr
          go_wp2_with fail
          refine HCn.mono ?_
          rintro e wb1 ⟨rfl, rfl⟩
          clear HCn
          have HBwb1 : Hid (Below w.heap.size w wb1) := HBw5
          by_cases hd0 : d = 0
          · subst hd0
            obtain ⟨f, hf⟩ := free_ex (lk zs)
            have HL := Lucky_ok a n ca f zs wb1 (HS.out.below HBwb1.out) HN.out HDd.out hf
            obtain ⟨K, HK⟩ : ∃ K, Hid (K = n - f) := ⟨_, rfl⟩
            have HF : Hid (Free (lk zs) f) := hf
            have hK : K ≤ 20 := by rw [HK.out]; have := (plC_ok.1 HDd.out).1; rw [← HN.out] at this; omega
            rw [← HK.out] at HL
            clear hf
            go_wp2_with fail
            refine HL.mono ?_
            rintro e wc1 ⟨rfl, Hb⟩
            have HBwc1 : Hid (Below w.heap.size w wc1) := HBwb1.out.trans (Hb.out.mono HBwb1.out.size)
            clear HL Hb
            have HC2 := HCar2.out wc1 HBwc1.out
            go_wp2_with fail
            refine HC2.mono ?_
            rintro e wc2 ⟨rfl, rfl⟩
            have HSh := Shift_at a n ca f zs wc2 (HS.out.below HBwc1.out) HN.out HDd.out HF.out
            rw [← HK.out] at HSh
            clear HC2
            go_wp2_with fail
            refine HSh.mono ?_
            rintro e wc3 ⟨rfl, Hb⟩
            have HBwc3 : Hid (Below w.heap.size w wc3) := HBwc1.out.trans (Hb.out.mono HBwc1.out.size)
            clear HSh Hb
            go_wp2
            go_ret
            exact ⟨rfl, HBwc3.out⟩
          · have hdb : (d != 0) = true := bne_iff_ne.2 hd0
            have HL := Lucky_no a n ca zs d wb1 (HS.out.below HBwb1.out) HN.out HDd.out hdb
            clear hd0
            go_wp2_with fail
            refine HL.mono ?_
            rintro e wc1 ⟨rfl, rfl⟩
            clear HL
            have HC2 := HCar2.out wc1 HBwb1.out
            go_wp2_with fail
            refine HC2.mono ?_
            rintro e wc2 ⟨rfl, rfl⟩
            clear HC2
            go_wp2
            go_ret
            exact ⟨rfl, HBwb1.out⟩
      · obtain ⟨q, rfl⟩ : ∃ q : Nat, m = (q : Int) := ⟨m.toNat, by omega⟩
        have hq60 : q ≤ 60 := by omega
        have hq1 : ¬ (q : Int) < 0 := by omega
        have hq2 : ¬ (60 : Int) < (q : Int) := by omega
        obtain ⟨s, HSs⟩ : ∃ s : ByteArray, Hid (s = ⟨(Lib.decDigits (pw q)).toArray⟩) := ⟨_, rfl⟩
        have HCn := PkCount_ok q w5 hq60 (HTab.out w5 HBw5.out)
        rw [← HSs.out] at HCn
        clear hmr
        go_wp2_with fail
        refine HCn.mono ?_
        rintro e wb1 ⟨rfl, Hb⟩
        have HBwb1 : Hid (Below w.heap.size w wb1) := HBw5.out.trans (Hb.out.mono HBw5.out.size)
        have HLi := Lists_at q wb1 hq60
        rw [← HSs.out] at HLi
        clear HCn Hb
        go_wp2_with fail
        refine HLi.mono ?_
        rintro e wb2 ⟨rfl, Hb⟩
        have HBwb2 : Hid (Below w.heap.size w wb2) := HBwb1.out.trans (Hb.out.mono HBwb1.out.size)
        clear HLi Hb
        by_cases hd0 : d = 0
        · subst hd0
          obtain ⟨f, hf⟩ := free_ex (lk zs)
          have HL := Lucky_ok a n ca f zs wb2 (HS.out.below HBwb2.out) HN.out HDd.out hf
          obtain ⟨K, HK⟩ : ∃ K, Hid (K = n - f) := ⟨_, rfl⟩
          have HF : Hid (Free (lk zs) f) := hf
          have hK : K ≤ 20 := by rw [HK.out]; have := (plC_ok.1 HDd.out).1; rw [← HN.out] at this; omega
          rw [← HK.out] at HL
          clear hf
          go_wp2_with fail
          refine HL.mono ?_
          rintro e wc1 ⟨rfl, Hb⟩
          have HBwc1 : Hid (Below w.heap.size w wc1) := HBwb2.out.trans (Hb.out.mono HBwb2.out.size)
          clear HL Hb
          have HC2 := HCar2.out wc1 HBwc1.out
          go_wp2_with fail
          refine HC2.mono ?_
          rintro e wc2 ⟨rfl, rfl⟩
          have HSh := Shift_at a n ca f zs wc2 (HS.out.below HBwc1.out) HN.out HDd.out HF.out
          rw [← HK.out] at HSh
          clear HC2
          go_wp2_with fail
          refine HSh.mono ?_
          rintro e wc3 ⟨rfl, Hb⟩
          have HBwc3 : Hid (Below w.heap.size w wc3) := HBwc1.out.trans (Hb.out.mono HBwc1.out.size)
          clear HSh Hb
          go_wp2
          go_ret
          exact ⟨rfl, HBwc3.out⟩
        · have hdb : (d != 0) = true := bne_iff_ne.2 hd0
          have HL := Lucky_no a n ca zs d wb2 (HS.out.below HBwb2.out) HN.out HDd.out hdb
          clear hd0
          go_wp2_with fail
          refine HL.mono ?_
          rintro e wc1 ⟨rfl, rfl⟩
          clear HL
          have HC2 := HCar2.out wc1 HBwb2.out
          go_wp2_with fail
          refine HC2.mono ?_
          rintro e wc2 ⟨rfl, rfl⟩
          clear HC2
          go_wp2
          go_ret
          exact ⟨rfl, HBwb2.out⟩
  · have hcb : (c != 0) = true := bne_iff_ne.2 hc0
    have hcb2 : (c == 0) = false := beq_eq_false_iff_ne.2 hc0
    have HP := Park_no a n ca zs w c HS.out HN.out (by unfold pkE; rw [HCc.out, if_neg hc0]) (fun h => hc0 (by rw [← HCc.out]; exact h.1))
    clear hc0
    go_enter Tryd.func3, Tryd.ntmps3
    go_wp2_with fail
    refine HP.mono ?_
    rintro e w1 ⟨rfl, HBw1⟩
    clear HP
    have HC1 := HCar.out w1 HBw1.out
    go_wp2_with fail
    refine HC1.mono ?_
    rintro e w2 ⟨rfl, rfl⟩
    clear HC1
    have HC1 := HChk.out w2 HBw1.out
    go_wp2_with fail
    refine HC1.mono ?_
    rintro e w3 ⟨rfl, rfl⟩
    clear HC1
    have HLs := listz_err none none 0 0 0 w3 c hcb
    go_wp2_with fail
    refine HLs.mono ?_
    rintro e w5 ⟨rfl, Hb⟩
    have HBw5 : Hid (Below w.heap.size w w5) := HBw1.out.trans (Hb.out.mono HBw1.out.size)
    clear HLs Hb
    by_cases hmr : m < 0 ∨ 60 < m
    · have HCn := PkCount_no m w5 hmr
      by_cases hm0 : m < 0
      · clear hmr
        go_wp2_with fail
        refine HCn.mono ?_
        rintro e wb1 ⟨rfl, rfl⟩
        clear HCn
        have HBwb1 : Hid (Below w.heap.size w wb1) := HBw5
        by_cases hd0 : d = 0
        · subst hd0
          obtain ⟨f, hf⟩ := free_ex (lk zs)
          have HL := Lucky_ok a n ca f zs wb1 (HS.out.below HBwb1.out) HN.out HDd.out hf
          obtain ⟨K, HK⟩ : ∃ K, Hid (K = n - f) := ⟨_, rfl⟩
          have HF : Hid (Free (lk zs) f) := hf
          have hK : K ≤ 20 := by rw [HK.out]; have := (plC_ok.1 HDd.out).1; rw [← HN.out] at this; omega
          rw [← HK.out] at HL
          clear hf
          go_wp2_with fail
          refine HL.mono ?_
          rintro e wc1 ⟨rfl, Hb⟩
          have HBwc1 : Hid (Below w.heap.size w wc1) := HBwb1.out.trans (Hb.out.mono HBwb1.out.size)
          clear HL Hb
          have HC2 := HCar2.out wc1 HBwc1.out
          go_wp2_with fail
          refine HC2.mono ?_
          rintro e wc2 ⟨rfl, rfl⟩
          have HSh := Shift_at a n ca f zs wc2 (HS.out.below HBwc1.out) HN.out HDd.out HF.out
          rw [← HK.out] at HSh
          clear HC2
          go_wp2_with fail
          refine HSh.mono ?_
          rintro e wc3 ⟨rfl, Hb⟩
          have HBwc3 : Hid (Below w.heap.size w wc3) := HBwc1.out.trans (Hb.out.mono HBwc1.out.size)
          clear HSh Hb
          go_wp2
          go_ret
          exact ⟨rfl, HBwc3.out⟩
        · have hdb : (d != 0) = true := bne_iff_ne.2 hd0
          have HL := Lucky_no a n ca zs d wb1 (HS.out.below HBwb1.out) HN.out HDd.out hdb
          clear hd0
          go_wp2_with fail
          refine HL.mono ?_
          rintro e wc1 ⟨rfl, rfl⟩
          clear HL
          have HC2 := HCar2.out wc1 HBwb1.out
          go_wp2_with fail
          refine HC2.mono ?_
          rintro e wc2 ⟨rfl, rfl⟩
          clear HC2
          go_wp2
          go_ret
          exact ⟨rfl, HBwb1.out⟩
      · have hm60 : 60 < m := by omega
        clear hmr
        go_wp2_with fail
        refine HCn.mono ?_
        rintro e wb1 ⟨rfl, rfl⟩
        clear HCn
        have HBwb1 : Hid (Below w.heap.size w wb1) := HBw5
        by_cases hd0 : d = 0
        · subst hd0
          obtain ⟨f, hf⟩ := free_ex (lk zs)
          have HL := Lucky_ok a n ca f zs wb1 (HS.out.below HBwb1.out) HN.out HDd.out hf
          obtain ⟨K, HK⟩ : ∃ K, Hid (K = n - f) := ⟨_, rfl⟩
          have HF : Hid (Free (lk zs) f) := hf
          have hK : K ≤ 20 := by rw [HK.out]; have := (plC_ok.1 HDd.out).1; rw [← HN.out] at this; omega
          rw [← HK.out] at HL
          clear hf
          go_wp2_with fail
          refine HL.mono ?_
          rintro e wc1 ⟨rfl, Hb⟩
          have HBwc1 : Hid (Below w.heap.size w wc1) := HBwb1.out.trans (Hb.out.mono HBwb1.out.size)
          clear HL Hb
          have HC2 := HCar2.out wc1 HBwc1.out
          go_wp2_with fail
          refine HC2.mono ?_
          rintro e wc2 ⟨rfl, rfl⟩
          have HSh := Shift_at a n ca f zs wc2 (HS.out.below HBwc1.out) HN.out HDd.out HF.out
          rw [← HK.out] at HSh
          clear HC2
          go_wp2_with fail
          refine HSh.mono ?_
          rintro e wc3 ⟨rfl, Hb⟩
          have HBwc3 : Hid (Below w.heap.size w wc3) := HBwc1.out.trans (Hb.out.mono HBwc1.out.size)
          clear HSh Hb
          go_wp2
          go_ret
          exact ⟨rfl, HBwc3.out⟩
        · have hdb : (d != 0) = true := bne_iff_ne.2 hd0
          have HL := Lucky_no a n ca zs d wb1 (HS.out.below HBwb1.out) HN.out HDd.out hdb
          clear hd0
          go_wp2_with fail
          refine HL.mono ?_
          rintro e wc1 ⟨rfl, rfl⟩
          clear HL
          have HC2 := HCar2.out wc1 HBwb1.out
          go_wp2_with fail
          refine HC2.mono ?_
          rintro e wc2 ⟨rfl, rfl⟩
          clear HC2
          go_wp2
          go_ret
          exact ⟨rfl, HBwb1.out⟩
    · obtain ⟨q, rfl⟩ : ∃ q : Nat, m = (q : Int) := ⟨m.toNat, by omega⟩
      have hq60 : q ≤ 60 := by omega
      have hq1 : ¬ (q : Int) < 0 := by omega
      have hq2 : ¬ (60 : Int) < (q : Int) := by omega
      obtain ⟨s, HSs⟩ : ∃ s : ByteArray, Hid (s = ⟨(Lib.decDigits (pw q)).toArray⟩) := ⟨_, rfl⟩
      have HCn := PkCount_ok q w5 hq60 (HTab.out w5 HBw5.out)
      rw [← HSs.out] at HCn
      clear hmr
      go_wp2_with fail
      refine HCn.mono ?_
      rintro e wb1 ⟨rfl, Hb⟩
      have HBwb1 : Hid (Below w.heap.size w wb1) := HBw5.out.trans (Hb.out.mono HBw5.out.size)
      have HLi := Lists_at q wb1 hq60
      rw [← HSs.out] at HLi
      clear HCn Hb
      go_wp2_with fail
      refine HLi.mono ?_
      rintro e wb2 ⟨rfl, Hb⟩
      have HBwb2 : Hid (Below w.heap.size w wb2) := HBwb1.out.trans (Hb.out.mono HBwb1.out.size)
      clear HLi Hb
      by_cases hd0 : d = 0
      · subst hd0
        obtain ⟨f, hf⟩ := free_ex (lk zs)
        have HL := Lucky_ok a n ca f zs wb2 (HS.out.below HBwb2.out) HN.out HDd.out hf
        obtain ⟨K, HK⟩ : ∃ K, Hid (K = n - f) := ⟨_, rfl⟩
        have HF : Hid (Free (lk zs) f) := hf
        have hK : K ≤ 20 := by rw [HK.out]; have := (plC_ok.1 HDd.out).1; rw [← HN.out] at this; omega
        rw [← HK.out] at HL
        clear hf
        go_wp2_with fail
        refine HL.mono ?_
        rintro e wc1 ⟨rfl, Hb⟩
        have HBwc1 : Hid (Below w.heap.size w wc1) := HBwb2.out.trans (Hb.out.mono HBwb2.out.size)
        clear HL Hb
        have HC2 := HCar2.out wc1 HBwc1.out
        go_wp2_with fail
        refine HC2.mono ?_
        rintro e wc2 ⟨rfl, rfl⟩
        have HSh := Shift_at a n ca f zs wc2 (HS.out.below HBwc1.out) HN.out HDd.out HF.out
        rw [← HK.out] at HSh
        clear HC2
        go_wp2_with fail
        refine HSh.mono ?_
        rintro e wc3 ⟨rfl, Hb⟩
        have HBwc3 : Hid (Below w.heap.size w wc3) := HBwc1.out.trans (Hb.out.mono HBwc1.out.size)
        clear HSh Hb
        go_wp2
        go_ret
        exact ⟨rfl, HBwc3.out⟩
      · have hdb : (d != 0) = true := bne_iff_ne.2 hd0
        have HL := Lucky_no a n ca zs d wb2 (HS.out.below HBwb2.out) HN.out HDd.out hdb
        clear hd0
        go_wp2_with fail
        refine HL.mono ?_
        rintro e wc1 ⟨rfl, rfl⟩
        clear HL
        have HC2 := HCar2.out wc1 HBwb2.out
        go_wp2_with fail
        refine HC2.mono ?_
        rintro e wc2 ⟨rfl, rfl⟩
        clear HC2
        go_wp2
        go_ret
        exact ⟨rfl, HBwb2.out⟩
end Go.Proofs.YtlghldfolfmoeaaDoor
