/-
  The law PathsBrackets, walked.
-/
import Derived.Test.YthfbkangjpcpgaaDoorQAhd
import Derived.Test.YthfbkangjpcpgaaDoorQBgn
import Derived.Test.YthfbkangjpcpgaaDoorQRgt
namespace Go.Proofs.YthfbkangjpcpgaaDoor
open Go.RowKit

theorem allB_has (l : List UInt8) : l.all (([40, 41] : List UInt8).contains ·) = allB l := by
  unfold allB
  congr 1
  funext b
  unfold stB
  by_cases h0 : b = 40
  · subst h0; rfl
  · rw [if_neg h0]
    by_cases h1 : b = 41
    · subst h1; rfl
    · rw [if_neg h1]; simp [h0, h1]
theorem rt_allB : ∀ (s : List UInt8) (o : Nat), rt o s = true → allB s = true
  | [], _, _ => rfl
  | b :: q, o, h => by
    rw [rt] at h
    have hc : allB (b :: q) = (decide (stB b ≠ 0) && allB q) := rfl
    rw [hc]
    by_cases h0 : b = 40
    · rw [if_pos h0] at h; rw [rt_allB q _ h, h0]; rfl
    · rw [if_neg h0] at h
      by_cases h1 : b = 41
      · rw [if_pos h1, Bool.and_eq_true] at h; rw [rt_allB q _ h.2, h1]; rfl
      · rw [if_neg h1] at h; cases h
theorem bytes_empty (x : ByteArray) : x.toList.isEmpty = decide (x.data.toList = []) := by
  rw [ByteArray.toList_eq]
  cases x.data.toList with
  | nil => rfl
  | cons b r => rfl
theorem plN_mem {s : List UInt8} {k : Nat} : ∀ z ∈ plN s k, 0 ≤ z ∧ z < (k : Int) := by
  intro z hz
  unfold plN at hz
  obtain ⟨i, hi, rfl⟩ := List.mem_map.1 hz
  have := List.mem_range.1 (List.mem_filter.1 hi).1
  omega

set_option maxHeartbeats 16000000 in
set_option maxRecDepth 100000 in
theorem pbr_at (n : Int) (s : ByteArray) (r : Int) (w : World) (m : Int) (hm : ∀ W, Below w.heap.size w W → W.cell? ⟨0, 0, none⟩ = some (.int .i64 m)) :
    Calls Tryd.prog 3 #[.int .i64 n, .string s, .int .i64 r] w fun e w' => e = .returned (.bool true) ∧ Below w.heap.size w w' := by
  have HM := hid_w hm
  clear hm
  have HRi : Hid (∀ (t : ByteArray) (b : Bool) (W : World), t.size ≤ 60 → rt 0 t.data.toList = b → Below w.heap.size w W → Calls Tryd.prog 7 #[.string t] W fun x w' => x = .returned (.bool b) ∧ Hid (Below W.heap.size W w')) := fun t b W ht hb hW => by
    rw [← hb]
    exact Right_at t ht W m (fun V hV => HM.out V (hW.trans (hV.mono hW.size)))
  obtain ⟨c, HC⟩ : ∃ c, Hid (c = caV n) := ⟨_, rfl⟩
  obtain ⟨e, HE⟩ : ∃ e, Hid (e = caC n) := ⟨_, rfl⟩
  obtain ⟨t, HT⟩ : ∃ t, Hid (t = unS n r) := ⟨_, rfl⟩
  obtain ⟨f, HF⟩ : ∃ f, Hid (f = unC n r) := ⟨_, rfl⟩
  obtain ⟨k, HK⟩ : ∃ k, Hid (k = raV s) := ⟨_, rfl⟩
  obtain ⟨g, HG⟩ : ∃ g, Hid (g = raC s) := ⟨_, rfl⟩
  obtain ⟨h, HH⟩ : ∃ h, Hid (h = tuC s) := ⟨_, rfl⟩
  obtain ⟨l, HL⟩ : ∃ l, Hid (l = tuL s) := ⟨_, rfl⟩
  have HCa : Hid (∀ W, Calls Tryd.prog 4 #[.int .i64 n] W fun x w' => x = .returned (.tuple #[.int .i64 c, .int .i64 e]) ∧ Hid (Below W.heap.size W w')) := fun W => by rw [HC.out, HE.out]; exact Catalan_all n W
  have HUn : Hid (∀ W, Calls Tryd.prog 6 #[.int .i64 n, .int .i64 r] W fun x w' => x = .returned (.tuple #[.string t, .int .i64 f]) ∧ Hid (Below W.heap.size W w')) := fun W => by rw [HT.out, HF.out]; exact Unrank_all n r W
  have HRa : Hid (∀ W, Calls Tryd.prog 9 #[.string s] W fun x w' => x = .returned (.tuple #[.int .i64 k, .int .i64 g]) ∧ Hid (Below W.heap.size W w')) := fun W => by rw [HK.out, HG.out]; exact Rank_all s W
  have HTu : Hid (∀ W, Calls Tryd.prog 10 #[.string s] W fun x w' => ∃ a cp, x = .returned (.tuple #[.slice a l.length cp, .int .i64 h]) ∧ Hid (Shows w' a l) ∧ Hid (Below W.heap.size W w')) := fun W => by
    rw [HL.out, HH.out]
    refine (Turns_all s W).mono ?_
    rintro x w' ⟨v, rfl, hO, hB⟩
    have hl : (tuL s).length ≤ 60 ∧ ∀ z ∈ tuL s, 0 ≤ z ∧ z < 60 := by
      unfold tuL
      by_cases h0 : tuC s = 0
      · rw [if_pos h0]
        have h1 := (tuC_zero.1 h0).1
        exact ⟨Nat.le_trans (plN_len _ _) h1, fun z hz => by have := plN_mem z hz; omega⟩
      · rw [if_neg h0]; exact ⟨Nat.zero_le _, fun z hz => by cases hz⟩
    obtain ⟨a, cp, hv, hS⟩ := hO.out.shows (by omega) (fun z hz => by have := hl.2 z hz; omega)
    exact ⟨a, cp, by rw [hv], hS, hB⟩
  obtain ⟨y, HY⟩ : ∃ y : ByteArray, Hid (y = ⟨(Lib.trimS s.data.toList [40, 41]).toArray⟩) := ⟨_, rfl⟩
  have HTr : Hid (∀ W, s.size ≤ 60 → Calls Tryd.prog 11 #[.string s, .string ⟨#[40, 41]⟩] W fun x w' => x = .returned (.string y) ∧ Hid (Below W.heap.size W w')) := fun W hs => by
    rw [HY.out]
    exact Trim_at s W (by omega)
  have HYe : Hid (y.toList.isEmpty = allB s.data.toList) := by
    show _ = _
    rw [bytes_empty, HY.out, ← allB_has]
    have h1 := trim_all s.data.toList [40, 41]
    cases hb : s.data.toList.all (([40, 41] : List UInt8).contains ·) with
    | true => exact decide_eq_true (h1.2 hb)
    | false => exact decide_eq_false (fun h => by rw [h1.1 h] at hb; cases hb)
  have HBe : Hid (∀ W, s.size ≤ 60 → h = 0 → Calls Tryd.prog 13 #[.string s] W fun x w' => ∃ a cp, x = .returned (.slice a l.length cp) ∧ Hid (Shows w' a l) ∧ Hid (Below W.heap.size W w')) := fun W hs h0 => by
    refine (Begins_at s hs W).mono ?_
    rintro x w' ⟨v, rfl, hO, hB⟩
    have hl : l = plN s.data.toList s.size := by rw [HL.out]; unfold tuL; rw [if_pos (by rw [← HH.out, h0])]
    rw [hl]
    obtain ⟨a, cp, hv, hS⟩ := hO.out.shows (by have := plN_len s.data.toList s.size; omega) (fun z hz => by have := plN_mem z hz; omega)
    exact ⟨a, cp, by rw [hv], hS, hB⟩
  go_enter Tryd.func3, Tryd.ntmps3
  go_upto_region 2 with (go_at_call 4; refine (HCa.out _).mono ?_; rintro x W1 ⟨rfl, HB1⟩)
  clear HCa
  have HB1w : Hid (Below w.heap.size w W1) := HB1
  by_cases hB : 0 ≤ n ∧ n ≤ 30
  · obtain ⟨q, rfl⟩ : ∃ q : Nat, n = (q : Int) := ⟨n.toNat, by omega⟩
    have hq : q ≤ 30 := by omega
    have hn0 : ¬ ((q : Int) < 0) := by omega
    have hn30 : ¬ ((q : Int) > 30) := by omega
    obtain ⟨z, HZ⟩ : ∃ z, Hid (z = eW (2 * q) 0) := ⟨_, rfl⟩
    have HRc : Hid (∀ W, Calls Tryd.prog 5 #[.int .i64 (q : Int)] W fun x w' => x = .returned (.int .i64 (z : Int)) ∧ Hid (Below W.heap.size W w')) := fun W => by rw [HZ.out]; exact RCatalan_at q hq W
    have hcb : caB (q : Int) = true := by unfold caB; rw [decide_eq_true (by omega), decide_eq_true (by omega)]; rfl
    have hc : c = (z : Int) := by rw [HC.out, HZ.out]; unfold caV; rw [if_pos hcb, Int.toNat_natCast]
    have he : e = 0 := by rw [HE.out]; unfold caC; rw [if_pos hcb]
    clear HC HE hcb hB
    subst hc he
    go_upto_region 7 with (go_at_call 5; refine (HRc.out _).mono ?_; rintro x W2 ⟨rfl, HB2⟩)
    have HB2w : Hid (Below w.heap.size w W2) := HB1w.out.trans (HB2.out.mono HB1w.out.size)
    clear HB1 HB2 HB1w
    go_upto_region 8 with (go_at_call 6; refine (HUn.out _).mono ?_; rintro x W3 ⟨rfl, HB3⟩)
    have HB3w : Hid (Below w.heap.size w W3) := HB2w.out.trans (HB3.out.mono HB2w.out.size)
    clear HB2w HB3 HUn
    by_cases hr0 : r < 0
    · have hU : unB (q : Int) r ≠ true := fun h => by have := unB_iff.1 h; omega
      have ht : t.toList.isEmpty = true := by rw [HT.out]; unfold unS; rw [if_neg hU]; rw [ByteArray.toList_eq]; rfl
      have hf : f = 1 := by rw [HF.out]; unfold unC; rw [if_neg hU]
      clear HT HF hU HRc
      subst hf
      go_upto_region 13 with fail
      have HBp := HB3w
      clear HB3w
      go_upto_region 14 with (go_at_call 9; refine (HRa.out _).mono ?_; rintro x W5 ⟨rfl, HB5⟩)
      clear HRa
      have HB5w : Hid (Below w.heap.size w W5) := HBp.out.trans (HB5.out.mono HBp.out.size)
      go_upto_region 15 with (go_at_call 10; refine (HTu.out _).mono ?_; rintro x W6 ⟨ta, tcp, rfl, HS6, HB6⟩)
      clear HTu HB5 HBp
      have HB6w : Hid (Below w.heap.size w W6) := HB5w.out.trans (HB6.out.mono HB5w.out.size)
      clear HB5w HB6
      by_cases hlg : 60 < s.size
      · have hg2 : g = 2 := by rw [HG.out]; unfold raC; rw [if_pos hlg]
        have hh2 : h = 2 := by rw [HH.out]; unfold tuC; rw [if_pos hlg]
        have hk0 : k = 0 := by rw [HK.out]; unfold raV; rw [if_neg (by rw [← HG.out, hg2]; decide)]
        have hl0 : l.length = 0 := by rw [HL.out]; unfold tuL; rw [if_neg (by rw [← HH.out, hh2]; decide)]; rfl
        have hlg' : (s.size : Int) > 60 := by omega
        rw [hl0]
        clear HK HG HH HL HYe HTr HBe HRi
        subst hg2 hh2 hk0
        go_wp2_with fail
        go_ret
        exact ⟨rfl, HB6w.out⟩
      · have hlg' : ¬ ((s.size : Int) > 60) := by omega
        have hsz : s.size ≤ 60 := by omega
        have HTr2 := hid_w (fun W => HTr.out W hsz)
        by_cases hR : rt 0 s.data.toList = true
        · have hg0 : g = 0 := by rw [HG.out, raC_zero]; exact ⟨hsz, hR⟩
          have ha := rt_allB _ _ hR
          have hh0 : h = 0 := by rw [HH.out, tuC_zero]; exact ⟨hsz, ha⟩
          have hye : y.toList.isEmpty = true := by rw [HYe.out, ha]
          have HBe2 := hid_w (fun W => HBe.out W hsz hh0)
          have HRi2 := hid_w (fun W => HRi.out s true W hsz hR)
          have HAh : Hid (∀ W, Calls Tryd.prog 8 #[.string s] W fun x w' => x = .returned (.int .i64 k) ∧ Hid (Below W.heap.size W w')) := fun W => by
            have hk : k = (rk 0 s.data.toList : Int) := by rw [HK.out]; unfold raV; rw [if_pos (by rw [← HG.out, hg0])]
            rw [hk]
            exact Ahead_at s hsz hR W
          clear HK HG HH HL HYe HTr HBe HRi ha hR
          subst hg0 hh0
          go_upto_region 20 with (go_at_call 7; refine (HRi2.out _ HB6w.out).mono ?_; rintro x W7 ⟨rfl, HB7⟩)
          have HB7w : Hid (Below w.heap.size w W7) := HB6w.out.trans (HB7.out.mono HB6w.out.size)
          go_upto_region 22 with (go_at_call 8; refine (HAh.out _).mono ?_; rintro x W8 ⟨rfl, HB8⟩)
          have HB8w : Hid (Below w.heap.size w W8) := HB7w.out.trans (HB8.out.mono HB7w.out.size)
          go_upto_region 24 with (go_at_call 11; refine (HTr2.out _).mono ?_; rintro x W9 ⟨rfl, HB9⟩)
          have HB9w : Hid (Below w.heap.size w W9) := HB8w.out.trans (HB9.out.mono HB8w.out.size)
          clear HAh HTr2 HRi2
          have HS9 : Hid (Shows W9 ta l) := HS6.out.below ((HB7.out.trans (HB8.out.mono HB7.out.size)).trans (HB9.out.mono (HB7.out.trans (HB8.out.mono HB7.out.size)).size))
          go_wp2_with (first
            | (go_at_call 13; refine (HBe2.out _).mono ?_; rintro x WA ⟨ba, bcp, rfl, HSA, HBA⟩)
            | (go_at_call 12; refine (Same_at _ _ _ _ _ _ l l _ (HS9.out.below HBA.out) HSA.out rfl rfl true (by simp)).mono ?_; rintro x WB ⟨rfl, HBB⟩))
          go_ret
          obtain ⟨dn, rfl⟩ := HBB
          exact ⟨rfl, below_drewN (HB9w.out.trans (HBA.out.mono HB9w.out.size)) dn⟩
        · have hR' : rt 0 s.data.toList = false := by simpa using hR
          have hg1 : g = 1 := by rw [HG.out]; unfold raC; rw [if_neg hlg, if_neg hR]
          have hk0 : k = 0 := by rw [HK.out]; unfold raV; rw [if_neg (by rw [← HG.out, hg1]; decide)]
          have HRi2 := hid_w (fun W => HRi.out s false W hsz hR')
          by_cases ha : allB s.data.toList = true
          · have hh0 : h = 0 := by rw [HH.out, tuC_zero]; exact ⟨hsz, ha⟩
            have hye : y.toList.isEmpty = true := by rw [HYe.out, ha]
            have HBe2 := hid_w (fun W => HBe.out W hsz hh0)
            clear HK HG HH HL HYe HTr HBe HRi ha hR hR'
            subst hg1 hh0 hk0
            go_upto_region 18 with (go_at_call 7; refine (HRi2.out _ HB6w.out).mono ?_; rintro x W7 ⟨rfl, HB7⟩)
            have HB7w : Hid (Below w.heap.size w W7) := HB6w.out.trans (HB7.out.mono HB6w.out.size)
            go_upto_region 24 with (go_at_call 11; refine (HTr2.out _).mono ?_; rintro x W9 ⟨rfl, HB9⟩)
            have HB9w : Hid (Below w.heap.size w W9) := HB7w.out.trans (HB9.out.mono HB7w.out.size)
            clear HTr2 HRi2
            have HS9 : Hid (Shows W9 ta l) := HS6.out.below (HB7.out.trans (HB9.out.mono HB7.out.size))
            go_wp2_with (first
              | (go_at_call 13; refine (HBe2.out _).mono ?_; rintro x WA ⟨ba, bcp, rfl, HSA, HBA⟩)
              | (go_at_call 12; refine (Same_at _ _ _ _ _ _ l l _ (HS9.out.below HBA.out) HSA.out rfl rfl true (by simp)).mono ?_; rintro x WB ⟨rfl, HBB⟩))
            go_ret
            obtain ⟨dn, rfl⟩ := HBB
            exact ⟨rfl, below_drewN (HB9w.out.trans (HBA.out.mono HB9w.out.size)) dn⟩
          · have ha' : allB s.data.toList = false := by simpa using ha
            have hh1 : h = 1 := by rw [HH.out]; unfold tuC; rw [if_neg hlg, if_neg ha]
            have hl0 : l.length = 0 := by rw [HL.out]; unfold tuL; rw [if_neg (by rw [← HH.out, hh1]; decide)]; rfl
            have hye : y.toList.isEmpty = false := by rw [HYe.out, ha']
            rw [hl0]
            clear HK HG HH HL HYe HTr HBe HRi ha ha' hR hR'
            subst hg1 hh1 hk0
            go_upto_region 18 with (go_at_call 7; refine (HRi2.out _ HB6w.out).mono ?_; rintro x W7 ⟨rfl, HB7⟩)
            have HB7w : Hid (Below w.heap.size w W7) := HB6w.out.trans (HB7.out.mono HB6w.out.size)
            go_upto_region 23 with (go_at_call 11; refine (HTr2.out _).mono ?_; rintro x W9 ⟨rfl, HB9⟩)
            have HB9w : Hid (Below w.heap.size w W9) := HB7w.out.trans (HB9.out.mono HB7w.out.size)
            clear HTr2 HRi2
            go_wp2_with fail
            go_ret
            exact ⟨rfl, HB9w.out⟩
    · by_cases hrz : r < (z : Int)
      · have hU : unB (q : Int) r = true := unB_iff.2 ⟨by omega, by omega, by omega, by rw [Int.toNat_natCast, ← HZ.out]; exact hrz⟩
        have hrz' : ¬ (r ≥ (z : Int)) := by omega
        obtain ⟨p, hp⟩ : ∃ p : Nat, r = (p : Int) := ⟨r.toNat, by omega⟩
        have hok := ur_ok (2 * q) 0 p (by rw [← HZ.out]; omega)
        have htd : t.data.toList = ur (2 * q) 0 p := by rw [HT.out]; unfold unS; rw [if_pos hU, Int.toNat_natCast, hp, Int.toNat_natCast]
        have hts : t.size = 2 * q := by
          have h1 : t.data.toList.length = t.size := by simp
          rw [← h1, htd, ur_len]
        have hts' : (t.size : Int) = 2 * (q : Int) := by omega
        have hf : f = 0 := by rw [HF.out]; unfold unC; rw [if_pos hU]
        have htr : rt 0 t.data.toList = true := by rw [htd]; exact hok.1
        have htk : (rk 0 t.data.toList : Int) = r := by rw [htd, hok.2, hp]
        have ht60 : t.size ≤ 60 := by omega
        have HTi := hid_w (fun W => HRi.out t true W ht60 htr)
        have HTa : Hid (∀ W, Calls Tryd.prog 8 #[.string t] W fun x w' => x = .returned (.int .i64 r) ∧ Hid (Below W.heap.size W w')) := fun W => by
          rw [← htk]
          exact Ahead_at t ht60 htr W
        clear HT HF hU hok htd hts htr htk hp
        subst hf
        go_upto_region 11 with (go_at_call 5; refine (HRc.out _).mono ?_; rintro x W4 ⟨rfl, HB4⟩)
        have HB4w : Hid (Below w.heap.size w W4) := HB3w.out.trans (HB4.out.mono HB3w.out.size)
        clear HB3w HB4 HRc
        go_upto_region 13 with (first
          | (go_at_call 7; refine (HTi.out _ HB4w.out).mono ?_; rintro x WC ⟨rfl, HBC⟩)
          | (go_at_call 8; refine (HTa.out _).mono ?_; rintro x WD ⟨rfl, HBD⟩))
        have HBp : Hid (Below w.heap.size w WD) := (HB4w.out.trans (HBC.out.mono HB4w.out.size)).trans (HBD.out.mono (HB4w.out.trans (HBC.out.mono HB4w.out.size)).size)
        clear HB4w HBC HBD HTi HTa
        go_upto_region 14 with (go_at_call 9; refine (HRa.out _).mono ?_; rintro x W5 ⟨rfl, HB5⟩)
        clear HRa
        have HB5w : Hid (Below w.heap.size w W5) := HBp.out.trans (HB5.out.mono HBp.out.size)
        go_upto_region 15 with (go_at_call 10; refine (HTu.out _).mono ?_; rintro x W6 ⟨ta, tcp, rfl, HS6, HB6⟩)
        clear HTu HB5 HBp
        have HB6w : Hid (Below w.heap.size w W6) := HB5w.out.trans (HB6.out.mono HB5w.out.size)
        clear HB5w HB6
        by_cases hlg : 60 < s.size
        · have hg2 : g = 2 := by rw [HG.out]; unfold raC; rw [if_pos hlg]
          have hh2 : h = 2 := by rw [HH.out]; unfold tuC; rw [if_pos hlg]
          have hk0 : k = 0 := by rw [HK.out]; unfold raV; rw [if_neg (by rw [← HG.out, hg2]; decide)]
          have hl0 : l.length = 0 := by rw [HL.out]; unfold tuL; rw [if_neg (by rw [← HH.out, hh2]; decide)]; rfl
          have hlg' : (s.size : Int) > 60 := by omega
          rw [hl0]
          clear HK HG HH HL HYe HTr HBe HRi
          subst hg2 hh2 hk0
          go_wp2_with fail
          go_ret
          exact ⟨rfl, HB6w.out⟩
        · have hlg' : ¬ ((s.size : Int) > 60) := by omega
          have hsz : s.size ≤ 60 := by omega
          have HTr2 := hid_w (fun W => HTr.out W hsz)
          by_cases hR : rt 0 s.data.toList = true
          · have hg0 : g = 0 := by rw [HG.out, raC_zero]; exact ⟨hsz, hR⟩
            have ha := rt_allB _ _ hR
            have hh0 : h = 0 := by rw [HH.out, tuC_zero]; exact ⟨hsz, ha⟩
            have hye : y.toList.isEmpty = true := by rw [HYe.out, ha]
            have HBe2 := hid_w (fun W => HBe.out W hsz hh0)
            have HRi2 := hid_w (fun W => HRi.out s true W hsz hR)
            have HAh : Hid (∀ W, Calls Tryd.prog 8 #[.string s] W fun x w' => x = .returned (.int .i64 k) ∧ Hid (Below W.heap.size W w')) := fun W => by
              have hk : k = (rk 0 s.data.toList : Int) := by rw [HK.out]; unfold raV; rw [if_pos (by rw [← HG.out, hg0])]
              rw [hk]
              exact Ahead_at s hsz hR W
            clear HK HG HH HL HYe HTr HBe HRi ha hR
            subst hg0 hh0
            go_upto_region 20 with (go_at_call 7; refine (HRi2.out _ HB6w.out).mono ?_; rintro x W7 ⟨rfl, HB7⟩)
            have HB7w : Hid (Below w.heap.size w W7) := HB6w.out.trans (HB7.out.mono HB6w.out.size)
            go_upto_region 22 with (go_at_call 8; refine (HAh.out _).mono ?_; rintro x W8 ⟨rfl, HB8⟩)
            have HB8w : Hid (Below w.heap.size w W8) := HB7w.out.trans (HB8.out.mono HB7w.out.size)
            go_upto_region 24 with (go_at_call 11; refine (HTr2.out _).mono ?_; rintro x W9 ⟨rfl, HB9⟩)
            have HB9w : Hid (Below w.heap.size w W9) := HB8w.out.trans (HB9.out.mono HB8w.out.size)
            clear HAh HTr2 HRi2
            have HS9 : Hid (Shows W9 ta l) := HS6.out.below ((HB7.out.trans (HB8.out.mono HB7.out.size)).trans (HB9.out.mono (HB7.out.trans (HB8.out.mono HB7.out.size)).size))
            go_wp2_with (first
              | (go_at_call 13; refine (HBe2.out _).mono ?_; rintro x WA ⟨ba, bcp, rfl, HSA, HBA⟩)
              | (go_at_call 12; refine (Same_at _ _ _ _ _ _ l l _ (HS9.out.below HBA.out) HSA.out rfl rfl true (by simp)).mono ?_; rintro x WB ⟨rfl, HBB⟩))
            go_ret
            obtain ⟨dn, rfl⟩ := HBB
            exact ⟨rfl, below_drewN (HB9w.out.trans (HBA.out.mono HB9w.out.size)) dn⟩
          · have hR' : rt 0 s.data.toList = false := by simpa using hR
            have hg1 : g = 1 := by rw [HG.out]; unfold raC; rw [if_neg hlg, if_neg hR]
            have hk0 : k = 0 := by rw [HK.out]; unfold raV; rw [if_neg (by rw [← HG.out, hg1]; decide)]
            have HRi2 := hid_w (fun W => HRi.out s false W hsz hR')
            by_cases ha : allB s.data.toList = true
            · have hh0 : h = 0 := by rw [HH.out, tuC_zero]; exact ⟨hsz, ha⟩
              have hye : y.toList.isEmpty = true := by rw [HYe.out, ha]
              have HBe2 := hid_w (fun W => HBe.out W hsz hh0)
              clear HK HG HH HL HYe HTr HBe HRi ha hR hR'
              subst hg1 hh0 hk0
              go_upto_region 18 with (go_at_call 7; refine (HRi2.out _ HB6w.out).mono ?_; rintro x W7 ⟨rfl, HB7⟩)
              have HB7w : Hid (Below w.heap.size w W7) := HB6w.out.trans (HB7.out.mono HB6w.out.size)
              go_upto_region 24 with (go_at_call 11; refine (HTr2.out _).mono ?_; rintro x W9 ⟨rfl, HB9⟩)
              have HB9w : Hid (Below w.heap.size w W9) := HB7w.out.trans (HB9.out.mono HB7w.out.size)
              clear HTr2 HRi2
              have HS9 : Hid (Shows W9 ta l) := HS6.out.below (HB7.out.trans (HB9.out.mono HB7.out.size))
              go_wp2_with (first
                | (go_at_call 13; refine (HBe2.out _).mono ?_; rintro x WA ⟨ba, bcp, rfl, HSA, HBA⟩)
                | (go_at_call 12; refine (Same_at _ _ _ _ _ _ l l _ (HS9.out.below HBA.out) HSA.out rfl rfl true (by simp)).mono ?_; rintro x WB ⟨rfl, HBB⟩))
              go_ret
              obtain ⟨dn, rfl⟩ := HBB
              exact ⟨rfl, below_drewN (HB9w.out.trans (HBA.out.mono HB9w.out.size)) dn⟩
            · have ha' : allB s.data.toList = false := by simpa using ha
              have hh1 : h = 1 := by rw [HH.out]; unfold tuC; rw [if_neg hlg, if_neg ha]
              have hl0 : l.length = 0 := by rw [HL.out]; unfold tuL; rw [if_neg (by rw [← HH.out, hh1]; decide)]; rfl
              have hye : y.toList.isEmpty = false := by rw [HYe.out, ha']
              rw [hl0]
              clear HK HG HH HL HYe HTr HBe HRi ha ha' hR hR'
              subst hg1 hh1 hk0
              go_upto_region 18 with (go_at_call 7; refine (HRi2.out _ HB6w.out).mono ?_; rintro x W7 ⟨rfl, HB7⟩)
              have HB7w : Hid (Below w.heap.size w W7) := HB6w.out.trans (HB7.out.mono HB6w.out.size)
              go_upto_region 23 with (go_at_call 11; refine (HTr2.out _).mono ?_; rintro x W9 ⟨rfl, HB9⟩)
              have HB9w : Hid (Below w.heap.size w W9) := HB7w.out.trans (HB9.out.mono HB7w.out.size)
              clear HTr2 HRi2
              go_wp2_with fail
              go_ret
              exact ⟨rfl, HB9w.out⟩
      · have hU : unB (q : Int) r ≠ true := fun h => by have h1 := unB_iff.1 h; rw [Int.toNat_natCast, ← HZ.out] at h1; omega
        have hrz' : r ≥ (z : Int) := by omega
        have ht : t.toList.isEmpty = true := by rw [HT.out]; unfold unS; rw [if_neg hU]; rw [ByteArray.toList_eq]; rfl
        have hf : f = 1 := by rw [HF.out]; unfold unC; rw [if_neg hU]
        clear HT HF hU
        subst hf
        go_upto_region 9 with (go_at_call 5; refine (HRc.out _).mono ?_; rintro x W4 ⟨rfl, HB4⟩)
        have HBp : Hid (Below w.heap.size w W4) := HB3w.out.trans (HB4.out.mono HB3w.out.size)
        clear HB3w HB4 HRc
        go_upto_region 13 with fail
        go_upto_region 14 with (go_at_call 9; refine (HRa.out _).mono ?_; rintro x W5 ⟨rfl, HB5⟩)
        clear HRa
        have HB5w : Hid (Below w.heap.size w W5) := HBp.out.trans (HB5.out.mono HBp.out.size)
        go_upto_region 15 with (go_at_call 10; refine (HTu.out _).mono ?_; rintro x W6 ⟨ta, tcp, rfl, HS6, HB6⟩)
        clear HTu HB5 HBp
        have HB6w : Hid (Below w.heap.size w W6) := HB5w.out.trans (HB6.out.mono HB5w.out.size)
        clear HB5w HB6
        by_cases hlg : 60 < s.size
        · have hg2 : g = 2 := by rw [HG.out]; unfold raC; rw [if_pos hlg]
          have hh2 : h = 2 := by rw [HH.out]; unfold tuC; rw [if_pos hlg]
          have hk0 : k = 0 := by rw [HK.out]; unfold raV; rw [if_neg (by rw [← HG.out, hg2]; decide)]
          have hl0 : l.length = 0 := by rw [HL.out]; unfold tuL; rw [if_neg (by rw [← HH.out, hh2]; decide)]; rfl
          have hlg' : (s.size : Int) > 60 := by omega
          rw [hl0]
          clear HK HG HH HL HYe HTr HBe HRi
          subst hg2 hh2 hk0
          go_wp2_with fail
          go_ret
          exact ⟨rfl, HB6w.out⟩
        · have hlg' : ¬ ((s.size : Int) > 60) := by omega
          have hsz : s.size ≤ 60 := by omega
          have HTr2 := hid_w (fun W => HTr.out W hsz)
          by_cases hR : rt 0 s.data.toList = true
          · have hg0 : g = 0 := by rw [HG.out, raC_zero]; exact ⟨hsz, hR⟩
            have ha := rt_allB _ _ hR
            have hh0 : h = 0 := by rw [HH.out, tuC_zero]; exact ⟨hsz, ha⟩
            have hye : y.toList.isEmpty = true := by rw [HYe.out, ha]
            have HBe2 := hid_w (fun W => HBe.out W hsz hh0)
            have HRi2 := hid_w (fun W => HRi.out s true W hsz hR)
            have HAh : Hid (∀ W, Calls Tryd.prog 8 #[.string s] W fun x w' => x = .returned (.int .i64 k) ∧ Hid (Below W.heap.size W w')) := fun W => by
              have hk : k = (rk 0 s.data.toList : Int) := by rw [HK.out]; unfold raV; rw [if_pos (by rw [← HG.out, hg0])]
              rw [hk]
              exact Ahead_at s hsz hR W
            clear HK HG HH HL HYe HTr HBe HRi ha hR
            subst hg0 hh0
            go_upto_region 20 with (go_at_call 7; refine (HRi2.out _ HB6w.out).mono ?_; rintro x W7 ⟨rfl, HB7⟩)
            have HB7w : Hid (Below w.heap.size w W7) := HB6w.out.trans (HB7.out.mono HB6w.out.size)
            go_upto_region 22 with (go_at_call 8; refine (HAh.out _).mono ?_; rintro x W8 ⟨rfl, HB8⟩)
            have HB8w : Hid (Below w.heap.size w W8) := HB7w.out.trans (HB8.out.mono HB7w.out.size)
            go_upto_region 24 with (go_at_call 11; refine (HTr2.out _).mono ?_; rintro x W9 ⟨rfl, HB9⟩)
            have HB9w : Hid (Below w.heap.size w W9) := HB8w.out.trans (HB9.out.mono HB8w.out.size)
            clear HAh HTr2 HRi2
            have HS9 : Hid (Shows W9 ta l) := HS6.out.below ((HB7.out.trans (HB8.out.mono HB7.out.size)).trans (HB9.out.mono (HB7.out.trans (HB8.out.mono HB7.out.size)).size))
            go_wp2_with (first
              | (go_at_call 13; refine (HBe2.out _).mono ?_; rintro x WA ⟨ba, bcp, rfl, HSA, HBA⟩)
              | (go_at_call 12; refine (Same_at _ _ _ _ _ _ l l _ (HS9.out.below HBA.out) HSA.out rfl rfl true (by simp)).mono ?_; rintro x WB ⟨rfl, HBB⟩))
            go_ret
            obtain ⟨dn, rfl⟩ := HBB
            exact ⟨rfl, below_drewN (HB9w.out.trans (HBA.out.mono HB9w.out.size)) dn⟩
          · have hR' : rt 0 s.data.toList = false := by simpa using hR
            have hg1 : g = 1 := by rw [HG.out]; unfold raC; rw [if_neg hlg, if_neg hR]
            have hk0 : k = 0 := by rw [HK.out]; unfold raV; rw [if_neg (by rw [← HG.out, hg1]; decide)]
            have HRi2 := hid_w (fun W => HRi.out s false W hsz hR')
            by_cases ha : allB s.data.toList = true
            · have hh0 : h = 0 := by rw [HH.out, tuC_zero]; exact ⟨hsz, ha⟩
              have hye : y.toList.isEmpty = true := by rw [HYe.out, ha]
              have HBe2 := hid_w (fun W => HBe.out W hsz hh0)
              clear HK HG HH HL HYe HTr HBe HRi ha hR hR'
              subst hg1 hh0 hk0
              go_upto_region 18 with (go_at_call 7; refine (HRi2.out _ HB6w.out).mono ?_; rintro x W7 ⟨rfl, HB7⟩)
              have HB7w : Hid (Below w.heap.size w W7) := HB6w.out.trans (HB7.out.mono HB6w.out.size)
              go_upto_region 24 with (go_at_call 11; refine (HTr2.out _).mono ?_; rintro x W9 ⟨rfl, HB9⟩)
              have HB9w : Hid (Below w.heap.size w W9) := HB7w.out.trans (HB9.out.mono HB7w.out.size)
              clear HTr2 HRi2
              have HS9 : Hid (Shows W9 ta l) := HS6.out.below (HB7.out.trans (HB9.out.mono HB7.out.size))
              go_wp2_with (first
                | (go_at_call 13; refine (HBe2.out _).mono ?_; rintro x WA ⟨ba, bcp, rfl, HSA, HBA⟩)
                | (go_at_call 12; refine (Same_at _ _ _ _ _ _ l l _ (HS9.out.below HBA.out) HSA.out rfl rfl true (by simp)).mono ?_; rintro x WB ⟨rfl, HBB⟩))
              go_ret
              obtain ⟨dn, rfl⟩ := HBB
              exact ⟨rfl, below_drewN (HB9w.out.trans (HBA.out.mono HB9w.out.size)) dn⟩
            · have ha' : allB s.data.toList = false := by simpa using ha
              have hh1 : h = 1 := by rw [HH.out]; unfold tuC; rw [if_neg hlg, if_neg ha]
              have hl0 : l.length = 0 := by rw [HL.out]; unfold tuL; rw [if_neg (by rw [← HH.out, hh1]; decide)]; rfl
              have hye : y.toList.isEmpty = false := by rw [HYe.out, ha']
              rw [hl0]
              clear HK HG HH HL HYe HTr HBe HRi ha ha' hR hR'
              subst hg1 hh1 hk0
              go_upto_region 18 with (go_at_call 7; refine (HRi2.out _ HB6w.out).mono ?_; rintro x W7 ⟨rfl, HB7⟩)
              have HB7w : Hid (Below w.heap.size w W7) := HB6w.out.trans (HB7.out.mono HB6w.out.size)
              go_upto_region 23 with (go_at_call 11; refine (HTr2.out _).mono ?_; rintro x W9 ⟨rfl, HB9⟩)
              have HB9w : Hid (Below w.heap.size w W9) := HB7w.out.trans (HB9.out.mono HB7w.out.size)
              clear HTr2 HRi2
              go_wp2_with fail
              go_ret
              exact ⟨rfl, HB9w.out⟩
  · have hcb : caB n = false := by
      unfold caB
      by_cases h0 : 0 ≤ n
      · rw [decide_eq_true h0, decide_eq_false (by omega)]; rfl
      · rw [decide_eq_false h0]; rfl
    have hc : c = 0 := by rw [HC.out]; unfold caV; rw [if_neg (by rw [hcb]; decide)]
    have he : e = 1 := by rw [HE.out]; unfold caC; rw [if_neg (by rw [hcb]; decide)]
    have hU : unB n r ≠ true := fun h => by have := unB_iff.1 h; omega
    have ht : t.toList.isEmpty = true := by rw [HT.out]; unfold unS; rw [if_neg hU]; rw [ByteArray.toList_eq]; rfl
    have hf : f = 1 := by rw [HF.out]; unfold unC; rw [if_neg hU]
    clear HC HE HT HF hU hcb
    subst hc he hf
    by_cases hn0 : n < 0
    · clear hB
      go_upto_region 7 with fail
      go_upto_region 8 with (go_at_call 6; refine (HUn.out _).mono ?_; rintro x W3 ⟨rfl, HB3⟩)
      have HBp : Hid (Below w.heap.size w W3) := HB1w.out.trans (HB3.out.mono HB1w.out.size)
      clear HB1 HB1w HB3 HUn
      go_upto_region 13 with fail
      go_upto_region 14 with (go_at_call 9; refine (HRa.out _).mono ?_; rintro x W5 ⟨rfl, HB5⟩)
      clear HRa
      have HB5w : Hid (Below w.heap.size w W5) := HBp.out.trans (HB5.out.mono HBp.out.size)
      go_upto_region 15 with (go_at_call 10; refine (HTu.out _).mono ?_; rintro x W6 ⟨ta, tcp, rfl, HS6, HB6⟩)
      clear HTu HB5 HBp
      have HB6w : Hid (Below w.heap.size w W6) := HB5w.out.trans (HB6.out.mono HB5w.out.size)
      clear HB5w HB6
      by_cases hlg : 60 < s.size
      · have hg2 : g = 2 := by rw [HG.out]; unfold raC; rw [if_pos hlg]
        have hh2 : h = 2 := by rw [HH.out]; unfold tuC; rw [if_pos hlg]
        have hk0 : k = 0 := by rw [HK.out]; unfold raV; rw [if_neg (by rw [← HG.out, hg2]; decide)]
        have hl0 : l.length = 0 := by rw [HL.out]; unfold tuL; rw [if_neg (by rw [← HH.out, hh2]; decide)]; rfl
        have hlg' : (s.size : Int) > 60 := by omega
        rw [hl0]
        clear HK HG HH HL HYe HTr HBe HRi
        subst hg2 hh2 hk0
        go_wp2_with fail
        go_ret
        exact ⟨rfl, HB6w.out⟩
      · have hlg' : ¬ ((s.size : Int) > 60) := by omega
        have hsz : s.size ≤ 60 := by omega
        have HTr2 := hid_w (fun W => HTr.out W hsz)
        by_cases hR : rt 0 s.data.toList = true
        · have hg0 : g = 0 := by rw [HG.out, raC_zero]; exact ⟨hsz, hR⟩
          have ha := rt_allB _ _ hR
          have hh0 : h = 0 := by rw [HH.out, tuC_zero]; exact ⟨hsz, ha⟩
          have hye : y.toList.isEmpty = true := by rw [HYe.out, ha]
          have HBe2 := hid_w (fun W => HBe.out W hsz hh0)
          have HRi2 := hid_w (fun W => HRi.out s true W hsz hR)
          have HAh : Hid (∀ W, Calls Tryd.prog 8 #[.string s] W fun x w' => x = .returned (.int .i64 k) ∧ Hid (Below W.heap.size W w')) := fun W => by
            have hk : k = (rk 0 s.data.toList : Int) := by rw [HK.out]; unfold raV; rw [if_pos (by rw [← HG.out, hg0])]
            rw [hk]
            exact Ahead_at s hsz hR W
          clear HK HG HH HL HYe HTr HBe HRi ha hR
          subst hg0 hh0
          go_upto_region 20 with (go_at_call 7; refine (HRi2.out _ HB6w.out).mono ?_; rintro x W7 ⟨rfl, HB7⟩)
          have HB7w : Hid (Below w.heap.size w W7) := HB6w.out.trans (HB7.out.mono HB6w.out.size)
          go_upto_region 22 with (go_at_call 8; refine (HAh.out _).mono ?_; rintro x W8 ⟨rfl, HB8⟩)
          have HB8w : Hid (Below w.heap.size w W8) := HB7w.out.trans (HB8.out.mono HB7w.out.size)
          go_upto_region 24 with (go_at_call 11; refine (HTr2.out _).mono ?_; rintro x W9 ⟨rfl, HB9⟩)
          have HB9w : Hid (Below w.heap.size w W9) := HB8w.out.trans (HB9.out.mono HB8w.out.size)
          clear HAh HTr2 HRi2
          have HS9 : Hid (Shows W9 ta l) := HS6.out.below ((HB7.out.trans (HB8.out.mono HB7.out.size)).trans (HB9.out.mono (HB7.out.trans (HB8.out.mono HB7.out.size)).size))
          go_wp2_with (first
            | (go_at_call 13; refine (HBe2.out _).mono ?_; rintro x WA ⟨ba, bcp, rfl, HSA, HBA⟩)
            | (go_at_call 12; refine (Same_at _ _ _ _ _ _ l l _ (HS9.out.below HBA.out) HSA.out rfl rfl true (by simp)).mono ?_; rintro x WB ⟨rfl, HBB⟩))
          go_ret
          obtain ⟨dn, rfl⟩ := HBB
          exact ⟨rfl, below_drewN (HB9w.out.trans (HBA.out.mono HB9w.out.size)) dn⟩
        · have hR' : rt 0 s.data.toList = false := by simpa using hR
          have hg1 : g = 1 := by rw [HG.out]; unfold raC; rw [if_neg hlg, if_neg hR]
          have hk0 : k = 0 := by rw [HK.out]; unfold raV; rw [if_neg (by rw [← HG.out, hg1]; decide)]
          have HRi2 := hid_w (fun W => HRi.out s false W hsz hR')
          by_cases ha : allB s.data.toList = true
          · have hh0 : h = 0 := by rw [HH.out, tuC_zero]; exact ⟨hsz, ha⟩
            have hye : y.toList.isEmpty = true := by rw [HYe.out, ha]
            have HBe2 := hid_w (fun W => HBe.out W hsz hh0)
            clear HK HG HH HL HYe HTr HBe HRi ha hR hR'
            subst hg1 hh0 hk0
            go_upto_region 18 with (go_at_call 7; refine (HRi2.out _ HB6w.out).mono ?_; rintro x W7 ⟨rfl, HB7⟩)
            have HB7w : Hid (Below w.heap.size w W7) := HB6w.out.trans (HB7.out.mono HB6w.out.size)
            go_upto_region 24 with (go_at_call 11; refine (HTr2.out _).mono ?_; rintro x W9 ⟨rfl, HB9⟩)
            have HB9w : Hid (Below w.heap.size w W9) := HB7w.out.trans (HB9.out.mono HB7w.out.size)
            clear HTr2 HRi2
            have HS9 : Hid (Shows W9 ta l) := HS6.out.below (HB7.out.trans (HB9.out.mono HB7.out.size))
            go_wp2_with (first
              | (go_at_call 13; refine (HBe2.out _).mono ?_; rintro x WA ⟨ba, bcp, rfl, HSA, HBA⟩)
              | (go_at_call 12; refine (Same_at _ _ _ _ _ _ l l _ (HS9.out.below HBA.out) HSA.out rfl rfl true (by simp)).mono ?_; rintro x WB ⟨rfl, HBB⟩))
            go_ret
            obtain ⟨dn, rfl⟩ := HBB
            exact ⟨rfl, below_drewN (HB9w.out.trans (HBA.out.mono HB9w.out.size)) dn⟩
          · have ha' : allB s.data.toList = false := by simpa using ha
            have hh1 : h = 1 := by rw [HH.out]; unfold tuC; rw [if_neg hlg, if_neg ha]
            have hl0 : l.length = 0 := by rw [HL.out]; unfold tuL; rw [if_neg (by rw [← HH.out, hh1]; decide)]; rfl
            have hye : y.toList.isEmpty = false := by rw [HYe.out, ha']
            rw [hl0]
            clear HK HG HH HL HYe HTr HBe HRi ha ha' hR hR'
            subst hg1 hh1 hk0
            go_upto_region 18 with (go_at_call 7; refine (HRi2.out _ HB6w.out).mono ?_; rintro x W7 ⟨rfl, HB7⟩)
            have HB7w : Hid (Below w.heap.size w W7) := HB6w.out.trans (HB7.out.mono HB6w.out.size)
            go_upto_region 23 with (go_at_call 11; refine (HTr2.out _).mono ?_; rintro x W9 ⟨rfl, HB9⟩)
            have HB9w : Hid (Below w.heap.size w W9) := HB7w.out.trans (HB9.out.mono HB7w.out.size)
            clear HTr2 HRi2
            go_wp2_with fail
            go_ret
            exact ⟨rfl, HB9w.out⟩
    · have hn30 : n > 30 := by omega
      clear hB
      go_upto_region 7 with fail
      go_upto_region 8 with (go_at_call 6; refine (HUn.out _).mono ?_; rintro x W3 ⟨rfl, HB3⟩)
      have HBp : Hid (Below w.heap.size w W3) := HB1w.out.trans (HB3.out.mono HB1w.out.size)
      clear HB1 HB1w HB3 HUn
      go_upto_region 13 with fail
      go_upto_region 14 with (go_at_call 9; refine (HRa.out _).mono ?_; rintro x W5 ⟨rfl, HB5⟩)
      clear HRa
      have HB5w : Hid (Below w.heap.size w W5) := HBp.out.trans (HB5.out.mono HBp.out.size)
      go_upto_region 15 with (go_at_call 10; refine (HTu.out _).mono ?_; rintro x W6 ⟨ta, tcp, rfl, HS6, HB6⟩)
      clear HTu HB5 HBp
      have HB6w : Hid (Below w.heap.size w W6) := HB5w.out.trans (HB6.out.mono HB5w.out.size)
      clear HB5w HB6
      by_cases hlg : 60 < s.size
      · have hg2 : g = 2 := by rw [HG.out]; unfold raC; rw [if_pos hlg]
        have hh2 : h = 2 := by rw [HH.out]; unfold tuC; rw [if_pos hlg]
        have hk0 : k = 0 := by rw [HK.out]; unfold raV; rw [if_neg (by rw [← HG.out, hg2]; decide)]
        have hl0 : l.length = 0 := by rw [HL.out]; unfold tuL; rw [if_neg (by rw [← HH.out, hh2]; decide)]; rfl
        have hlg' : (s.size : Int) > 60 := by omega
        rw [hl0]
        clear HK HG HH HL HYe HTr HBe HRi
        subst hg2 hh2 hk0
        go_wp2_with fail
        go_ret
        exact ⟨rfl, HB6w.out⟩
      · have hlg' : ¬ ((s.size : Int) > 60) := by omega
        have hsz : s.size ≤ 60 := by omega
        have HTr2 := hid_w (fun W => HTr.out W hsz)
        by_cases hR : rt 0 s.data.toList = true
        · have hg0 : g = 0 := by rw [HG.out, raC_zero]; exact ⟨hsz, hR⟩
          have ha := rt_allB _ _ hR
          have hh0 : h = 0 := by rw [HH.out, tuC_zero]; exact ⟨hsz, ha⟩
          have hye : y.toList.isEmpty = true := by rw [HYe.out, ha]
          have HBe2 := hid_w (fun W => HBe.out W hsz hh0)
          have HRi2 := hid_w (fun W => HRi.out s true W hsz hR)
          have HAh : Hid (∀ W, Calls Tryd.prog 8 #[.string s] W fun x w' => x = .returned (.int .i64 k) ∧ Hid (Below W.heap.size W w')) := fun W => by
            have hk : k = (rk 0 s.data.toList : Int) := by rw [HK.out]; unfold raV; rw [if_pos (by rw [← HG.out, hg0])]
            rw [hk]
            exact Ahead_at s hsz hR W
          clear HK HG HH HL HYe HTr HBe HRi ha hR
          subst hg0 hh0
          go_upto_region 20 with (go_at_call 7; refine (HRi2.out _ HB6w.out).mono ?_; rintro x W7 ⟨rfl, HB7⟩)
          have HB7w : Hid (Below w.heap.size w W7) := HB6w.out.trans (HB7.out.mono HB6w.out.size)
          go_upto_region 22 with (go_at_call 8; refine (HAh.out _).mono ?_; rintro x W8 ⟨rfl, HB8⟩)
          have HB8w : Hid (Below w.heap.size w W8) := HB7w.out.trans (HB8.out.mono HB7w.out.size)
          go_upto_region 24 with (go_at_call 11; refine (HTr2.out _).mono ?_; rintro x W9 ⟨rfl, HB9⟩)
          have HB9w : Hid (Below w.heap.size w W9) := HB8w.out.trans (HB9.out.mono HB8w.out.size)
          clear HAh HTr2 HRi2
          have HS9 : Hid (Shows W9 ta l) := HS6.out.below ((HB7.out.trans (HB8.out.mono HB7.out.size)).trans (HB9.out.mono (HB7.out.trans (HB8.out.mono HB7.out.size)).size))
          go_wp2_with (first
            | (go_at_call 13; refine (HBe2.out _).mono ?_; rintro x WA ⟨ba, bcp, rfl, HSA, HBA⟩)
            | (go_at_call 12; refine (Same_at _ _ _ _ _ _ l l _ (HS9.out.below HBA.out) HSA.out rfl rfl true (by simp)).mono ?_; rintro x WB ⟨rfl, HBB⟩))
          go_ret
          obtain ⟨dn, rfl⟩ := HBB
          exact ⟨rfl, below_drewN (HB9w.out.trans (HBA.out.mono HB9w.out.size)) dn⟩
        · have hR' : rt 0 s.data.toList = false := by simpa using hR
          have hg1 : g = 1 := by rw [HG.out]; unfold raC; rw [if_neg hlg, if_neg hR]
          have hk0 : k = 0 := by rw [HK.out]; unfold raV; rw [if_neg (by rw [← HG.out, hg1]; decide)]
          have HRi2 := hid_w (fun W => HRi.out s false W hsz hR')
          by_cases ha : allB s.data.toList = true
          · have hh0 : h = 0 := by rw [HH.out, tuC_zero]; exact ⟨hsz, ha⟩
            have hye : y.toList.isEmpty = true := by rw [HYe.out, ha]
            have HBe2 := hid_w (fun W => HBe.out W hsz hh0)
            clear HK HG HH HL HYe HTr HBe HRi ha hR hR'
            subst hg1 hh0 hk0
            go_upto_region 18 with (go_at_call 7; refine (HRi2.out _ HB6w.out).mono ?_; rintro x W7 ⟨rfl, HB7⟩)
            have HB7w : Hid (Below w.heap.size w W7) := HB6w.out.trans (HB7.out.mono HB6w.out.size)
            go_upto_region 24 with (go_at_call 11; refine (HTr2.out _).mono ?_; rintro x W9 ⟨rfl, HB9⟩)
            have HB9w : Hid (Below w.heap.size w W9) := HB7w.out.trans (HB9.out.mono HB7w.out.size)
            clear HTr2 HRi2
            have HS9 : Hid (Shows W9 ta l) := HS6.out.below (HB7.out.trans (HB9.out.mono HB7.out.size))
            go_wp2_with (first
              | (go_at_call 13; refine (HBe2.out _).mono ?_; rintro x WA ⟨ba, bcp, rfl, HSA, HBA⟩)
              | (go_at_call 12; refine (Same_at _ _ _ _ _ _ l l _ (HS9.out.below HBA.out) HSA.out rfl rfl true (by simp)).mono ?_; rintro x WB ⟨rfl, HBB⟩))
            go_ret
            obtain ⟨dn, rfl⟩ := HBB
            exact ⟨rfl, below_drewN (HB9w.out.trans (HBA.out.mono HB9w.out.size)) dn⟩
          · have ha' : allB s.data.toList = false := by simpa using ha
            have hh1 : h = 1 := by rw [HH.out]; unfold tuC; rw [if_neg hlg, if_neg ha]
            have hl0 : l.length = 0 := by rw [HL.out]; unfold tuL; rw [if_neg (by rw [← HH.out, hh1]; decide)]; rfl
            have hye : y.toList.isEmpty = false := by rw [HYe.out, ha']
            rw [hl0]
            clear HK HG HH HL HYe HTr HBe HRi ha ha' hR hR'
            subst hg1 hh1 hk0
            go_upto_region 18 with (go_at_call 7; refine (HRi2.out _ HB6w.out).mono ?_; rintro x W7 ⟨rfl, HB7⟩)
            have HB7w : Hid (Below w.heap.size w W7) := HB6w.out.trans (HB7.out.mono HB6w.out.size)
            go_upto_region 23 with (go_at_call 11; refine (HTr2.out _).mono ?_; rintro x W9 ⟨rfl, HB9⟩)
            have HB9w : Hid (Below w.heap.size w W9) := HB7w.out.trans (HB9.out.mono HB7w.out.size)
            clear HTr2 HRi2
            go_wp2_with fail
            go_ret
            exact ⟨rfl, HB9w.out⟩
end Go.Proofs.YthfbkangjpcpgaaDoor
