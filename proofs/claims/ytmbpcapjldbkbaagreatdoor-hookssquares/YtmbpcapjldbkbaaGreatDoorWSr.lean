/-
  The law HooksSquares, walked through.
-/
import Derived.Test.YtmbpcapjldbkbaaGreatDoorWSq
namespace Go.Proofs.YtmbpcapjldbkbaaGreatDoor
open Go.RowKit

set_option maxHeartbeats 4000000 in
set_option maxRecDepth 100000 in
/-- Where Standard answers an error. -/
theorem hsq_err (a : Option Addr) (n cap : Nat) (x k : Int) (w : World) (hk : k ≠ 0)
    (H1 : Hid (Calls Tryz.prog 13 #[.slice (some ⟨w.heap.size, 0, none⟩) 2 2] (w.alloc (.cells #[.int .i64 2, .int .i64 1] 3)) fun e w' => e = .returned (.tuple #[.string ⟨#[50]⟩, .int .i64 0]) ∧ Hid (Below w.heap.size w w')))
    (H2 : Hid (∀ W, Below w.heap.size w W → Calls Tryz.prog 13 #[.slice a n cap] W fun e w' => e = .returned (.tuple #[.string ⟨#[]⟩, .int .i64 k]) ∧ w' = W))
    (H3 : Hid (∀ W, Below w.heap.size w W → Calls Tryz.prog 15 #[.slice a n cap] W fun e w' => e = .returned (.tuple #[.slice none 0 0, .int .i64 k]) ∧ w' = W)) :
    Calls Tryz.prog 5 #[.slice a n cap, .int .i64 x] w fun e w' => e = .returned (.bool true) ∧ Below w.heap.size w w' := by
  have hk1 : (k == 0) = false := by simp [hk]
  have hk2 : (k != 0) = true := by simp [hk]
  go_enter Tryz.func5, Tryz.ntmps5
  go_wp2_with fail
  refine H1.out.mono ?_
  rintro e w1 ⟨rfl, HB1⟩
  have H2c := hid_w (H2.out w1 HB1.out)
  have H3c := hid_w (H3.out w1 HB1.out)
  clear H1 H2 H3
  go_wp2_with fail
  refine H2c.out.mono ?_
  rintro e w2 ⟨rfl, hw2⟩
  obtain rfl : w1 = w2 := hw2.symm
  clear hw2 H2c
  go_wp2_with fail
  refine H3c.out.mono ?_
  rintro e w3 ⟨rfl, hw3⟩
  obtain rfl : w1 = w3 := hw3.symm
  clear hw3 H3c
  go_wp2
  go_ret
  exact ⟨rfl, HB1.out⟩

set_option maxHeartbeats 16000000 in
set_option maxRecDepth 100000 in
/-- Where Standard answers a number. -/
theorem hsq_ok (a : Option Addr) (n cap : Nat) (x : Int) (zs : List Int) (w : World) (hp : IsPt zs) (hn : n = zs.length)
    (H1 : Hid (Calls Tryz.prog 13 #[.slice (some ⟨w.heap.size, 0, none⟩) 2 2] (w.alloc (.cells #[.int .i64 2, .int .i64 1] 3)) fun e w' => e = .returned (.tuple #[.string ⟨#[50]⟩, .int .i64 0]) ∧ Hid (Below w.heap.size w w')))
    (H2 : Hid (∀ W, Below w.heap.size w W → Calls Tryz.prog 13 #[.slice a n cap] W fun e w' => e = .returned (.tuple #[.string (txN zs), .int .i64 0]) ∧ Hid (Below W.heap.size W w')))
    (HS : Hid (∀ W aq nq cq q, Below w.heap.size w W → Shows W aq q → nq = q.length → IsPt q → Calls Tryz.prog 13 #[.slice aq nq cq] W fun e w' => e = .returned (.tuple #[.string (txN q), .int .i64 0]) ∧ Hid (Below W.heap.size W w')))
    (H3 : Hid (∀ W, Below w.heap.size w W → Calls Tryz.prog 15 #[.slice a n cap] W fun e w' => ∃ al nl cl, e = .returned (.tuple #[.slice al nl cl, .int .i64 0]) ∧ Hid (nl = (belowL zs).length) ∧ Hid (Table w' al (belowL zs)) ∧ Hid (Below W.heap.size W w')))
    (HF : Hid (∀ W, Below w.heap.size w W → Calls Tryz.prog 6 #[.slice a n cap] W fun e w' => ∃ (al : Option Addr) (k cl : Nat) (r : Int), e = .returned (.tuple #[.slice al k cl, .int .i64 r]) ∧ Hid (r = 0 → k = stdN zs ∧ k ≤ 2000) ∧ Hid (Below W.heap.size W w')))
    (HI : Hid (∀ W (k : Nat), Below w.heap.size w W → k = stdN zs → k ≤ 2000 → Calls Tryz.prog 27 #[.int .i64 (k : Int)] W fun e w' => e = .returned (.string (txN zs)) ∧ Hid (Below W.heap.size W w')))
    (HP : Hid (∀ W, Calls Tryz.prog 29 #[.int .i64 x, .int .i64 13] W fun e w' => ∃ c : Nat, e = .returned (.int .i64 c) ∧ Hid (c < 13) ∧ w' = W))
    (HA : Hid (∀ W (c : Nat), c < 13 → Calls Tryz.prog 28 #[.int .i64 (c : Int)] W fun e w' => ∃ al nl cl, e = .returned (.tuple #[.slice al nl cl, .int .i64 0]) ∧ Hid (nl = (genA c).length ∧ nl ≤ 1000) ∧ Hid (Table w' al (genA c)) ∧ Hid (Below W.heap.size W w'))) :
    Calls Tryz.prog 5 #[.slice a n cap, .int .i64 x] w fun e w' => e = .returned (.bool true) ∧ Below w.heap.size w w' := by
  obtain ⟨s, HSx⟩ : ∃ s, Hid (s = txN zs) := ⟨_, rfl⟩
  have HPt : Hid (IsPt zs) := hp
  have HNn : Hid (n = zs.length) := hn
  clear hp hn
  go_enter Tryz.func5, Tryz.ntmps5
  go_wp2_with fail
  refine H1.out.mono ?_
  rintro e w1 ⟨rfl, HB1⟩
  have H2c : Hid (Calls Tryz.prog 13 #[.slice a n cap] w1 fun e w' => e = .returned (.tuple #[.string s, .int .i64 0]) ∧ Hid (Below w1.heap.size w1 w')) := by rw [HSx.out]; exact H2.out w1 HB1.out
  clear H1 H2
  go_wp2_with fail
  refine H2c.out.mono ?_
  rintro e w2 ⟨rfl, HB2⟩
  have HB3 : Hid (Below w.heap.size w w2) := HB1.out.trans (HB2.out.mono HB1.out.size)
  have H3c := hid_w (H3.out w2 HB3.out)
  clear H2c HB1 HB2 H3
  go_wp2_with fail
  refine H3c.out.mono ?_
  rintro e w3 ⟨al, nl, cl, rfl, HNl, HTl, HB4⟩
  have HB5 : Hid (Below w.heap.size w w3) := HB3.out.trans (HB4.out.mono HB3.out.size)
  clear H3c HB3 HB4
  go_upto_if 63 with fail
  go_cut [] (fun wc => Hid (Below w.heap.size w wc))
  case first =>
    by_cases hn0 : n = 0
    · have hgt : ¬ ((n : Int) > 0) := by omega
      have HN0 : Hid (n = 0) := hn0
      clear hn0
      go_wp2_with fail
      go_meet
      exact HB5
    · have hgt : (n : Int) > 0 := by omega
      have hgn : 0 < n := by omega
      have HZn : Hid (zs ≠ []) := fun e => by have := HNn.out; rw [e] at this; exact hn0 this
      have hnl : nl ≤ 1000 := by
        have h1 := HNl.out
        have h2 : (belowL zs).length ≤ zs.length := by
          unfold belowL
          have : ∀ m, ((List.range m).flatMap fun i => if zs.getD (i + 1) 0 = zs.getD i 0 then [] else [lowQ zs i]).length ≤ m := fun m => by
            induction m with
            | zero => simp
            | succ m ih =>
              rw [List.range_succ, List.flatMap_append, List.length_append, List.flatMap_singleton]
              by_cases e : zs.getD (m + 1) 0 = zs.getD m 0
              · rw [if_pos e, List.length_nil]; omega
              · rw [if_neg e, List.length_singleton]; omega
          exact this _
        have := HPt.out.len
        omega
      clear hn0
      obtain ⟨wS, HwS⟩ : ∃ wS, Hid (wS = w3.alloc (.cells #[.bool false, .slice none 0 0] 48)) := ⟨_, rfl⟩
      have HG0 : Hid (Bg wS w3.heap.size w3.heap.size (psm stdN (belowL zs) 0)) := by rw [HwS.out]; exact bg_new w3
      have HBS : Hid (Below w3.heap.size w3 wS) := by rw [HwS.out]; exact (Below.refl _ _).alloc (Nat.le_refl _) _
      go_upto_region 10 with fail
      rw [← HwS.out]
      go_wp2
      go_loopw [67] (fun iv wr => ∃ k : Nat, k ≤ nl ∧ iv = .int .i64 k ∧ Hid (Bg wr w3.heap.size w3.heap.size (psm stdN (belowL zs) k)) ∧ Hid (Below w3.heap.size w3 wr)) (fun iv _ => nl - (intOf iv).toNat)
      case atStart => exact ⟨0, Nat.zero_le _, rfl, HG0, HBS⟩
      case round =>
        clear HG0 HBS
        obtain ⟨k, hk, rfl, HG, HBr⟩ := hrel
        obtain ⟨wk, hwk⟩ : ∃ wk, wk = wr := ⟨_, rfl⟩
        subst hwk
        by_cases hlt : k < nl
        · have hlt' : (k : Int) < (nl : Int) := by omega
          have hkl : k < (belowL zs).length := by rw [← HNl.out]; exact hlt
          obtain ⟨b1, off1, ai, ni, ci, e1, hc1, HN1, HS1, _, _⟩ := (HTl.out.below HBr.out).elemR hkl
          subst e1
          have HBw : Hid (Below w.heap.size w wk) := HB5.out.trans (HBr.out.mono HB5.out.size)
          have HQp : Hid (IsPt ((belowL zs).getD k [])) := below_pt HPt.out _ (mem_getL hkl)
          obtain ⟨q, HQ⟩ : ∃ q, Hid (q = (belowL zs).getD k []) := ⟨_, rfl⟩
          rw [← HQ.out] at HQp HN1 HS1
          have HSc := hid_w (HS.out wk ai ni ci q HBw.out HS1.out HN1.out HQp.out)
          have HNx : Hid (psm stdN (belowL zs) (k + 1) = psm stdN (belowL zs) k + stdN q) := by show _ = _; rw [psm_succ _ hkl, HQ.out]
          have HFit : Hid (psm stdN (belowL zs) k < 4294967296 ^ 100) := by
            have h1 := psm_le stdN (belowL zs) k
            rw [below_sum HPt.out HZn.out] at h1
            exact Nat.lt_of_le_of_lt h1 (stdN_fit HPt.out)
          obtain ⟨tq, HTq⟩ : ∃ tq, Hid (tq = txN q) := ⟨_, rfl⟩
          rw [← HTq.out] at HSc
          go_wp2_with fail
          refine HSc.out.mono ?_
          rintro e w4 ⟨rfl, HB4⟩
          have HWc : Hid (Calls Tryz.prog 25 #[.string tq] w4 fun e w' => e = .returned (.pointer (some ⟨w4.heap.size, 0, none⟩)) ∧ Hid (Bg w' w3.heap.size w4.heap.size (stdN q)) ∧ Hid (Below w4.heap.size w4 w')) := by
            rw [HTq.out]
            exact bgWhole HQp.out (Nat.le_trans HBr.out.size HB4.out.size)
          have HG4 : Hid (Bg w4 w3.heap.size w3.heap.size (psm stdN (belowL zs) k)) := HG.out.below HB4.out
          clear HSc
          go_wp2_with fail
          refine HWc.out.mono ?_
          rintro e w5 ⟨rfl, HX5, HB6⟩
          have HG5 : Hid (Bg w5 w3.heap.size w3.heap.size (psm stdN (belowL zs) k)) := HG4.out.below HB6.out
          have HAc : Hid (Calls Tryz.prog 24 #[.pointer (some ⟨w3.heap.size, 0, none⟩), .pointer (some ⟨w3.heap.size, 0, none⟩), .pointer (some ⟨w4.heap.size, 0, none⟩)] w5 fun e w' => e = .returned (.pointer (some ⟨w3.heap.size, 0, none⟩)) ∧ Hid (Bg w' w3.heap.size w3.heap.size (psm stdN (belowL zs) (k + 1))) ∧ Hid (Below w3.heap.size w3 w')) := by
            refine (bgAdd HG5.out HX5.out HFit.out (stdN_fit HQp.out)).mono ?_
            rintro e w' ⟨rfl, h1, h2⟩
            refine ⟨rfl, by rw [HNx.out]; exact h1, ?_⟩
            exact HBr.out.trans ((HB4.out.mono HBr.out.size).trans ((HB6.out.mono (Nat.le_trans HBr.out.size HB4.out.size)).trans h2.below))
          clear HWc HG4 HG5 HX5
          go_wp2_with fail
          refine HAc.out.mono ?_
          rintro e w6 ⟨rfl, HG6, HB7⟩
          clear HAc
          go_wp2
          first
          | exact ⟨⟨k + 1, by omega, by go_num, HG6, HB7⟩, by simp [intOf]; omega⟩
          | (refine ⟨?_, by simp [intOf]; omega⟩
             rw [decide_eq_true hgn]
             repeat apply Exists.intro
             refine ⟨?_, rfl⟩
             exact ⟨k + 1, by omega, by go_num, HG6, HB7⟩)
        · have hlt' : ¬ (k : Int) < (nl : Int) := by omega
          obtain rfl : k = nl := by omega
          have HGz : Hid (Bg wk w3.heap.size w3.heap.size (stdN zs)) := by
            have h := HG.out
            rw [HNl.out, psm_all, below_sum HPt.out HZn.out] at h
            exact h
          have HSt : Hid (Calls Tryz.prog 26 #[.pointer (some ⟨w3.heap.size, 0, none⟩)] wk fun e w' => e = .returned (.string s) ∧ Hid (Below wk.heap.size wk w')) := by rw [HSx.out]; exact bgStr HPt.out HGz.out
          go_wp2_with fail
          refine HSt.out.mono ?_
          rintro e w7 ⟨rfl, HB8⟩
          have HBf : Hid (Below w.heap.size w w7) := HB5.out.trans ((HBr.out.mono HB5.out.size).trans (HB8.out.mono (Nat.le_trans HB5.out.size HBr.out.size)))
          go_wp2_with fail
          go_meet
          exact HBf
  case rest =>
    have HBc : Hid (Below w.heap.size w wc) := hcut
    have HFc := hid_w (HF.out wc HBc.out)
    clear hcut HTl HNl HB5 HF
    go_wp2_with fail
    refine HFc.out.mono ?_
    rintro e w4 ⟨al4, k4, cl4, r, rfl, HR, HB6⟩
    have HB7 : Hid (Below w.heap.size w w4) := HBc.out.trans (HB6.out.mono HBc.out.size)
    clear HFc HBc HB6
    go_upto_region 19 with fail
    go_cut [103] (fun s103 wx => s103 = .bool false ∧ Hid (Below w.heap.size w wx))
    case first =>
      by_cases hr : r = 0
      · subst hr
        have HIc : Hid (Calls Tryz.prog 27 #[.int .i64 (k4 : Int)] w4 fun e w' => e = .returned (.string s) ∧ Hid (Below w4.heap.size w4 w')) := by
          rw [HSx.out]; exact HI.out w4 k4 HB7.out (HR.out rfl).1 (HR.out rfl).2
        go_wp2_with fail
        refine HIc.out.mono ?_
        rintro e w5 ⟨rfl, HB8⟩
        have HB9 : Hid (Below w.heap.size w w5) := HB7.out.trans (HB8.out.mono HB7.out.size)
        clear HIc
        go_wp2_with fail
        go_meet
        exact ⟨rfl, HB9⟩
      · have hr1 : (r == 0) = false := by simp [hr]
        go_wp2_with fail
        go_meet
        exact ⟨rfl, HB7⟩
    case rest =>
      obtain ⟨rfl, HBx⟩ := hcut
      have HPc := hid_w (HP.out wc)
      clear HR HI HP HB7
      go_wp2_with fail
      refine HPc.out.mono ?_
      rintro e w6 ⟨c, rfl, HC, hw6⟩
      obtain rfl : wc = w6 := hw6.symm
      clear hw6
      have HAc := hid_w (HA.out wc c HC.out)
      clear HPc HA
      go_wp2_with fail
      refine HAc.out.mono ?_
      rintro e w7 ⟨al, nl, cl, rfl, HNl, HTl, HB8⟩
      have HB9 : Hid (Below w.heap.size w w7) := HBx.out.trans (HB8.out.mono HBx.out.size)
      have hnl : nl ≤ 1000 := HNl.out.2
      clear HAc HB8 HBx
      obtain ⟨wS, HwS⟩ : ∃ wS, Hid (wS = w7.alloc (.cells #[.bool false, .slice none 0 0] 48)) := ⟨_, rfl⟩
      have HG0 : Hid (Bg wS w7.heap.size w7.heap.size (psm (fun q => stdN q * stdN q) (genA c) 0)) := by rw [HwS.out]; exact bg_new w7
      have HBS : Hid (Below w7.heap.size w7 wS) := by rw [HwS.out]; exact (Below.refl _ _).alloc (Nat.le_refl _) _
      obtain ⟨F, HFe⟩ : ∃ F, Hid (F = w7.heap.size + 1) := ⟨_, rfl⟩
      have HNw : Hid (∀ W, W = wS → Calls Tryz.prog 30 #[.int .i64 1] W fun e w' => e = .returned (.pointer (some ⟨F, 0, none⟩)) ∧ Hid (Bg w' w7.heap.size w7.heap.size (psm (fun q => stdN q * stdN q) (genA c) 0)) ∧ Hid (Bg w' w7.heap.size F 1) ∧ Hid (Below w7.heap.size w7 w')) := fun W hW => by
        obtain rfl : wS = W := hW.symm
        have hsz : wS.heap.size = w7.heap.size + 1 := by rw [HwS.out]; simp
        refine (NewInt_at 1 wS (by omega)).mono ?_
        rintro e w' ⟨v, us, rfl, h1, h2⟩
        rw [hsz] at h1
        have h3 : Bg w' (w7.heap.size + 1) (w7.heap.size + 1) 1 := ⟨⟨v, us, h1⟩, Nat.le_refl _⟩
        exact ⟨by rw [hsz, HFe.out], HG0.out.below h2, by rw [HFe.out]; exact h3.mono (by omega), HBS.out.trans (h2.mono HBS.out.size)⟩
      have HFn : Hid (F ≠ w7.heap.size) := by show _ ≠ _; have := HFe.out; omega
      clear HG0 HBS
      go_wp2_with fail
      refine (HNw.out _ (by rw [HwS.out])).mono ?_
      rintro e w8 ⟨rfl, HGs, HGf, HB10⟩
      clear HNw
      have HGf0 : Hid (Bg w8 w7.heap.size F (if 0 = 0 then 1 else fcN c)) := by rw [if_pos rfl]; exact HGf.out
      go_wp2
      go_loopw [114] (fun iv wr => ∃ k : Nat, k ≤ nl ∧ iv = .int .i64 k ∧ Hid (Bg wr w7.heap.size w7.heap.size (psm (fun q => stdN q * stdN q) (genA c) k)) ∧ Hid (Bg wr w7.heap.size F (if k = 0 then 1 else fcN c)) ∧ Hid (Below w7.heap.size w7 wr)) (fun iv _ => nl - (intOf iv).toNat)
      case atStart => exact ⟨0, Nat.zero_le _, rfl, HGs, HGf0, HB10⟩
      case round =>
        clear HGs HGf HGf0 HB10
        obtain ⟨k, hk, rfl, HG, HGF, HBr⟩ := hrel
        obtain ⟨wk, hwk⟩ : ∃ wk, wk = wr := ⟨_, rfl⟩
        subst hwk
        have HTot : Hid (((genA c).map fun q => stdN q * stdN q).sum = fcN c) := by show _ = _; rw [squares_small c HC.out, fcN_upTo]
        have HFc : Hid (fcN c < 4294967296 ^ 100) := by
          refine pow_up (k := 5) (by omega) ?_
          have h4 := fcN_mono (a := c) (20 - c)
          rw [show c + (20 - c) = 20 by have := HC.out; omega] at h4
          have h5 : fcN 20 < 4294967296 ^ 5 := by decide +kernel
          omega
        by_cases hlt : k < nl
        · have hlt' : (k : Int) < (nl : Int) := by omega
          have hkl : k < (genA c).length := by rw [← HNl.out.1]; exact hlt
          obtain ⟨b1, off1, ai, ni, ci, e1, hc1, HN1, HS7, _, _⟩ := HTl.out.elemR hkl
          have HS1 : Hid (Shows wk ai ((genA c).getD k [])) := HS7.out.below HBr.out
          have hb1 : b1 < w7.heap.size := by
            rcases Nat.lt_or_ge b1 w7.heap.size with q | q
            · exact q
            · rw [World.cell?] at hc1
              simp [Array.getElem?_eq_none q] at hc1
          rw [← HBr.out.cell (p := ⟨b1, off1 + k, none⟩) hb1] at hc1
          subst e1
          have HBw : Hid (Below w.heap.size w wk) := HB9.out.trans (HBr.out.mono HB9.out.size)
          have HQp : Hid (IsPt ((genA c).getD k []) ∧ szN ((genA c).getD k []) = c) := all_pt HC.out _ (mem_getL hkl)
          obtain ⟨q, HQ⟩ : ∃ q, Hid (q = (genA c).getD k []) := ⟨_, rfl⟩
          rw [← HQ.out] at HQp HN1 HS1 HS7
          have HSc := hid_w (HS.out wk ai ni ci q HBw.out HS1.out HN1.out HQp.out.1)
          have HNx : Hid (psm (fun q => stdN q * stdN q) (genA c) (k + 1) = psm (fun q => stdN q * stdN q) (genA c) k + stdN q * stdN q) := by show _ = _; rw [psm_succ _ hkl, HQ.out]
          have HFit : Hid (psm (fun q => stdN q * stdN q) (genA c) k < 4294967296 ^ 100) := by
            have h1 := psm_le (fun q => stdN q * stdN q) (genA c) k
            rw [HTot.out] at h1
            exact Nat.lt_of_le_of_lt h1 HFc.out
          have HFi2 : Hid (stdN q * stdN q < 4294967296 ^ 100) := by
            have h1 := psm_le (fun q => stdN q * stdN q) (genA c) (k + 1)
            rw [HTot.out, HNx.out] at h1
            exact Nat.lt_of_le_of_lt (Nat.le_trans (Nat.le_add_left _ _) h1) HFc.out
          obtain ⟨tq, HTq⟩ : ∃ tq, Hid (tq = txN q) := ⟨_, rfl⟩
          rw [← HTq.out] at HSc
          go_wp2_with fail
          refine HSc.out.mono ?_
          rintro e w9 ⟨rfl, HB11⟩
          have HWc : Hid (Calls Tryz.prog 25 #[.string tq] w9 fun e w' => e = .returned (.pointer (some ⟨w9.heap.size, 0, none⟩)) ∧ Hid (Bg w' w7.heap.size w9.heap.size (stdN q)) ∧ Hid (Below w9.heap.size w9 w')) := by
            rw [HTq.out]
            exact bgWhole HQp.out.1 (Nat.le_trans HBr.out.size HB11.out.size)
          have HG9 : Hid (Bg w9 w7.heap.size w7.heap.size (psm (fun q => stdN q * stdN q) (genA c) k) ∧ Bg w9 w7.heap.size F (if k = 0 then 1 else fcN c) ∧ Below w7.heap.size w7 w9) := ⟨HG.out.below HB11.out, HGF.out.below HB11.out, HBr.out.trans (HB11.out.mono HBr.out.size)⟩
          clear HSc HG HGF HBr HS1 HB11 HBw
          go_wp2_with fail
          refine HWc.out.mono ?_
          rintro e w10 ⟨rfl, HX, HB12⟩
          obtain ⟨X, HXe⟩ : ∃ X, Hid (X = w9.heap.size) := ⟨_, rfl⟩
          rw [← HXe.out] at HX ⊢
          have HXn : Hid (X ≠ w7.heap.size ∧ X ≠ F) := by
            have h1 := HG9.out.1.lt
            have h2 := HG9.out.2.1.lt
            have := HXe.out
            exact ⟨by omega, by omega⟩
          have HG10 : Hid (Bg w10 w7.heap.size w7.heap.size (psm (fun q => stdN q * stdN q) (genA c) k) ∧ Bg w10 w7.heap.size F (if k = 0 then 1 else fcN c) ∧ Below w7.heap.size w7 w10) := ⟨HG9.out.1.below HB12.out, HG9.out.2.1.below HB12.out, HG9.out.2.2.trans (HB12.out.mono HG9.out.2.2.size)⟩
          have HMc : Hid (Calls Tryz.prog 31 #[.pointer (some ⟨X, 0, none⟩), .pointer (some ⟨X, 0, none⟩), .pointer (some ⟨X, 0, none⟩)] w10 fun e w' => e = .returned (.pointer (some ⟨X, 0, none⟩)) ∧ Hid (Bg w' w7.heap.size X (stdN q * stdN q)) ∧ Hid (Bg w' w7.heap.size w7.heap.size (psm (fun q => stdN q * stdN q) (genA c) k) ∧ Bg w' w7.heap.size F (if k = 0 then 1 else fcN c) ∧ Below w7.heap.size w7 w')) := by
            refine (bgSq HX.out (stdN_fit HQp.out.1)).mono ?_
            rintro e w' ⟨rfl, h1, h2⟩
            obtain ⟨cx, hcx⟩ := HX.out.row
            exact ⟨rfl, h1, HG10.out.1.put h2 hcx (fun e => HXn.out.1 e.symm), HG10.out.2.1.put h2 hcx (fun e => HXn.out.2 e.symm), HG10.out.2.2.trans h2.below⟩
          clear HWc HG9 HB12
          go_wp2_with fail
          refine HMc.out.mono ?_
          rintro e w11 ⟨rfl, HX11, HG11⟩
          have HAc : Hid (Calls Tryz.prog 24 #[.pointer (some ⟨w7.heap.size, 0, none⟩), .pointer (some ⟨w7.heap.size, 0, none⟩), .pointer (some ⟨X, 0, none⟩)] w11 fun e w' => e = .returned (.pointer (some ⟨w7.heap.size, 0, none⟩)) ∧ Hid (Bg w' w7.heap.size w7.heap.size (psm (fun q => stdN q * stdN q) (genA c) (k + 1))) ∧ Hid (Bg w' w7.heap.size F (if k = 0 then 1 else fcN c)) ∧ Hid (Below w7.heap.size w7 w')) := by
            refine (bgAdd HG11.out.1 HX11.out HFit.out HFi2.out).mono ?_
            rintro e w' ⟨rfl, h1, h2⟩
            obtain ⟨cx, hcx⟩ := HG11.out.1.row
            exact ⟨rfl, by rw [HNx.out]; exact h1, HG11.out.2.1.put h2 hcx HFn.out, HG11.out.2.2.trans h2.below⟩
          clear HMc HG10 HX HX11 HG11
          go_wp2_with fail
          refine HAc.out.mono ?_
          rintro e w12 ⟨rfl, HG12, HF12, HB13⟩
          have HS12 : Hid (Shows w12 ai q) := HS7.out.below HB13.out
          clear HAc
          by_cases hk0 : k = 0
          · have hkb : ((k : Int) == 0) = true := by simp [hk0]
            have HK0 : Hid (k = 0) := hk0
            clear hk0
            have HSz : Hid (Calls Tryz.prog 22 #[.slice ai ni ci] w12 fun e w' => e = .returned (.int .i64 (c : Int)) ∧ w' = w12) := by
              have h := RSize_pt ai ni ci q w12 HS12.out HN1.out HQp.out.1 (by rw [HQp.out.2]; have := HC.out; omega)
              rw [HQp.out.2] at h
              exact h
            have HMr : Hid (Calls Tryz.prog 32 #[.pointer (some ⟨F, 0, none⟩), .int .i64 1, .int .i64 (c : Int)] w12 fun e w' => e = .returned (.pointer (some ⟨F, 0, none⟩)) ∧ Hid (Bg w' w7.heap.size w7.heap.size (psm (fun q => stdN q * stdN q) (genA c) (k + 1))) ∧ Hid (Bg w' w7.heap.size F (if k + 1 = 0 then 1 else fcN c)) ∧ Hid (Below w7.heap.size w7 w')) := by
              refine (bgFac HF12.out (by have := HC.out; omega)).mono ?_
              rintro e w' ⟨rfl, h1, h2⟩
              obtain ⟨cx, hcx⟩ := HF12.out.row
              exact ⟨rfl, HG12.out.put h2 hcx (fun e => HFn.out e.symm), by rw [if_neg (by omega)]; exact h1, HB13.out.trans h2.below⟩
            have hc13 : c ≤ 13 := by have := HC.out; omega
            go_wp2_with fail
            refine HSz.out.mono ?_
            rintro e w13 ⟨rfl, hw13⟩
            obtain rfl : w12 = w13 := hw13.symm
            clear hw13 HSz
            go_wp2_with fail
            refine HMr.out.mono ?_
            rintro e w14 ⟨rfl, HG14, HF14, HB15⟩
            clear HMr
            go_wp2
            exact ⟨⟨k + 1, by omega, by go_num, HG14, HF14, HB15⟩, by simp [intOf]; omega⟩
          · have hkb : ((k : Int) == 0) = false := by rw [beq_eq_false_iff_ne]; omega
            have HF13 : Hid (Bg w12 w7.heap.size F (if k + 1 = 0 then 1 else fcN c)) := by
              have h := HF12.out
              rw [if_neg hk0] at h
              rw [if_neg (by omega)]; exact h
            clear hk0
            go_wp2
            exact ⟨⟨k + 1, by omega, by go_num, HG12, HF13, HB13⟩, by simp [intOf]; omega⟩
        · have hlt' : ¬ (k : Int) < (nl : Int) := by omega
          obtain rfl : k = nl := by omega
          have HGz : Hid (Bg wk w7.heap.size w7.heap.size (fcN c)) := by
            have h := HG.out
            rw [HNl.out.1, psm_all, HTot.out] at h
            exact h
          have HFz : Hid (Bg wk w7.heap.size F (fcN c)) := by
            have h := HGF.out
            split at h
            · rename_i h0
              have h2 := HTot.out
              have h3 : genA c = [] := List.eq_nil_of_length_eq_zero (by rw [← HNl.out.1]; exact h0)
              rw [h3] at h2
              have := fcN_pos c
              simp at h2
              omega
            · exact h
          have HCc : Hid (Calls Tryz.prog 33 #[.pointer (some ⟨w7.heap.size, 0, none⟩), .pointer (some ⟨F, 0, none⟩)] wk fun e w' => e = .returned (.int .i64 0) ∧ Hid (Below wk.heap.size wk w')) := bgCmp HGz.out HFz.out HFc.out
          clear HG HGF HGz HFz
          go_wp2_with fail
          refine HCc.out.mono ?_
          rintro e w13 ⟨rfl, HB14⟩
          have HBf : Hid (Below w.heap.size w w13) := HB9.out.trans ((HBr.out.mono HB9.out.size).trans (HB14.out.mono (Nat.le_trans HB9.out.size HBr.out.size)))
          clear HCc
          go_wp2
          go_ret
          exact ⟨rfl, HBf.out⟩

theorem std21 : stdN [2, 1] = 2 := by decide
/-- The first call of the law. -/
theorem first_std (w : World) (htab : Lib.TabIs Tryz.prog w "internal/strconv.uint64pow10" .u64 Lib.pow10Tab) :
    Calls Tryz.prog 13 #[.slice (some ⟨w.heap.size, 0, none⟩) 2 2] (w.alloc (.cells #[.int .i64 2, .int .i64 1] 3)) fun e w' => e = .returned (.tuple #[.string ⟨#[50]⟩, .int .i64 0]) ∧ Below w.heap.size w w' := by
  have hb : Below w.heap.size w (w.alloc (.cells #[.int .i64 2, .int .i64 1] 3)) := (Below.refl _ _).alloc (Nat.le_refl _) _
  have hs : Shows (w.alloc (.cells #[.int .i64 2, .int .i64 1] 3)) (some ⟨w.heap.size, 0, none⟩) [2, 1] := shows_lit w [2, 1] _ rfl (by simp) (by simp)
  have h := HStd_ok (some ⟨w.heap.size, 0, none⟩) 2 2 [2, 1] _ hs rfl pt21 (Lib.tabBelow_of_tabIs htab _ hb)
  rw [std21] at h
  refine h.mono ?_
  rintro e w' ⟨rfl, h2⟩
  refine ⟨?_, hb.trans (h2.mono hb.size)⟩
  rw [numT_small (by omega), Lib.decDigits_one (by omega)]
  rfl
theorem hsq_at {ρ : Go.Shelf.Ren} (L : SlLaysF.n6 Tryz.prog ρ) (hρ : ρ.f 6 = 36) (ef : ∀ args w, (callFunc 37 args).run Tryz.prog w = .ok (.enter 37 args) w) (a : Option Addr) (n cap : Nat) (x : Int) (hx : -9223372036854775808 ≤ x ∧ x ≤ 9223372036854775807) (zs : List Int) (w : World) (hs : Shows w a zs) (hn : n = zs.length) (hcap : n ≤ cap) (htab : Lib.TabIs Tryz.prog w "internal/strconv.uint64pow10" .u64 Lib.pow10Tab) :
    Calls Tryz.prog 5 #[.slice a n cap, .int .i64 x] w fun e w' => e = .returned (.bool true) ∧ Below w.heap.size w w' := by
  have H1 := hid_w (first_std w htab)
  have hT : ∀ W, Below w.heap.size w W → Lib.TabIs Tryz.prog W "internal/strconv.uint64pow10" .u64 Lib.pow10Tab := fun W hW => Lib.tabBelow_of_tabIs htab W hW
  by_cases hp0 : ptC zs = 0
  · have hp := pt_of hp0
    refine hsq_ok a n cap x zs w hp hn H1 (fun W hW => HStd_ok a n cap zs W (hs.below hW) hn hp (hT W hW)) (fun W aq nq cq q hW hS hnq hq => HStd_ok aq nq cq q W hS hnq hq (hT W hW)) (fun W hW => ?_) (fun W hW => ?_) (fun W k hW hk hk2 => ?_) (fun W => ?_) (fun W c hc => ?_)
    · refine (HBelow_ok a n cap zs W (hs.below hW) hn hp hcap).mono ?_
      rintro e w' ⟨v, rfl, h1, h2⟩
      obtain ⟨al, nl, cl, rfl, h3, h4⟩ := h1.table (pt_row (below_pt hp))
      exact ⟨al, nl, cl, rfl, h4, h3, h2⟩
    · refine (FAll_at L hρ ef a n cap zs W (hs.below hW) hn hp).mono ?_
      rintro e w' ⟨v, r, rfl, h1, h2⟩
      rcases h1.out with ⟨rfl, h3, us, ts, h4, _, h5⟩ | ⟨rfl, _, rfl⟩
      · have hl : us.length = stdN zs := by rw [h5.len, h4.length_eq, List.length_map]; exact stS_std hp
        have hl2 : stdN zs ≤ 2000 := by rw [← hl, h5.len, h4.length_eq, List.length_map]; exact h3
        rcases h5.own.2 with ⟨q, h0⟩ | ⟨g, cp, cur, q, _⟩
        · exact ⟨none, 0, 0, 0, by rw [q], fun _ => ⟨by omega, by omega⟩, h2⟩
        · exact ⟨_, us.length, _, 0, by rw [q], fun _ => ⟨hl, by omega⟩, h2⟩
      · exact ⟨none, 0, 0, 2, rfl, fun h => absurd h (by decide), h2⟩
    · unfold txN
      rw [← hk]
      exact Itoa_at k (by omega) W (hT W hW)
    · refine (Pick_at x 13 W hx (by omega) (by omega)).mono ?_
      rintro e w' ⟨c, rfl, h1, rfl⟩
      exact ⟨c, rfl, h1, rfl⟩
    · refine (All_ok c (by omega) W).mono ?_
      rintro e w' ⟨v, rfl, h1, h2⟩
      obtain ⟨al, nl, cl, rfl, h3, h4⟩ := h1.table (pt_row fun q hq => (all_pt hc q hq).1)
      exact ⟨al, nl, cl, rfl, ⟨h4.out, by have := genA_len (n := c) (by omega); have := h4.out; omega⟩, h3, h2⟩
  · exact hsq_err a n cap x (ptC zs) w hp0 H1 (fun W hW => HStd_no a n cap zs W (hs.below hW) hn hp0) (fun W hW => HBelow_no a n cap zs W (hs.below hW) hn hp0)

end Go.Proofs.YtmbpcapjldbkbaaGreatDoor
