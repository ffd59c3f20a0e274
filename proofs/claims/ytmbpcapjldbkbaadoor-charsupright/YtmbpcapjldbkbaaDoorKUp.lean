/-
  The law CharsUpright, walked through.
-/
import Derived.Test.YtmbpcapjldbkbaaDoorKUpA
import Derived.BigGuard
import Derived.Deep.DeepCutAuto
namespace Go.Proofs.YtmbpcapjldbkbaaDoor
open Go.RowKit

/-- The first call of the law. -/
theorem up_first (w : World) : Calls Tryd.prog 4 #[.slice (some ⟨w.heap.size, 0, none⟩) 2 2, .slice (some ⟨w.heap.size + 1, 0, none⟩) 1 1] ((w.alloc (.cells #[.int .i64 2, .int .i64 1] 3)).alloc (.cells #[.int .i64 3] 3)) fun e w' => e = .returned (.tuple #[.int .i64 (-1), .int .i64 0]) ∧ Below w.heap.size w w' := by
  have hb1 : Below w.heap.size w (w.alloc (.cells #[.int .i64 2, .int .i64 1] 3)) := (Below.refl _ _).alloc (Nat.le_refl _) _
  have hb2 : Below (w.alloc (.cells #[.int .i64 2, .int .i64 1] 3)).heap.size (w.alloc (.cells #[.int .i64 2, .int .i64 1] 3)) ((w.alloc (.cells #[.int .i64 2, .int .i64 1] 3)).alloc (.cells #[.int .i64 3] 3)) := (Below.refl _ _).alloc (Nat.le_refl _) _
  have hs1 : Shows (w.alloc (.cells #[.int .i64 2, .int .i64 1] 3)) (some ⟨w.heap.size, 0, none⟩) [2, 1] := shows_lit w [2, 1] _ rfl (by simp) (by simp)
  have hs2 : Shows ((w.alloc (.cells #[.int .i64 2, .int .i64 1] 3)).alloc (.cells #[.int .i64 3] 3)) (some ⟨w.heap.size + 1, 0, none⟩) [3] := by
    have := shows_lit (w.alloc (.cells #[.int .i64 2, .int .i64 1] 3)) [3] _ rfl (by simp) (by simp)
    simpa using this
  have h := Character_ok (some ⟨w.heap.size, 0, none⟩) (some ⟨w.heap.size + 1, 0, none⟩) 2 1 2 1 [2, 1] [3] _ (hs1.below hb2) rfl hs2 rfl (Nat.le_refl _) good21
  rw [chi21] at h
  refine h.mono ?_
  rintro e w' ⟨rfl, h2⟩
  have hb := hb1.trans (hb2.mono hb1.size)
  exact ⟨rfl, hb.trans (h2.mono hb.size)⟩

set_option maxHeartbeats 4000000 in
set_option maxRecDepth 100000 in
/-- Where Character answers an error. -/
theorem up_err (a0 a1 a2 : Option Addr) (n0 n1 n2 c0 c1 c2 : Nat) (w : World)
    (H1 : Hid (Calls Tryd.prog 4 #[.slice (some ⟨w.heap.size, 0, none⟩) 2 2, .slice (some ⟨w.heap.size + 1, 0, none⟩) 1 1] ((w.alloc (.cells #[.int .i64 2, .int .i64 1] 3)).alloc (.cells #[.int .i64 3] 3)) fun e w' => e = .returned (.tuple #[.int .i64 (-1), .int .i64 0]) ∧ Hid (Below w.heap.size w w')))
    (H2 : Hid (∀ W, Below w.heap.size w W → Calls Tryd.prog 4 #[.slice a0 n0 c0, .slice a2 n2 c2] W fun e w' => ∃ r : Int, e = .returned (.tuple #[.int .i64 0, .int .i64 r]) ∧ r ≠ 0 ∧ w' = W)) :
    Calls Tryd.prog 3 #[.slice a0 n0 c0, .slice a1 n1 c1, .slice a2 n2 c2] w fun e w' => e = .returned (.bool true) ∧ Below w.heap.size w w' := by
  go_enter Tryd.func3, Tryd.ntmps3
  go_wp2_with fail
  refine H1.out.mono ?_
  rintro e w1 ⟨rfl, HB1⟩
  have H2c := hid_w (H2.out w1 HB1.out)
  clear H1 H2
  go_wp2_with fail
  refine H2c.out.mono ?_
  rintro e w2 ⟨r, rfl, hr, hw2⟩
  obtain rfl : w1 = w2 := hw2.symm
  have hr2 : (r != 0) = true := by simp [hr]
  have hr1 : (r == 0) = false := by simp [hr]
  clear hw2 H2c hr
  go_wp2
  go_ret
  exact ⟨rfl, HB1.out⟩

set_option maxHeartbeats 16000000 in
set_option maxRecDepth 100000 in
theorem up_ok (a0 a1 a2 : Option Addr) (n0 n1 n2 c0 c1 c2 : Nat) (zs qs ms : List Int) (w : World) (hs0 : Shows w a0 zs) (hs1 : Shows w a1 qs) (hs2 : Shows w a2 ms) (hn0 : n0 = zs.length) (hn1 : n1 = qs.length) (hn2 : n2 = ms.length) (hcp1 : n1 ≤ c1) (hcp2 : n2 ≤ c2) (hg : Good zs ms)
    (htab : Lib.TabIs Tryd.prog w "internal/strconv.uint64pow10" .u64 Lib.pow10Tab) :
    Calls Tryd.prog 3 #[.slice a0 n0 c0, .slice a1 n1 c1, .slice a2 n2 c2] w fun e w' => e = .returned (.bool true) ∧ Below w.heap.size w w' := by
  have H1 := hid_w (up_first w)
  have hp := pt_of hg.1
  have hm := pt_of hg.2.1
  have hsz := hg.2.2.1
  have h12 := hg.2.2.2
  obtain ⟨N, HN⟩ : ∃ N, Hid (N = szN zs) := ⟨_, rfl⟩
  have hN12 : N ≤ 12 := by rw [HN.out]; exact h12
  obtain ⟨A, HA⟩ : ∃ A, Hid (A = chi (natL ms) zs) := ⟨_, rfl⟩
  obtain ⟨B, HB⟩ : ∃ B, Hid (B = chi (natL ms) (ptConj zs)) := ⟨_, rfl⟩
  have hlz := len_szN hp
  have hlm := len_szN hm
  have hAb : A.natAbs ≤ 9000000000000 := by
    have h1 := chi_bd (natL ms) zs hp (by omega)
    rw [← HA.out] at h1
    refine Nat.le_trans h1 (Nat.le_trans (Nat.pow_le_pow_right (by omega) (show (natL ms).length ≤ 12 by unfold natL; rw [List.length_map]; omega)) (by decide))
  have hBA : B = sg (lsS (natL ms)) * A := by rw [HB.out, HA.out]; exact chi_conj hp (natL ms)
  obtain ⟨d, HD⟩ : ∃ d, Hid (d = lsS (natL ms)) := ⟨_, rfl⟩
  have hdN : (N : Int) - (n2 : Int) = (d : Int) := by
    have h1 := lsS_is (ms := ms) fun z hz => (hm.range z hz).1
    rw [szN_is hm, ← hsz, ← HN.out, ← HD.out, ← hn2] at h1
    omega
  rw [← HD.out] at hBA
  have HBA : Hid (B = sg d * A) := hBA
  have hn2b : n2 ≤ 12 := by omega
  have hc1' := hcp1
  -- the contracts
  have HC2 : Hid (∀ W, Below w.heap.size w W → Calls Tryd.prog 4 #[.slice a0 n0 c0, .slice a2 n2 c2] W fun e w' => e = .returned (.tuple #[.int .i64 A, .int .i64 0]) ∧ Hid (Below W.heap.size W w')) := fun W hW => by
    rw [HA.out]; exact Character_ok a0 a2 n0 n2 c0 c2 zs ms W (hs0.below hW) hn0 (hs2.below hW) hn2 hcp2 hg
  have HC3 : Hid (∀ W, Below w.heap.size w W → Calls Tryd.prog 5 #[.slice a0 n0 c0] W fun e w' => ∃ ac nc cc, e = .returned (.tuple #[.slice ac nc cc, .int .i64 0]) ∧ Hid (nc = pF zs 0) ∧ Hid (Shows w' ac (ptConj zs)) ∧ Hid (Below W.heap.size W w')) := fun W hW => by
    refine (Conjugate_ok a0 n0 c0 zs W (hs0.below hW) hn0 hp).mono ?_
    rintro e w' ⟨v, rfl, ho, hb⟩
    obtain ⟨ac, cc, rfl, hh⟩ := ho.shows (by rw [conj_len]; have := pF_le hp 0; omega) (fun z hz => by have := (conj_pt hp).range z hz; omega)
    exact ⟨ac, _, cc, rfl, conj_len zs, hh, hb⟩
  have HC4 : Hid (∀ W ac nc cc, Below w.heap.size w W → nc = pF zs 0 → Shows W ac (ptConj zs) → Calls Tryd.prog 4 #[.slice ac nc cc, .slice a2 n2 c2] W fun e w' => e = .returned (.tuple #[.int .i64 B, .int .i64 0]) ∧ Hid (Below W.heap.size W w')) := fun W ac nc cc hW hnc hS => by
    rw [HB.out]
    exact Character_ok ac a2 nc n2 cc c2 (ptConj zs) ms W hS (by rw [hnc, conj_len]) (hs2.below hW) hn2 hcp2 ⟨of_pt (conj_pt hp), hg.2.1, by rw [(conj_hook hp).2]; exact hsz, by rw [(conj_hook hp).2]; exact h12⟩
  have HSz : Hid (∀ W, Below w.heap.size w W → Calls Tryd.prog 6 #[.slice a0 n0 c0] W fun e w' => e = .returned (.int .i64 (N : Int)) ∧ w' = W) := fun W hW => by
    rw [HN.out]; exact RSize_pt a0 n0 c0 zs W (hs0.below hW) hn0 hp (by omega)
  have HP : Hid (IsPt zs ∧ IsPt ms ∧ Good zs ms) := ⟨hp, hm, hg⟩
  have HS : Hid (Shows w a0 zs ∧ Shows w a1 qs ∧ Shows w a2 ms ∧ n0 = zs.length ∧ n1 = qs.length ∧ n2 = ms.length) := ⟨hs0, hs1, hs2, hn0, hn1, hn2⟩
  have HTab : Hid (∀ W, Below w.heap.size w W → Lib.TabIs Tryd.prog W "internal/strconv.uint64pow10" .u64 Lib.pow10Tab) := fun W hW => Lib.tabBelow_of_tabIs htab W hW
  clear hs0 hs1 hs2 hn0 hn1 hn2 hp hm hg htab hBA hlz hlm hsz h12
  go_enter Tryd.func3, Tryd.ntmps3
  go_wp2_with fail
  refine H1.out.mono ?_
  rintro e w1 ⟨rfl, hb1⟩
  have HB1 : Hid (Below w.heap.size w w1) := hb1
  clear hb1
  have hid2 := hid_w (HC2.out w1 HB1.out)
  clear H1 HC2
  go_wp2_with fail
  refine hid2.out.mono ?_
  rintro e w2 ⟨rfl, HB2⟩
  have HB3 : Hid (Below w.heap.size w w2) := HB1.out.trans (HB2.out.mono HB1.out.size)
  have hid3 := hid_w (HC3.out w2 HB3.out)
  clear hid2 HC3 HB1 HB2
  go_wp2_with fail
  refine hid3.out.mono ?_
  rintro e w3 ⟨ac, nc, cc, rfl, HNc, HSc, HB4⟩
  have HB5 : Hid (Below w.heap.size w w3) := HB3.out.trans (HB4.out.mono HB3.out.size)
  have hid4 := hid_w (HC4.out w3 ac nc cc HB5.out HNc.out HSc.out)
  clear hid3 HC4 HB3 HB4 HNc HSc
  go_wp2_with fail
  refine hid4.out.mono ?_
  rintro e w4 ⟨rfl, HB6⟩
  have HB7 : Hid (Below w.heap.size w w4) := HB5.out.trans (HB6.out.mono HB5.out.size)
  clear hid4 HB5 HB6
  have hidS := hid_w (HSz.out w4 HB7.out)
  go_upto_region 9 with fail
  go_cut [103] (fun s103 wx => s103 = .bool false ∧ Hid (Below w.heap.size w wx))
  case first =>
    by_cases hd2 : d % 2 = 0
    · have e1 : ((d : Int) % 2 == 0) = true := by rw [beq_iff_eq]; omega
      have e2 : (Int.tmod (d : Int) 2 == 0) = true := by rw [beq_iff_eq, Int.tmod_eq_emod_of_nonneg (by omega)]; omega
      have e3 : ((d : Int) % 2 != 0) = false := by rw [bne_eq_false_iff_eq]; omega
      have e4 : (Int.tmod (d : Int) 2 != 0) = false := by rw [bne_eq_false_iff_eq, Int.tmod_eq_emod_of_nonneg (by omega)]; omega
      have hBe : B = A := by rw [HBA.out, sg_mod, if_pos hd2, Int.one_mul]
      subst hBe
      clear hd2
      go_wp2_with fail
      refine hidS.out.mono ?_
      rintro e w5 ⟨rfl, hw5⟩
      obtain rfl : w4 = w5 := hw5.symm
      clear hw5
      go_wp2_with fail
      refine hidS.out.mono ?_
      rintro e w5 ⟨rfl, hw5⟩
      obtain rfl : w4 = w5 := hw5.symm
      clear hw5
      go_wp2_with fail
      go_meet
      exact ⟨rfl, HB7⟩
    · have e1 : ((d : Int) % 2 == 0) = false := by rw [beq_eq_false_iff_ne]; omega
      have e2 : (Int.tmod (d : Int) 2 == 0) = false := by rw [beq_eq_false_iff_ne, Int.tmod_eq_emod_of_nonneg (by omega)]; omega
      have e3 : ((d : Int) % 2 != 0) = true := by rw [bne_iff_ne]; omega
      have e4 : (Int.tmod (d : Int) 2 != 0) = true := by rw [bne_iff_ne, Int.tmod_eq_emod_of_nonneg (by omega)]; omega
      have hBe : -B = A := by rw [HBA.out, sg_mod, if_neg hd2]; omega
      have hBw : IntKind.i64.wrap (-B) = A := by rw [hBe, IntWalk.i64_left, IntWalk.wrap64_in]; omega
      clear hd2 hBe
      go_wp2_with fail
      refine hidS.out.mono ?_
      rintro e w5 ⟨rfl, hw5⟩
      obtain rfl : w4 = w5 := hw5.symm
      clear hw5
      go_wp2_with fail
      refine hidS.out.mono ?_
      rintro e w5 ⟨rfl, hw5⟩
      obtain rfl : w4 = w5 := hw5.symm
      clear hw5
      go_wp2_with fail
      go_meet
      exact ⟨rfl, HB7⟩
  case rest =>
    obtain ⟨rfl, HB8⟩ := hcut
    obtain ⟨i0, hi0, hz0, hz1, hz2⟩ := info_parts Tryd.info3
    have hidS2 := hid_w (HSz.out wc HB8.out)
    clear hidS HB7 hdN hAb HBA HA HB HD
    go_wp2_with fail
    refine hidS2.out.mono ?_
    rintro e w5 ⟨rfl, hw5⟩
    obtain rfl : wc = w5 := hw5.symm
    clear hw5 hidS2
    go_wp2_with (at_make; refine wpList_make_full _ rfl _ _ 22 rfl wc.heap.size 3 i0 (.int .i64 0) 1 Tryd.underlying22 hi0 hz0 hz1 _ _ _ _ N rfl rfl rfl rfl ?b1 ?b2 ?b3 ?_)
    case b1 => rw [hz2]; omega
    case b2 => unfold maxLen; omega
    case b3 => exact Nat.le_refl _
    intro w5 hown hgrow
    have hb5 : Below wc.heap.size wc w5 := (Below.refl _ _).grown hgrow (Nat.le_refl _) (fun k h => by cases h)
    have HO5 : Hid (Owns w5 wc.heap.size (.slice (some ⟨wc.heap.size, 0, none⟩) N N) (onL N 0)) := by
      have h := owns_madeX (g := wc.heap.size) (n := N) (base := wc.heap.size) (w := w5) (by first | exact hown | simpa [Value.cells] using hown)
      have e : tab N (fun _ => (0 : Int)) = onL N 0 := tab_congr fun j _ => by rw [if_neg (by omega)]
      rw [e] at h; exact h
    have HB9 : Hid (Below wc.heap.size wc w5) := hb5
    clear hown hgrow hb5
    obtain ⟨G, HG⟩ : ∃ G, Hid (G = wc.heap.size) := ⟨_, rfl⟩
    rw [← HG.out] at HO5 HB9 ⊢
    go_wp2
    go_loopw [109] (fun iv wr => ∃ k : Nat, k ≤ N ∧ iv = .int .i64 k ∧ Hid (Owns wr G (.slice (some ⟨G, 0, none⟩) N N) (onL N k)) ∧ Hid (Below G wc wr)) (fun iv _ => N - (intOf iv).toNat)
    case atStart => exact ⟨0, Nat.zero_le _, rfl, HO5, HB9⟩
    case round =>
      clear HO5 HB9
      obtain ⟨k, hk, rfl, HO, HBr⟩ := hrel
      obtain ⟨wk, hwk⟩ : ∃ wk, wk = wr := ⟨_, rfl⟩
      subst hwk
      by_cases hlt : k < N
      · have hlt' : (k : Int) < (N : Int) := by omega
        obtain ⟨g, cp, e3, -, hglt, hfz, hce⟩ := HO.out.head (by rw [onL_len]; omega)
        simp only [Value.slice.injEq, Option.some.injEq, Addr.mk.injEq, and_true] at e3
        obtain ⟨rfl, -, -⟩ := e3
        have hcr := hce k (by rw [onL_len]; omega)
        have hfr := hfz k
        have HO2 : Hid (Owns (wk.setCell ⟨G, k, none⟩ (.int .i64 1)) G (.slice (some ⟨G, 0, none⟩) N N) (onL N (k + 1))) := by
          have := HO.out.store (by rw [onL_len]) k 1
          rw [onL_set] at this; exact this
        have HB2 : Hid (Below G wc (wk.setCell ⟨G, k, none⟩ (.int .i64 1))) := HBr.out.setCell (p := ⟨G, k, none⟩) (Nat.le_refl _) _
        clear hce hfz
        go_wp2
        first
        | exact ⟨⟨k + 1, by omega, by go_num, HO2, HB2⟩, by simp [intOf]; omega⟩
        | (refine ⟨?_, by simp [intOf]; omega⟩
           repeat apply Exists.intro
           refine ⟨?_, rfl⟩
           exact ⟨k + 1, by omega, by go_num, HO2, HB2⟩)
      · obtain rfl : k = N := by omega
        have hlt' : ¬ ((k : Int) < (k : Int)) := by omega
        have HBw : Hid (Below w.heap.size w wk) := HB8.out.trans (HBr.out.mono (by rw [HG.out]; exact HB8.out.size))
        have HC5 : Hid (Calls Tryd.prog 4 #[.slice a0 n0 c0, .slice (some ⟨G, 0, none⟩) k k] wk fun e w' => e = .returned (.tuple #[.int .i64 ((stdN zs : Nat) : Int), .int .i64 0]) ∧ Hid (Below wk.heap.size wk w')) := by
          have h1 := HO.out
          rw [onL_all] at h1
          obtain ⟨a9, c9, e9, hS9⟩ := h1.shows (by simp; omega) (fun z hz => by rw [List.eq_of_mem_replicate hz]; omega)
          simp only [Value.slice.injEq] at e9
          obtain ⟨rfl, -, rfl⟩ := e9
          have hgo := ones_good k (by omega)
          have h2 := Character_ok a0 (some ⟨G, 0, none⟩) n0 k c0 k zs (List.replicate k 1) wk (HS.out.1.below HBw.out) HS.out.2.2.2.1 hS9 (by simp) (Nat.le_refl _) ⟨HP.out.2.2.1, hgo.1, by rw [hgo.2]; exact HN.out.symm, HP.out.2.2.2.2.2⟩
          rw [natL_ones, chi_ones k zs HP.out.1 HN.out.symm] at h2
          exact h2
        obtain ⟨D, HDs⟩ : ∃ D, Hid (D = stdN zs) := ⟨_, rfl⟩
        rw [← HDs.out] at HC5
        obtain ⟨s, HSx⟩ : ∃ s, Hid (s = txN zs) := ⟨_, rfl⟩
        clear HO HBr
        go_wp2_with fail
        refine HC5.out.mono ?_
        rintro e w6 ⟨rfl, HB10⟩
        have HB11 : Hid (Below w.heap.size w w6) := HBw.out.trans (HB10.out.mono HBw.out.size)
        have HSd : Hid (Calls Tryd.prog 7 #[.slice a0 n0 c0] w6 fun e w' => e = .returned (.tuple #[.string s, .int .i64 0]) ∧ Hid (Below w6.heap.size w6 w')) := by
          rw [HSx.out]; exact HStd_ok a0 n0 c0 zs w6 (HS.out.1.below HB11.out) HS.out.2.2.2.1 HP.out.1 (HTab.out w6 HB11.out)
        clear HC5 HBw HB10
        go_wp2_with fail
        refine HSd.out.mono ?_
        rintro e w7 ⟨rfl, HB12⟩
        have HB13 : Hid (Below w.heap.size w w7) := HB11.out.trans (HB12.out.mono HB11.out.size)
        have HIt : Hid (Calls Tryd.prog 8 #[.int .i64 (D : Int)] w7 fun e w' => e = .returned (.string s) ∧ Hid (Below w7.heap.size w7 w')) := by
          rw [HSx.out, HDs.out]
          exact Itoa_at (stdN zs) (by have := std_le HP.out.1 (by rw [← HN.out]; omega); omega) w7 (HTab.out w7 HB13.out)
        clear HSd HB11 HB12
        go_wp2_with fail
        refine HIt.out.mono ?_
        rintro e w8 ⟨rfl, HB14⟩
        have HB15 : Hid (Below w.heap.size w w8) := HB13.out.trans (HB14.out.mono HB13.out.size)
        clear HIt HB13 HB14
        have hidS3 := hid_w (HSz.out w8 HB15.out)
        have HSq : Hid (Calls Tryd.prog 6 #[.slice a1 n1 c1] w8 fun e w' => ∃ v : Int, e = .returned (.int .i64 v) ∧ Hid (ptC qs = 0 → v = (szN qs : Int)) ∧ w' = w8) := RSize_q a1 n1 c1 qs w8 (HS.out.2.1.below HB15.out) HS.out.2.2.2.2.1
        obtain ⟨pq, HPq⟩ : ∃ pq, Hid (pq = ptC qs) := ⟨_, rfl⟩
        have HPc : Hid (Calls Tryd.prog 9 #[.slice a1 n1 c1] w8 fun e w' => e = .returned (.int .i64 pq) ∧ w' = w8) := by
          have := PaCheck_any a1 c1 qs w8 (HS.out.2.1.below HB15.out)
          rw [← HS.out.2.2.2.2.1, ← HPq.out] at this; exact this
        go_wp2_with fail
        refine hidS3.out.mono ?_
        rintro e w9 ⟨rfl, hw9⟩
        obtain rfl : w8 = w9 := hw9.symm
        clear hw9
        go_wp2_with fail
        refine HSq.out.mono ?_
        rintro e w9 ⟨v, rfl, HV, hw9⟩
        obtain rfl : w8 = w9 := hw9.symm
        clear hw9 HSq
        by_cases hv : (k : Int) = v
        · subst hv
          by_cases hpq : pq = 0
          · subst hpq
            by_cases h9 : k ≤ 9
            · have h9' : ¬ ((k : Int) > 9) := by omega
              have HQp : Hid (IsPt qs ∧ szN qs = k) := ⟨pt_of HPq.out.symm, by have := HV.out HPq.out.symm; omega⟩
              have HZm : Hid (zs ∈ genA k) := mem_genA HP.out.1 HN.out.symm (by omega)
              have HQm : Hid (qs ∈ genA k) := mem_genA HQp.out.1 HQp.out.2 (by omega)
              have HMs : Hid (szN ms = k) := by show _ = _; rw [HN.out]; exact HP.out.2.2.2.2.1.symm
              have HMm : Hid (ms ∈ genA k) := mem_genA HP.out.2.1 HMs.out (by omega)
              obtain ⟨ip, Hip⟩ : ∃ ip, Hid (ip = ixP k zs) := ⟨_, rfl⟩
              obtain ⟨iq, Hiq⟩ : ∃ iq, Hid (iq = ixP k qs) := ⟨_, rfl⟩
              obtain ⟨im, Him⟩ : ∃ im, Hid (im = ixP k ms) := ⟨_, rfl⟩
              have HAl : Hid (Calls Tryd.prog 10 #[.int .i64 (k : Int)] w8 fun e w' => ∃ al nl cl, e = .returned (.tuple #[.slice al nl cl, .int .i64 0]) ∧ Hid (nl = (genA k).length ∧ nl ≤ 30) ∧ Hid (TabC w' al (genA k)) ∧ Hid (Below w8.heap.size w8 w')) := by
                refine (All_ok k (by omega) w8).mono ?_
                rintro e w' ⟨v, rfl, h1, h2⟩
                have hbd : ∀ l ∈ genA k, l.length ≤ 17592186044416 ∧ ∀ z ∈ l, -9223372036854775808 ≤ z ∧ z ≤ 9223372036854775807 := fun l hl => by
                  have hpt := genA_pt k (by omega)
                  rw [List.all_eq_true] at hpt
                  have h3 := hpt l hl
                  simp only [Bool.and_eq_true, decide_eq_true_eq] at h3
                  have h4 := pt_of h3.1
                  exact ⟨by have := h4.len; omega, fun z hz => by have := h4.range z hz; omega⟩
                obtain ⟨al, nl, cl, rfl, h3, h4⟩ := h1.tabC hbd
                exact ⟨al, nl, cl, rfl, ⟨h4.out, by rw [h4.out]; exact genA_few k (by omega)⟩, h3, h2⟩
              clear h9
              go_wp2_with fail
              refine HPc.out.mono ?_
              rintro e w9 ⟨rfl, hw9⟩
              obtain rfl : w8 = w9 := hw9.symm
              clear hw9 HPc
              go_wp2_with fail
              refine hidS3.out.mono ?_
              rintro e w9 ⟨rfl, hw9⟩
              obtain rfl : w8 = w9 := hw9.symm
              clear hw9
              go_wp2_with fail
              refine hidS3.out.mono ?_
              rintro e w9 ⟨rfl, hw9⟩
              obtain rfl : w8 = w9 := hw9.symm
              clear hw9 hidS3
              go_wp2_with fail
              refine HAl.out.mono ?_
              rintro e w9 ⟨al, nl, cl, rfl, HNl, HT, HB16⟩
              have HB17 : Hid (Below w.heap.size w w9) := HB15.out.trans (HB16.out.mono HB15.out.size)
              have hnl : nl ≤ 30 := HNl.out.2
              clear HAl HB15 HB16
              have hidS4 := hid_w (HSz.out w9 HB17.out)
              have hk9 : k ≤ 9 := by omega
              go_wp2
              go_loopw [24, 25] (fun fv iv wr => ∃ i F : Nat, 2 ≤ i ∧ i ≤ 11 ∧ F ≤ 3628800 ∧ iv = .int .i64 (i : Int) ∧ fv = .int .i64 (F : Int) ∧ Hid (F = fcT (i - 1)) ∧ Hid (i = 2 ∨ i ≤ k + 1) ∧ wr = w9) (fun _ iv _ => 20 - (intOf iv).toNat)
              case atStart => exact ⟨2, 1, by omega, by omega, by omega, rfl, rfl, rfl, Or.inl rfl, rfl⟩
              case round =>
                obtain ⟨i, F, hi2, hi11, hFb, rfl, rfl, HF, HI, hwr⟩ := hrel
                obtain rfl : w9 = wr := hwr.symm
                clear hwr
                by_cases hle : i ≤ k
                · have hle' : (i : Int) ≤ (k : Int) := by omega
                  have hFi : F * i = fcT i := by
                    have := HF.out
                    obtain ⟨j, rfl⟩ : ∃ j, i = j + 1 := ⟨i - 1, by omega⟩
                    rw [Nat.add_sub_cancel] at this
                    rw [fcT, this]
                  have hFi2 : F * i ≤ 3628800 := by
                    rw [hFi]
                    have h1 := fcT_mono (a := i) (10 - i)
                    rw [show i + (10 - i) = 10 by omega] at h1
                    exact Nat.le_trans h1 (by decide)
                  have hm : IntKind.i64.wrap ((F : Int) * (i : Int)) = ((F * i : Nat) : Int) := by
                    rw [show (F : Int) * (i : Int) = ((F * i : Nat) : Int) by simp, IntWalk.i64_left, IntWalk.wrap64_in]; omega
                  have HFn : Hid (F * i = fcT (i + 1 - 1)) := hFi
                  clear hFi
                  obtain ⟨F2, HF2⟩ : ∃ F2, Hid (F2 = F * i) := ⟨_, rfl⟩
                  rw [← HF2.out] at hFi2 hm HFn
                  go_wp2_with fail
                  refine hidS4.out.mono ?_
                  rintro e w10 ⟨rfl, hw10⟩
                  obtain rfl : w9 = w10 := hw10.symm
                  clear hw10
                  go_wp2
                  first
                  | exact ⟨⟨i + 1, F2, by omega, by omega, hFi2, by go_num, rfl, HFn, Or.inr (by omega), trivial⟩, by simp [intOf]; omega⟩
                  | exact ⟨⟨i + 1, F2, by omega, by omega, hFi2, by go_num, rfl, HFn, Or.inr (by omega), rfl⟩, by simp [intOf]; omega⟩
                  | (refine ⟨?_, by simp [intOf]; omega⟩
                     repeat apply Exists.intro
                     refine ⟨?_, rfl⟩
                     exact ⟨i + 1, F2, by omega, by omega, hFi2, by go_num, rfl, HFn, Or.inr (by omega), rfl⟩)
                · have hle' : ¬ ((i : Int) ≤ (k : Int)) := by omega
                  have HFk : Hid (F = fcT k) := by
                    show _ = _
                    rw [HF.out]
                    rcases HI.out with q | q
                    · subst q
                      have : k = 0 ∨ k = 1 := by omega
                      rcases this with q | q <;> rw [q] <;> rfl
                    · congr 1; omega
                  clear HF HI hi2 hi11 hle
                  obtain ⟨O, HO⟩ : ∃ O, Hid (O = clN k ms) := ⟨_, rfl⟩
                  have hOb := class_few HP.out.2.1 HMs.out (by omega)
                  have hO0 : 0 < O := by rw [HO.out]; exact hOb.2.2.1
                  have hO9 : O ≤ 479001600 := by rw [HO.out]; exact hOb.2.2.2
                  have HCm : Hid (Calls Tryd.prog 11 #[.slice a2 n2 c2] w9 fun e w' => e = .returned (.tuple #[.int .i64 (O : Int), .int .i64 0]) ∧ w' = w9) := by
                    rw [HO.out]; exact Class_ok a2 n2 c2 k ms w9 (HS.out.2.2.1.below HB17.out) HS.out.2.2.2.2.2 HP.out.2.1 HMs.out (by omega)
                  clear hOb
                  go_wp2_with fail
                  refine hidS4.out.mono ?_
                  rintro e w10 ⟨rfl, hw10⟩
                  obtain rfl : w9 = w10 := hw10.symm
                  clear hw10
                  go_wp2_with fail
                  refine HCm.out.mono ?_
                  rintro e w10 ⟨rfl, hw10⟩
                  obtain rfl : w9 = w10 := hw10.symm
                  clear hw10 HCm hidS4
                  go_wp2
                  go_loopw [22, 23, 176] (fun rv cv iv wr => ∃ (t : Nat) (R C : Int), t ≤ nl ∧ iv = .int .i64 t ∧ rv = .int .i64 R ∧ cv = .int .i64 C ∧ Hid (R = sZ (rowT k ip iq) t) ∧ Hid (C = sZ (colT k im iq) t) ∧ Hid (Below w9.heap.size w9 wr)) (fun _ _ iv _ => nl - (intOf iv).toNat)
                  case atStart => exact ⟨0, 0, 0, Nat.zero_le _, rfl, rfl, rfl, rfl, rfl, Below.refl _ _⟩
                  case round =>
                    obtain ⟨t, R, C, ht, rfl, rfl, rfl, HR, HC, HBr⟩ := hrel
                    obtain ⟨wk, hwk⟩ : ∃ wk, wk = wr := ⟨_, rfl⟩
                    subst hwk
                    have HBk : Hid (Below w.heap.size w wk) := HB17.out.trans (HBr.out.mono HB17.out.size)
                    have HbR : Hid (∀ t, t ≤ 30 → (sZ (rowT k ip iq) t).natAbs ≤ 30 * (1000 * 1000 * 479001600)) := fun t ht => by
                      refine Nat.le_trans (sZ_abs (B := 1000 * 1000 * 479001600) t fun i hi => ?_) (Nat.mul_le_mul_right _ ht)
                      unfold rowT
                      refine mul_abs (mul_abs (look_bd (by omega) _ _) (look_bd (by omega) _ _)) ?_
                      by_cases hi2 : i < (genA k).length
                      · have hpt := genA_pt k (by omega)
                        rw [List.all_eq_true] at hpt
                        have h3 := hpt _ (getD_memX [] hi2)
                        simp only [Bool.and_eq_true, decide_eq_true_eq] at h3
                        have := (class_few (pt_of h3.1) h3.2 (by omega)).2.2.2
                        omega
                      · rw [show (genA k).getD i [] = [] by rw [List.getD, List.getElem?_eq_none (by omega)]; rfl]
                        have h5 : clN k [] = fcT k := by unfold clN; rw [show smA [] = 1 from rfl, Nat.div_one]
                        rw [h5]
                        have := fcT_le (n := k) (by omega)
                        omega
                    have HbC : Hid (∀ t, t ≤ 30 → (sZ (colT k im iq) t).natAbs ≤ 30 * (1000 * 1000)) := fun t ht => by
                      refine Nat.le_trans (sZ_abs (B := 1000 * 1000) t fun i hi => ?_) (Nat.mul_le_mul_right _ ht)
                      unfold colT
                      exact mul_abs (look_bd (by omega) _ _) (look_bd (by omega) _ _)
                    by_cases hlt : t < nl
                    · have hlt' : (t : Int) < (nl : Int) := by omega
                      have htl : t < (genA k).length := by rw [← HNl.out.1]; exact hlt
                      obtain ⟨b1, off1, ai, ci, e1, hb1, hc1, hS1, hcap⟩ := (HT.out.below HBr.out) t htl
                      subst e1
                      obtain ⟨x, HX⟩ : ∃ x, Hid (x = (genA k).getD t []) := ⟨_, rfl⟩
                      rw [← HX.out] at hc1 hS1 hcap
                      have HXm : Hid (x ∈ genA k) := by rw [HX.out]; exact getD_memX [] htl
                      have HXp : Hid (IsPt x ∧ szN x = k) := by
                        have hpt := genA_pt k (by omega)
                        rw [List.all_eq_true] at hpt
                        have h3 := hpt x HXm.out
                        simp only [Bool.and_eq_true, decide_eq_true_eq] at h3
                        exact ⟨pt_of h3.1, h3.2⟩
                      have HXi : Hid (ixP k x = t) := by rw [HX.out]; exact ixP_self k (by omega) t htl
                      obtain ⟨xl, HXl⟩ : ∃ xl, Hid (xl = x.length) := ⟨_, rfl⟩
                      rw [← HXl.out] at hc1 hcap
                      have HSx : Hid (Shows wk ai x) := hS1
                      obtain ⟨U, HU⟩ : ∃ U, Hid (U = look k ip t) := ⟨_, rfl⟩
                      obtain ⟨V, HVv⟩ : ∃ V, Hid (V = look k iq t) := ⟨_, rfl⟩
                      obtain ⟨I, HIv⟩ : ∃ I, Hid (I = look k t im) := ⟨_, rfl⟩
                      obtain ⟨J, HJv⟩ : ∃ J, Hid (J = look k t iq) := ⟨_, rfl⟩
                      obtain ⟨n, HNx⟩ : ∃ n, Hid (n = clN k x) := ⟨_, rfl⟩
                      have hUb : U.natAbs ≤ 1000 := by rw [HU.out]; exact look_bd (by omega) _ _
                      have hVb : V.natAbs ≤ 1000 := by rw [HVv.out]; exact look_bd (by omega) _ _
                      have hIb : I.natAbs ≤ 1000 := by rw [HIv.out]; exact look_bd (by omega) _ _
                      have hJb : J.natAbs ≤ 1000 := by rw [HJv.out]; exact look_bd (by omega) _ _
                      have hnb : n ≤ 479001600 := by rw [HNx.out]; exact (class_few HXp.out.1 HXp.out.2 (by omega)).2.2.2
                      have hUV := mul_abs hUb hVb
                      have hIJ := mul_abs hIb hJb
                      have hUVn : (U * V * (n : Int)).natAbs ≤ 1000 * 1000 * 479001600 := mul_abs hUV (by omega)
                      have hRb : R.natAbs ≤ 30 * (1000 * 1000 * 479001600) := by rw [HR.out]; exact HbR.out t (by omega)
                      have hCb : C.natAbs ≤ 30 * (1000 * 1000) := by rw [HC.out]; exact HbC.out t (by omega)
                      have q1 : IntKind.i64.wrap (U * V) = U * V := by rw [IntWalk.i64_left, IntWalk.wrap64_in]; omega
                      have q2 : IntKind.i64.wrap (U * V * (n : Int)) = U * V * (n : Int) := by rw [IntWalk.i64_left, IntWalk.wrap64_in]; omega
                      have q3 : IntKind.i64.wrap (R + U * V * (n : Int)) = R + U * V * (n : Int) := by rw [IntWalk.i64_left, IntWalk.wrap64_in]; omega
                      have q4 : IntKind.i64.wrap (I * J) = I * J := by rw [IntWalk.i64_left, IntWalk.wrap64_in]; omega
                      have q5 : IntKind.i64.wrap (C + I * J) = C + I * J := by rw [IntWalk.i64_left, IntWalk.wrap64_in]; omega
                      have HR2 : Hid (R + U * V * (n : Int) = sZ (rowT k ip iq) (t + 1)) := by
                        show _ = _
                        rw [sZ, ← HR.out]
                        unfold rowT
                        rw [← HU.out, ← HVv.out, ← HX.out, ← HNx.out]
                      have HC2 : Hid (C + I * J = sZ (colT k im iq) (t + 1)) := by
                        show _ = _
                        rw [sZ, ← HC.out]
                        unfold colT
                        rw [← HIv.out, ← HJv.out]
                      have HK1 : Hid (Calls Tryd.prog 4 #[.slice a0 n0 c0, .slice ai xl ci] wk fun e w' => e = .returned (.tuple #[.int .i64 U, .int .i64 0]) ∧ Hid (Below wk.heap.size wk w')) := by
                        have h := Character_ok a0 ai n0 xl c0 ci zs x wk (HS.out.1.below HBk.out) HS.out.2.2.2.1 HSx.out HXl.out hcap ⟨HP.out.2.2.1, of_pt HXp.out.1, by rw [HXp.out.2]; exact HN.out.symm, HP.out.2.2.2.2.2⟩
                        rw [chi_look x zs k (by omega) HZm.out HXm.out, HXi.out, ← Hip.out, ← HU.out] at h
                        exact h
                      have HK2 : Hid (∀ W, Below wk.heap.size wk W → Calls Tryd.prog 4 #[.slice a1 n1 c1, .slice ai xl ci] W fun e w' => e = .returned (.tuple #[.int .i64 V, .int .i64 0]) ∧ Hid (Below W.heap.size W w')) := fun W hW => by
                        have h := Character_ok a1 ai n1 xl c1 ci qs x W ((HS.out.2.1.below HBk.out).below hW) HS.out.2.2.2.2.1 (HSx.out.below hW) HXl.out hcap ⟨of_pt HQp.out.1, of_pt HXp.out.1, by rw [HXp.out.2]; exact HQp.out.2, by rw [HQp.out.2]; omega⟩
                        rw [chi_look x qs k (by omega) HQm.out HXm.out, HXi.out, ← Hiq.out, ← HVv.out] at h
                        exact h
                      have HK3 : Hid (∀ W, Below wk.heap.size wk W → Calls Tryd.prog 11 #[.slice ai xl ci] W fun e w' => e = .returned (.tuple #[.int .i64 (n : Int), .int .i64 0]) ∧ w' = W) := fun W hW => by
                        rw [HNx.out]; exact Class_ok ai xl ci k x W (HSx.out.below hW) HXl.out HXp.out.1 HXp.out.2 (by omega)
                      have HK4 : Hid (∀ W, Below wk.heap.size wk W → Calls Tryd.prog 4 #[.slice ai xl ci, .slice a2 n2 c2] W fun e w' => e = .returned (.tuple #[.int .i64 I, .int .i64 0]) ∧ Hid (Below W.heap.size W w')) := fun W hW => by
                        have h := Character_ok ai a2 xl n2 ci c2 x ms W (HSx.out.below hW) HXl.out ((HS.out.2.2.1.below HBk.out).below hW) HS.out.2.2.2.2.2 hcp2 ⟨of_pt HXp.out.1, HP.out.2.2.2.1, by rw [HXp.out.2, HMs.out], by rw [HXp.out.2]; omega⟩
                        rw [chi_look ms x k (by omega) HXm.out HMm.out, HXi.out, ← Him.out, ← HIv.out] at h
                        exact h
                      have HK5 : Hid (∀ W, Below wk.heap.size wk W → Calls Tryd.prog 4 #[.slice ai xl ci, .slice a1 n1 c1] W fun e w' => e = .returned (.tuple #[.int .i64 J, .int .i64 0]) ∧ Hid (Below W.heap.size W w')) := fun W hW => by
                        have h := Character_ok ai a1 xl n1 ci c1 x qs W (HSx.out.below hW) HXl.out ((HS.out.2.1.below HBk.out).below hW) HS.out.2.2.2.2.1 hc1' ⟨of_pt HXp.out.1, of_pt HQp.out.1, by rw [HXp.out.2, HQp.out.2], by rw [HXp.out.2]; omega⟩
                        rw [chi_look qs x k (by omega) HXm.out HQm.out, HXi.out, ← Hiq.out, ← HJv.out] at h
                        exact h
                      clear hUV hIJ hUVn hRb hCb hUb hVb hIb hJb hS1 HbR HbC
                      go_wp2_with fail
                      refine HK1.out.mono ?_
                      rintro e wa ⟨rfl, HBa⟩
                      have k2 := hid_w (HK2.out wa HBa.out)
                      clear HK1 HK2
                      go_wp2_with fail
                      refine k2.out.mono ?_
                      rintro e wb ⟨rfl, HBb⟩
                      have HBb2 : Hid (Below wk.heap.size wk wb) := HBa.out.trans (HBb.out.mono HBa.out.size)
                      have k3 := hid_w (HK3.out wb HBb2.out)
                      clear k2 HK3 HBa HBb
                      go_wp2_with fail
                      refine k3.out.mono ?_
                      rintro e wb' ⟨rfl, hwb⟩
                      obtain rfl : wb = wb' := hwb.symm
                      clear hwb k3
                      have k4 := hid_w (HK4.out wb HBb2.out)
                      clear HK4
                      go_wp2_with fail
                      refine k4.out.mono ?_
                      rintro e wd ⟨rfl, HBd⟩
                      have HBd2 : Hid (Below wk.heap.size wk wd) := HBb2.out.trans (HBd.out.mono HBb2.out.size)
                      have k5 := hid_w (HK5.out wd HBd2.out)
                      clear k4 HK5 HBd HBb2
                      go_wp2_with fail
                      refine k5.out.mono ?_
                      rintro e we ⟨rfl, HBe⟩
                      have HBe2 : Hid (Below w9.heap.size w9 we) := HBr.out.trans ((HBd2.out.mono HBr.out.size).trans (HBe.out.mono (Nat.le_trans HBr.out.size HBd2.out.size)))
                      clear k5 HBe HBd2
                      go_wp2
                      first
                      | exact ⟨⟨t + 1, _, _, by omega, by go_num, rfl, rfl, HR2, HC2, HBe2⟩, by simp [intOf]; omega⟩
                      | (refine ⟨?_, by simp [intOf]; omega⟩
                         repeat apply Exists.intro
                         refine ⟨?_, rfl⟩
                         exact ⟨t + 1, _, _, by omega, by go_num, rfl, rfl, HR2, HC2, HBe2⟩)
                    · obtain rfl : t = nl := by omega
                      have hlt' : ¬ ((t : Int) < (t : Int)) := by omega
                      have HRf : Hid (R = if zs = qs then (F : Int) else 0) := by
                        show _ = _
                        rw [HR.out, HNl.out.1, Hip.out, Hiq.out, rows_up (by omega) HZm.out HQm.out, ← HFk.out]
                      have HCf : Hid (C = if ms = qs then ((F / O : Nat) : Int) else 0) := by
                        show _ = _
                        rw [HC.out, HNl.out.1, Him.out, Hiq.out, cols_up (by omega) HMm.out HQm.out, ← HFk.out, ← HO.out]
                      have HF1 : Hid (1 ≤ F) := by show _ ≤ _; rw [HFk.out]; exact fcT_pos k
                      have HSa : Hid (∀ W, Below w9.heap.size w9 W → Calls Tryd.prog 12 #[.slice a0 n0 c0, .slice a1 n1 c1] W fun e w' => e = .returned (.bool (decide (zs = qs))) ∧ Hid (Below W.heap.size W w')) := fun W hW => by
                        have hWw := HB17.out.trans (hW.mono HB17.out.size)
                        refine (Same_at a0 a1 n0 n1 c0 c1 zs qs W (HS.out.1.below hWw) (HS.out.2.1.below hWw) HS.out.2.2.2.1 HS.out.2.2.2.2.1 _ rfl).mono ?_
                        rintro e w' ⟨rfl, d, rfl⟩
                        exact ⟨rfl, below_drewN (Below.refl _ _) d⟩
                      have HSm : Hid (∀ W, Below w9.heap.size w9 W → Calls Tryd.prog 12 #[.slice a2 n2 c2, .slice a1 n1 c1] W fun e w' => e = .returned (.bool (decide (ms = qs))) ∧ Hid (Below W.heap.size W w')) := fun W hW => by
                        have hWw := HB17.out.trans (hW.mono HB17.out.size)
                        refine (Same_at a2 a1 n2 n1 c2 c1 ms qs W (HS.out.2.2.1.below hWw) (HS.out.2.1.below hWw) HS.out.2.2.2.2.2 HS.out.2.2.2.2.1 _ rfl).mono ?_
                        rintro e w' ⟨rfl, d, rfl⟩
                        exact ⟨rfl, below_drewN (Below.refl _ _) d⟩
                      have hO0b : ¬ (O : Int) = 0 := by omega
                      have hO0c : ((O : Int) == 0) = false := beq_false_of_ne hO0b
                      have hO1 : (O : Int) > 0 := by omega
                      obtain ⟨Qn, HQn⟩ : ∃ Qn, Hid (Qn = F / O) := ⟨_, rfl⟩
                      have hQb : Qn ≤ 3628800 := by rw [HQn.out]; exact Nat.le_trans (Nat.div_le_self F O) hFb
                      have hq1 : IntKind.i64.wrap (Int.tdiv (F : Int) (O : Int)) = (Qn : Int) := by
                        have e : Int.tdiv (F : Int) (O : Int) = ((F / O : Nat) : Int) := by rw [Int.tdiv_eq_ediv_of_nonneg (by omega)]; simp
                        rw [e, ← HQn.out, IntWalk.i64_left, IntWalk.wrap64_in]; omega
                      have hq2 : IntKind.i64.wrap ((F : Int) / (O : Int)) = (Qn : Int) := by
                        have e : (F : Int) / (O : Int) = ((F / O : Nat) : Int) := by simp
                        rw [e, ← HQn.out, IntWalk.i64_left, IntWalk.wrap64_in]; omega
                      have hq3 := hq2
                      rw [IntWalk.i64_left] at hq3
                      rw [← HQn.out] at HCf
                      have HM0 := hid_w (HSa.out wk HBr.out)
                      clear HR HC
                      by_cases hzq : zs = qs
                      · have hR : R = (F : Int) := by rw [HRf.out, if_pos hzq]
                        subst hR
                        have hdz : decide (zs = qs) = true := decide_eq_true hzq
                        rw [hdz] at HM0
                        have HSb : Hid (∀ W, Below w9.heap.size w9 W → Calls Tryd.prog 12 #[.slice a0 n0 c0, .slice a1 n1 c1] W fun e w' => e = .returned (.bool true) ∧ Hid (Below W.heap.size W w')) := fun W hW => by
                          have := HSa.out W hW
                          rw [hdz] at this; exact this
                        clear hdz hzq HSa
                        go_wp2_with fail
                        refine HM0.out.mono ?_
                        rintro e wa ⟨rfl, HBa⟩
                        have HBa2 : Hid (Below w9.heap.size w9 wa) := HBr.out.trans (HBa.out.mono HBr.out.size)
                        have k2 := hid_w (HSb.out wa HBa2.out)
                        clear HM0 HBa HSb
                        go_wp2_with fail
                        refine k2.out.mono ?_
                        rintro e wb ⟨rfl, HBb⟩
                        have HBb2 : Hid (Below w9.heap.size w9 wb) := HBa2.out.trans (HBb.out.mono HBa2.out.size)
                        have k3 := hid_w (HSm.out wb HBb2.out)
                        clear k2 HBb HBa2
                        by_cases hmq : ms = qs
                        · have hC : C = (Qn : Int) := by rw [HCf.out, if_pos hmq]
                          subst hC
                          rw [decide_eq_true hmq] at k3
                          clear hmq
                          go_wp2_with fail
                          refine k3.out.mono ?_
                          rintro e wd ⟨rfl, HBd⟩
                          have HBf : Hid (Below w.heap.size w wd) := HB17.out.trans ((HBb2.out.mono HB17.out.size).trans (HBd.out.mono (Nat.le_trans HB17.out.size HBb2.out.size)))
                          clear k3
                          go_wp2
                          go_ret
                          exact ⟨by first | rfl | simp [hq3], HBf.out⟩
                        · have hC : C = 0 := by rw [HCf.out, if_neg hmq]
                          subst hC
                          rw [decide_eq_false hmq] at k3
                          clear hmq
                          go_wp2_with fail
                          refine k3.out.mono ?_
                          rintro e wd ⟨rfl, HBd⟩
                          have HBf : Hid (Below w.heap.size w wd) := HB17.out.trans ((HBb2.out.mono HB17.out.size).trans (HBd.out.mono (Nat.le_trans HB17.out.size HBb2.out.size)))
                          clear k3
                          go_wp2
                          go_ret
                          exact ⟨rfl, HBf.out⟩
                      · have hR : R = 0 := by rw [HRf.out, if_neg hzq]
                        subst hR
                        have hdz : decide (zs = qs) = false := decide_eq_false hzq
                        rw [hdz] at HM0
                        have HSb : Hid (∀ W, Below w9.heap.size w9 W → Calls Tryd.prog 12 #[.slice a0 n0 c0, .slice a1 n1 c1] W fun e w' => e = .returned (.bool false) ∧ Hid (Below W.heap.size W w')) := fun W hW => by
                          have := HSa.out W hW
                          rw [hdz] at this; exact this
                        have hF0 : ((0 : Int) == (F : Int)) = false := by rw [beq_eq_false_iff_ne]; have := HF1.out; omega
                        clear hdz hzq HSa
                        go_wp2_with fail
                        refine HM0.out.mono ?_
                        rintro e wa ⟨rfl, HBa⟩
                        have HBa2 : Hid (Below w9.heap.size w9 wa) := HBr.out.trans (HBa.out.mono HBr.out.size)
                        have k2 := hid_w (HSb.out wa HBa2.out)
                        clear HM0 HBa HSb
                        go_wp2_with fail
                        refine k2.out.mono ?_
                        rintro e wb ⟨rfl, HBb⟩
                        have HBb2 : Hid (Below w9.heap.size w9 wb) := HBa2.out.trans (HBb.out.mono HBa2.out.size)
                        have k3 := hid_w (HSm.out wb HBb2.out)
                        clear k2 HBb HBa2
                        by_cases hmq : ms = qs
                        · have hC : C = (Qn : Int) := by rw [HCf.out, if_pos hmq]
                          subst hC
                          rw [decide_eq_true hmq] at k3
                          clear hmq
                          go_wp2_with fail
                          refine k3.out.mono ?_
                          rintro e wd ⟨rfl, HBd⟩
                          have HBf : Hid (Below w.heap.size w wd) := HB17.out.trans ((HBb2.out.mono HB17.out.size).trans (HBd.out.mono (Nat.le_trans HB17.out.size HBb2.out.size)))
                          clear k3
                          go_wp2
                          go_ret
                          exact ⟨by first | rfl | simp [hq3], HBf.out⟩
                        · have hC : C = 0 := by rw [HCf.out, if_neg hmq]
                          subst hC
                          rw [decide_eq_false hmq] at k3
                          clear hmq
                          go_wp2_with fail
                          refine k3.out.mono ?_
                          rintro e wd ⟨rfl, HBd⟩
                          have HBf : Hid (Below w.heap.size w wd) := HB17.out.trans ((HBb2.out.mono HB17.out.size).trans (HBd.out.mono (Nat.le_trans HB17.out.size HBb2.out.size)))
                          clear k3
                          go_wp2
                          go_ret
                          exact ⟨rfl, HBf.out⟩
            · have h9' : (k : Int) > 9 := by omega
              clear h9
              go_wp2_with fail
              refine HPc.out.mono ?_
              rintro e w9 ⟨rfl, hw9⟩
              obtain rfl : w8 = w9 := hw9.symm
              clear hw9
              go_wp2_with fail
              refine hidS3.out.mono ?_
              rintro e w9 ⟨rfl, hw9⟩
              obtain rfl : w8 = w9 := hw9.symm
              clear hw9
              go_wp2
              go_ret
              exact ⟨rfl, HB15.out⟩
          · have hpqb : (pq != 0) = true := by simp [hpq]
            clear hpq
            go_wp2_with fail
            refine HPc.out.mono ?_
            rintro e w9 ⟨rfl, hw9⟩
            obtain rfl : w8 = w9 := hw9.symm
            clear hw9
            go_wp2
            go_ret
            exact ⟨rfl, HB15.out⟩
        · have hvb : ((k : Int) != v) = true := by simp [hv]
          clear hv
          go_wp2
          go_ret
          exact ⟨rfl, HB15.out⟩

theorem up_at (a0 a1 a2 : Option Addr) (c0 c1 c2 : Nat) (zs qs ms : List Int) (w : World) (hs0 : Shows w a0 zs) (hs1 : Shows w a1 qs) (hs2 : Shows w a2 ms) (hc1 : qs.length ≤ c1) (hc2 : ms.length ≤ c2)
    (htab : Lib.TabIs Tryd.prog w "internal/strconv.uint64pow10" .u64 Lib.pow10Tab) :
    Calls Tryd.prog 3 #[.slice a0 zs.length c0, .slice a1 qs.length c1, .slice a2 ms.length c2] w fun e w' => e = .returned (.bool true) ∧ Below w.heap.size w w' := by
  by_cases hg : Good zs ms
  · exact up_ok a0 a1 a2 _ _ _ c0 c1 c2 zs qs ms w hs0 hs1 hs2 rfl rfl rfl hc1 hc2 hg htab
  · exact up_err a0 a1 a2 _ _ _ c0 c1 c2 w (up_first w) (fun W hW => Character_no a0 a2 _ _ c0 c2 zs ms W (hs0.below hW) rfl (hs2.below hW) rfl hg)

end Go.Proofs.YtmbpcapjldbkbaaDoor
