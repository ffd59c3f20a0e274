/-
  The law ferkeep.ParkingPollak.
-/
import Derived.Test.YtlghldfolfmoeaaZPlm
import Derived.Test.YtlghldfolfmoeaaZSrt
namespace Go.Proofs.Ytlghldfolfmoeaa
open Go.RowKit

theorem free_two : Free (lk [2, 2]) 0 := ⟨by decide, by decide⟩
theorem trnL_step {zs : List Int} {s j : Nat} (hj : j < zs.length) : (trnL zs s).take (j + 1) = (trnL zs s).take j ++ [((((zs.getD j 0 - 1).toNat + s) % (zs.length + 1) : Nat) : Int) + 1] := by
  rw [take_snoc _ _ (by rw [trnL_length]; exact hj)]
  congr 2
  simp [trnL, lk, List.getD, List.getElem?_eq_getElem hj]
theorem trnL_all (zs : List Int) (s : Nat) : (trnL zs s).take zs.length = trnL zs s := List.take_of_length_le (by rw [trnL_length]; exact Nat.le_refl _)
theorem Owns.ne_of {w : World} {lo g n cap : Nat} {zs : List Int} (h : Owns w lo (.slice (some ⟨g, 0, none⟩) n cap) zs) : lo ≤ g ∧ g < w.heap.size := h.lt rfl
theorem Owns.grownKept {w w' : World} {lo g k n cap : Nat} {zs : List Int} (h : Owns w lo (.slice (some ⟨g, 0, none⟩) n cap) zs) (hg : w.grownBy w' (some k)) (hne : g ≠ k) : Owns w' lo (.slice (some ⟨g, 0, none⟩) n cap) zs :=
  World.ownsRow.kept h hg (Or.inr (fun e => hne (by simpa [Value.ownBlock] using e)))

set_option maxHeartbeats 8000000 in
set_option maxRecDepth 100000 in
theorem ppol_at (a b : Option Addr) (n m ca cb : Nat) (zs ys : List Int) (w : World) (hs : Shows w a zs) (ht : Shows w b ys) (hn : n = zs.length) (hm : m = ys.length) :
    Calls Try.prog 4 #[.slice a n ca, .slice b m cb] w fun e w' => e = .returned (.bool true) ∧ Below w.heap.size w w' := by
  have HS : Hid (Shows w a zs) := hs
  have HT : Hid (Shows w b ys) := ht
  have HN : Hid (n = zs.length) := hn
  have HM : Hid (m = ys.length) := hm
  have hnb : n ≤ 17592186044416 := by have := hs.len; omega
  have hmb : m ≤ 17592186044416 := by have := ht.len; omega
  clear hs ht hn hm
  have HL0 := Lucky_ok (some ⟨w.heap.size, 0, none⟩) 2 2 0 [2, 2] (w.alloc (.cells #[.int .i64 2, .int .i64 2] 3)) (shows_lit w [2, 2] _ rfl (by decide) (by decide)) rfl (by decide) free_two
  go_enter Try.func4, Try.ntmps4
  go_wp2_with fail
  refine HL0.mono ?_
  rintro e w1 ⟨rfl, HBa⟩
  have HB1 : Hid (Below w.heap.size w w1) := ((Below.refl w.heap.size w).alloc (Nat.le_refl _) _).trans (HBa.out.mono (by simp))
  clear HBa HL0
  obtain ⟨c, hc⟩ : ∃ c, plC zs ((zs.length : Int) + 1) = c := ⟨_, rfl⟩
  by_cases h0 : c = 0
  · subst h0
    obtain ⟨h20, hz⟩ := plC_ok.1 hc
    obtain ⟨f, hf⟩ := free_ex (lk zs)
    have HL1 := Lucky_ok a n ca f zs w1 (HS.out.below HB1.out) HN.out hc hf
    have HF : Hid (Free (lk zs) f) := hf
    have HZ : Hid (∀ z ∈ zs, 1 ≤ z ∧ z ≤ (zs.length : Int) + 1) := hz
    have hfl : f ≤ n := by have := hf.1; rw [lk_length, ← HN.out] at this; omega
    have hn20 : n ≤ 20 := by rw [HN.out]; exact h20
    clear hc hf hz h20
    obtain ⟨K, HK⟩ : ∃ K, Hid (K = n - f) := ⟨_, rfl⟩
    have hK20 : K ≤ 20 := by rw [HK.out]; omega
    rw [← HK.out] at HL1
    go_wp2_with fail
    refine HL1.mono ?_
    rintro e w2 ⟨rfl, HBb⟩
    have HB2 : Hid (Below w.heap.size w w2) := HB1.out.trans (HBb.out.mono HB1.out.size)
    clear HBb HB1 HL1
    go_wp2
    go_loopw [9] (fun q wr => ∃ s : Nat, s ≤ n + 1 ∧ q = .int .i64 s ∧ Hid (Below w.heap.size w wr)) (fun q _ => n + 1 - (intOf q).toNat)
    case atStart => exact ⟨0, Nat.zero_le _, rfl, HB2⟩
    case round =>
      clear HB2
      obtain ⟨s, hs, rfl, HB⟩ := hrel
      by_cases hsn : s ≤ n
      · have hsn' : (s : Int) ≤ (n : Int) := by omega
        obtain ⟨L, HL⟩ : ∃ L, Hid (L = trnL zs s) := ⟨_, rfl⟩
        have HLl : Hid (L.length = n) := by show _ = _; rw [HL.out, trnL_length, HN.out]
        obtain ⟨wo, HWo⟩ : ∃ wo, Hid (wo = wr) := ⟨_, rfl⟩
        rw [← HWo.out] at HB
        go_wp2
        go_loopw [10, 49] (fun v q wq => ∃ j : Nat, j ≤ n ∧ q = .int .i64 j ∧ Hid (Owns wq wo.heap.size v (L.take j)) ∧ Hid (Below wo.heap.size wo wq)) (fun _ q _ => n - (intOf q).toNat)
        case atStart => exact ⟨0, Nat.zero_le _, rfl, ⟨by simp, Or.inl ⟨rfl, rfl⟩⟩, by rw [HWo.out]; exact Below.refl _ _⟩
        case round =>
          obtain ⟨j, hj, rfl, HO, HBq⟩ := hrel
          by_cases hjn : j < n
          · have hjn' : (j : Int) < (n : Int) := by omega
            have HBw : Hid (Below w.heap.size w wr) := HB.out.trans (HBq.out.mono HB.out.size)
            obtain ⟨b1, off, z, rfl, HZj, -, -, hc⟩ := (HS.out.below HBw.out).elem (k := j) (by rw [← HN.out]; exact hjn)
            have hz := HZ.out z (by rw [HZj.out]; exact getD_mem (by rw [← HN.out]; exact hjn))
            rw [← HN.out] at hz
            obtain ⟨p, rfl⟩ : ∃ p : Nat, z = (p : Int) + 1 := ⟨(z - 1).toNat, by omega⟩
            have hp : p ≤ 21 := by omega
            obtain ⟨x, HX⟩ : ∃ x : Nat, Hid (x = (p + s) % (n + 1)) := ⟨_, rfl⟩
            have hx : x < n + 1 := by rw [HX.out]; exact Nat.mod_lt _ (by omega)
            have hr : Int.tmod ((p : Int) + (s : Int)) ((n : Int) + 1) = (x : Int) := by rw [HX.out]; exact (Int.ofNat_tmod (p + s) (n + 1)).symm
            have HLj : Hid (L.take (j + 1) = L.take j ++ [(x : Int) + 1]) := by
              show _ = _
              rw [HL.out, trnL_step (by rw [← HN.out]; exact hjn), ← HZj.out, ← HN.out, HX.out, show ((p : Int) + 1 - 1).toNat = p by omega]
            have HLk : (L.take j).length ≤ 20 := by rw [List.length_take]; omega
            clear hz
            go_wp2_with (at_builtin; refine append_int_at (N := wr.heap.size) (x := (x : Int) + 1) rfl _ _ rfl rfl rfl rfl HO.out ?c1 ?c2 ?_)
            case c1 => omega
            case c2 => exact HBq.out.size
            intro v' w3 hO3 hb3 _
            have HO4 : Hid (Owns w3 wo.heap.size v' (L.take (j + 1))) := by rw [HLj.out]; exact hO3
            have HB3 : Hid (Below wo.heap.size wo w3) := HBq.out.trans hb3
            clear hO3 hb3 HLk
            go_wp2
            go_roundw
            case rel => exact ⟨j + 1, by omega, by go_num, HO4, HB3⟩
            case measure => simp [intOf]; omega
          · obtain rfl : j = n := by omega
            have HO0 : Hid (Owns wr wo.heap.size u10 L) := by
              have h1 := HO.out
              rw [List.take_of_length_le (by rw [HLl.out]; exact Nat.le_refl _)] at h1; exact h1
            have HBw : Hid (Below w.heap.size w wr) := HB.out.trans (HBq.out.mono HB.out.size)
            have hwid : ∀ z ∈ L, -9223372036854775808 ≤ z ∧ z ≤ 9223372036854775807 := fun z hz => by
              rw [HL.out] at hz
              have := trnL_bd zs s z hz
              rw [← HN.out] at this; omega
            obtain ⟨am, cm, hv, hsm⟩ := HO0.out.shows (by rw [HLl.out]; exact hnb) hwid
            rw [HLl.out] at hv
            subst hv
            have HSm : Hid (Shows wr am L) := hsm
            have HW : Hid (∀ z ∈ L, -9223372036854775808 ≤ z ∧ z ≤ 9223372036854775807) := hwid
            clear hsm hwid HO HBq hjn hj
            by_cases hsk : s = K
            · have HPk : Hid (plC L L.length = 0 ∧ Free (lk L) L.length) := by
                rw [HL.out]; exact trn_yes (by rw [← HN.out]; exact hn20) HF.out (by rw [hsk, HK.out, HN.out])
              have hskb : ((s : Int) == (K : Int)) = true := by rw [hsk]; simp
              have HA := Park_ok am j cm L wr HSm.out HLl.out.symm HPk.out.1 HPk.out.2
              clear hsk
              go_wp2_with fail
              refine HA.mono ?_
              rintro e w3 ⟨ga, rfl, HOa, HBa⟩
              clear HA
              have HB3 : Hid (Below w.heap.size w w3) := HBw.out.trans (HBa.out.mono HBw.out.size)
              obtain ⟨B, HBs⟩ : ∃ B, Hid (B = wr.heap.size) := ⟨_, rfl⟩
              obtain ⟨lo, HLo⟩ : ∃ lo, Hid (lo = wo.heap.size) := ⟨_, rfl⟩
              rw [← HBs.out] at HOa
              have HOm : Hid (Owns w3 lo (.slice am j cm) L) := by rw [HLo.out]; exact HO0.out.below HBa.out
              have HBlo : Hid (w.heap.size ≤ lo) := by rw [HLo.out]; exact HB.out.size
              have HBB : Hid (w.heap.size ≤ B) := by rw [HBs.out]; exact HBw.out.size
              have HAm : Hid (∀ g, am = some ⟨g, 0, none⟩ → g < B) := fun g e => by
                subst e; rw [HBs.out]; exact HO0.out.ne_of.2
              clear HO0 HBa HBs HLo HWo HB HSm HBw
              go_wp2
              go_loopw [81] (fun q wq => ∃ i : Nat, i ≤ m ∧ q = .int .i64 i ∧ ∃ M, Hid (L.Perm M) ∧ Hid (Owns wq lo (.slice am j cm) M) ∧ Hid (Owns wq B (.slice (some ⟨ga, 0, none⟩) j j) (plcs (L.length + 1) (lk L))) ∧ Hid (Below w.heap.size w wq)) (fun q _ => m - (intOf q).toNat)
              case atStart => exact ⟨0, Nat.zero_le _, rfl, L, List.Perm.refl _, HOm, HOa, HB3⟩
              case round =>
                clear HOm HOa HB3
                obtain ⟨i, hi, rfl, M, HPm, HOm, HOa, HB3⟩ := hrel
                have HMl : Hid (M.length = j) := by show _ = _; rw [← HPm.out.length_eq]; exact HLl.out
                by_cases him : i < m
                · have him' : (i : Int) < (m : Int) := by omega
                  obtain ⟨b2, off2, x, rfl, HXi, hx1, hx2, hc2⟩ := (HT.out.below HB3.out).elem (k := i) (by rw [← HM.out]; exact him)
                  by_cases hj0 : j = 0
                  · have hjb : decide ((j : Int) > 0) = false := by rw [hj0]; rfl
                    have hjb2 : decide (0 < j) = false := by rw [hj0]; rfl
                    clear hj0
                    go_wp2
                    go_roundw
                    case rel => exact ⟨i + 1, by omega, by go_num, M, HPm, HOm, HOa, HB3⟩
                    case measure => simp [intOf]; omega
                  · have hjp : 0 < j := by omega
                    obtain ⟨c, HC⟩ : ∃ c, Hid (pickN x j = c) := ⟨_, rfl⟩
                    have hcj : c < j := by rw [← HC.out]; exact pickN_lt x hjp
                    have HPi : Hid (∀ W, Calls Try.prog 21 #[.int .i64 x, .int .i64 j] W fun e w' => e = .returned (.int .i64 c) ∧ w' = W) := fun W => Pick_z x j c W ⟨hx1, hx2⟩ hjp (by omega) HC.out
                    obtain ⟨d, HD⟩ : ∃ d : Nat, Hid (d = i % j) := ⟨_, rfl⟩
                    have hdj : d < j := by rw [HD.out]; exact Nat.mod_lt _ hjp
                    have hr : Int.tmod (i : Int) (j : Int) = (d : Int) := by rw [HD.out]; exact (Int.ofNat_tmod i j).symm
                    have hj0' : (j : Int) ≠ 0 := by omega
                    have hjp' : (0 : Int) < (j : Int) := by omega
                    clear hj0
                    go_wp2_with fail
                    go_quiet ((go_at_call 21; exact Calls.quiet_of_same (HPi.out _)))
                    obtain ⟨gm, cap9, hv9, -, -, -, -⟩ := HOm.out.head (by rw [HMl.out]; exact hjp)
                    simp only [Value.slice.injEq] at hv9
                    obtain ⟨rfl, -, -⟩ := hv9
                    clear cap9
                    obtain ⟨wt, HWt⟩ : ∃ wt, Hid (wt = wr.drewN nq) := ⟨_, rfl⟩
                    rw [← HWt.out]
                    have HOt : Hid (Owns wt lo (.slice (some ⟨gm, 0, none⟩) j cm) M) := by rw [HWt.out]; exact HOm.out.below (below_drewN (Below.refl _ _) nq)
                    have HOat : Hid (Owns wt B (.slice (some ⟨ga, 0, none⟩) j j) (plcs (L.length + 1) (lk L))) := by rw [HWt.out]; exact HOa.out.below (below_drewN (Below.refl _ _) nq)
                    have HBt : Hid (Below w.heap.size w wt) := by rw [HWt.out]; exact below_drewN HB3.out nq
                    have HGm : Hid (gm < B) := HAm.out gm rfl
                    have HGlo : Hid (lo ≤ gm) := HOt.out.ne_of.1
                    have HGa : Hid (B ≤ ga) := HOat.out.ne_of.1
                    clear HOm HOa HB3 HWt hc2
                    obtain ⟨-, hfr, hce⟩ := HOt.out.at HMl.out.symm
                    have f1 := hfr d
                    have c1 := hce d (by rw [HMl.out]; exact hdj)
                    have f2 := hfr c
                    have c2 := hce c (by rw [HMl.out]; exact hcj)
                    obtain ⟨X, HX⟩ : ∃ X, Hid (X = M.getD d 0) := ⟨_, rfl⟩
                    obtain ⟨Y, HY⟩ : ∃ Y, Hid (Y = M.getD c 0) := ⟨_, rfl⟩
                    rw [← HX.out] at c1
                    rw [← HY.out] at c2
                    have hdj' : (d : Int) < (j : Int) := by omega
                    have hcj' : (c : Int) < (j : Int) := by omega
                    have HP2 : Hid (L.Perm (swp M d c)) := HPm.out.trans (swp_perm (by rw [HMl.out]; exact hdj) (by rw [HMl.out]; exact hcj))
                    have HO2 : Hid (Owns ((wt.setCell ⟨gm, d, none⟩ (.int .i64 Y)).setCell ⟨gm, c, none⟩ (.int .i64 X)).drew lo (.slice (some ⟨gm, 0, none⟩) j cm) (swp M d c)) := by
                      have h1 := (HOt.out.store HMl.out.symm d Y).store (by rw [List.length_set]; exact HMl.out.symm) c X
                      rw [HX.out, HY.out] at h1 ⊢
                      exact h1.below (below_drewN (Below.refl _ _) 1)
                    have HA2 : Hid (Owns ((wt.setCell ⟨gm, d, none⟩ (.int .i64 Y)).setCell ⟨gm, c, none⟩ (.int .i64 X)).drew B (.slice (some ⟨ga, 0, none⟩) j j) (plcs (L.length + 1) (lk L))) := by
                      have hne : gm ≠ ga := by have h1 := HGm.out; have h2 := HGa.out; omega
                      exact ((HOat.out.other (p := ⟨gm, d, none⟩) (x := .int .i64 Y) hne).other (p := ⟨gm, c, none⟩) (x := .int .i64 X) hne).below (below_drewN (Below.refl _ _) 1)
                    have HB2 : Hid (Below w.heap.size w ((wt.setCell ⟨gm, d, none⟩ (.int .i64 Y)).setCell ⟨gm, c, none⟩ (.int .i64 X)).drew) := by
                      have h1 := Nat.le_trans HBlo.out HGlo.out
                      exact below_drewN ((HBt.out.setCell (p := ⟨gm, d, none⟩) h1 _).setCell (p := ⟨gm, c, none⟩) h1 _) 1
                    clear hfr hce HOt HOat HBt HPi
                    by_cases hdc : d = c
                    · subst hdc
                      obtain rfl : X = Y := by rw [HX.out, HY.out]
                      clear c2 f2
                      go_wp2_with fail
                      go_region
                      go_wp2
                      go_roundw
                      case rel => exact ⟨i + 1, by omega, by go_num, swp M d d, HP2, HO2, HA2, HB2⟩
                      case measure => simp [intOf]; omega
                    · have hne : ¬ d = c := hdc
                      have hne' : ¬ c = d := fun e => hdc e.symm
                      clear hdc
                      go_wp2_with fail
                      go_region
                      go_wp2
                      go_roundw
                      case rel => exact ⟨i + 1, by omega, by go_num, swp M d c, HP2, HO2, HA2, HB2⟩
                      case measure => simp [intOf]; omega
                · obtain rfl : i = m := by omega
                  have hPk := park_perm HPm.out HPk.out
                  have HPM : Hid (plC M M.length = 0 ∧ Free (lk M) M.length) := hPk
                  obtain ⟨am2, cm2, hv2, hsm2⟩ := HOm.out.shows (by rw [HMl.out]; exact hnb) (fun z hz => HW.out z (HPm.out.mem_iff.2 hz))
                  rw [HMl.out] at hv2
                  simp only [Value.slice.injEq, true_and] at hv2
                  obtain ⟨rfl, rfl⟩ := hv2
                  have HA := Park_ok am j cm M wr hsm2 HMl.out.symm hPk.1 hPk.2
                  clear hPk hsm2
                  go_wp2_with fail
                  refine HA.mono ?_
                  rintro e w4 ⟨gb, rfl, HOb, HBb⟩
                  clear HA
                  have HB4 : Hid (Below w.heap.size w w4) := HB3.out.trans (HBb.out.mono HB3.out.size)
                  have HOa4 : Hid (Owns w4 B (.slice (some ⟨ga, 0, none⟩) j j) (plcs (L.length + 1) (lk L))) := HOa.out.below HBb.out
                  have HNe : Hid (gb ≠ ga) := by
                    have h1 := HOa.out.ne_of.2
                    have h2 := HOb.out.ne_of.1
                    show gb ≠ ga
                    omega
                  have HS1 := SortI_at ga j j B _ w4 HOa4.out (by rw [plcs_length, lk_length, HLl.out]) (by omega)
                  clear HBb HOa
                  go_wp2_with fail
                  refine HS1.mono ?_
                  rintro e w5 ⟨rfl, HOa5, HG5⟩
                  clear HS1
                  have HGa : Hid (B ≤ ga) := HOa4.out.ne_of.1
                  have HB5 : Hid (Below w.heap.size w w5) := HB4.out.grown HG5.out (HB4.out.size) (fun k e => by cases e; exact Nat.le_trans HBB.out HGa.out)
                  have HOb5 := HOb.out.grownKept HG5.out HNe.out
                  have HGb : Hid (w.heap.size ≤ gb) := Nat.le_trans HB3.out.size HOb.out.ne_of.1
                  have HS2 := SortI_at gb j j _ _ w5 HOb5 (by rw [plcs_length, lk_length, HMl.out]) (by omega)
                  clear HOa4 HOb HOb5
                  go_wp2_with fail
                  refine HS2.mono ?_
                  rintro e w6 ⟨rfl, HOb6, HG6⟩
                  clear HS2
                  have HB6 : Hid (Below w.heap.size w w6) := HB5.out.grown HG6.out (HB5.out.size) (fun k e => by cases e; exact HGb.out)
                  have HOa6 := HOa5.out.grownKept HG6.out (fun e => HNe.out e.symm)
                  have hsame : (plcs (L.length + 1) (lk L)).mergeSort (fun x y => decide (x ≤ y)) = (plcs (M.length + 1) (lk M)).mergeSort (fun x y => decide (x ≤ y)) := places_same HPm.out HPk.out
                  have HSa : Hid (Shows w6 (some ⟨ga, 0, none⟩) ((plcs (L.length + 1) (lk L)).mergeSort fun x y => decide (x ≤ y))) := by
                    obtain ⟨a9, c9, hv9, hs9⟩ := HOa6.shows (by simp [plcs_length, lk_length]; rw [HLl.out]; omega) (fun z hz => plcs_wide (by rw [HLl.out]; exact hn20) HPk.out.2 z ((List.mergeSort_perm _ _).mem_iff.1 hz))
                    simp only [Value.slice.injEq] at hv9
                    rw [hv9.1]; exact hs9
                  have HSb : Hid (Shows w6 (some ⟨gb, 0, none⟩) ((plcs (L.length + 1) (lk L)).mergeSort fun x y => decide (x ≤ y))) := by
                    obtain ⟨a9, c9, hv9, hs9⟩ := HOb6.out.shows (by simp [plcs_length, lk_length]; rw [HMl.out]; omega) (fun z hz => plcs_wide (by rw [HMl.out]; exact hn20) HPM.out.2 z ((List.mergeSort_perm _ _).mem_iff.1 hz))
                    simp only [Value.slice.injEq] at hv9
                    rw [hv9.1, hsame]; exact hs9
                  have HSm := Same_at (some ⟨ga, 0, none⟩) (some ⟨gb, 0, none⟩) j j j j _ _ w6 HSa.out HSb.out (by simp [plcs_length, lk_length]; exact HLl.out.symm) (by simp [plcs_length, lk_length]; exact HLl.out.symm) true (by simp)
                  clear hsame HOa5 HOb6 HOa6 HG5 HG6 HB5 HB4
                  go_wp2_with fail
                  refine HSm.mono ?_
                  rintro e w7 ⟨rfl, n7, rfl⟩
                  clear HSm
                  have HB7 : Hid (Below w.heap.size w (w6.drewN n7)) := below_drewN HB6.out n7
                  go_wp2
                  go_roundw
                  case rel => exact ⟨s + 1, by omega, by go_num, HB7⟩
                  case measure => simp [intOf]; omega
            · have HPk : Hid (¬ (plC L L.length = 0 ∧ Free (lk L) L.length)) := by
                rw [HL.out]; exact trn_no HF.out (by rw [← HN.out]; exact hsn) (fun e => hsk (by rw [e, HK.out, HN.out]))
              obtain ⟨E, HE⟩ : ∃ E, Hid (pkE L = E) := ⟨_, rfl⟩
              have hE0 : E ≠ 0 := by rw [← HE.out]; exact pkE_no
              have hEb : (E == 0) = false := beq_eq_false_iff_ne.2 hE0
              have hEn : (E != 0) = true := by rw [bne_iff_ne]; exact hE0
              have hskb : ((s : Int) == (K : Int)) = false := by rw [beq_eq_false_iff_ne]; omega
              have HA := Park_no am j cm L wr E HSm.out HLl.out.symm HE.out HPk.out
              clear hsk hE0
              go_wp2_with fail
              refine HA.mono ?_
              rintro e w3 ⟨rfl, HBa⟩
              clear HA
              have HB3 : Hid (Below w.heap.size w w3) := HBw.out.trans (HBa.out.mono HBw.out.size)
              go_wp2
              go_roundw
              case rel => exact ⟨s + 1, by omega, by go_num, HB3⟩
              case measure => simp [intOf]; omega
      · have hsn' : ¬ (s : Int) ≤ (n : Int) := by omega
        clear hsn
        go_wp2
        go_ret
        exact ⟨rfl, HB.out⟩
  · have hb0 : (c != 0) = true := by rw [bne_iff_ne]; exact h0
    have HL1 := Lucky_no a n ca zs c w1 (HS.out.below HB1.out) HN.out hc hb0
    clear h0 hc
    go_wp2_with fail
    refine HL1.mono ?_
    rintro e w2 ⟨rfl, rfl⟩
    go_wp2
    go_ret
    exact ⟨rfl, HB1.out⟩
end Go.Proofs.Ytlghldfolfmoeaa
