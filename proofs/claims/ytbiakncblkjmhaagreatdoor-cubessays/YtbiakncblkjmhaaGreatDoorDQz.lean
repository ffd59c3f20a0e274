/-
  The law ferlaw.CubesSays.
-/
import Derived.Test.YtbiakncblkjmhaaGreatDoorDQy
import Derived.Deep.DeepCutAuto
namespace Go.Proofs.YtbiakncblkjmhaaGreatDoor
open Go.RowKit Go.Shelf

open Classical in
set_option maxHeartbeats 40000000 in
set_option maxRecDepth 100000 in
theorem ccub_at {ρ : Go.Shelf.Ren} (L : SlLaysF.n6 Tryz.prog ρ) (hρ : ρ.f 6 = 42) (pa : Option Addr) (n cap : Nat) (ls : List (List Int)) (h a b c m : Int) (w : World) (hs : Table w pa ls) (hn : n = ls.length) (hl : ls.length ≤ 17592186044416) (hh : -9223372036854775808 ≤ h ∧ h ≤ 9223372036854775807) (hb : ∀ z ∈ [a, b, c], -9223372036854775808 ≤ z ∧ z ≤ 9223372036854775807) (htab : Lib.TabIs Tryz.prog w "internal/strconv.uint64pow10" .u64 Lib.pow10Tab) :
    Calls Tryz.prog 3 #[.slice pa n cap, .int .i64 h, .int .i64 a, .int .i64 b, .int .i64 c, .int .i64 m] w fun e w' => e = .returned (.bool true) ∧ Below w.heap.size w w' := by
  have HTab : Hid (∀ W, Below w.heap.size w W → Lib.TabIs Tryz.prog W "internal/strconv.uint64pow10" .u64 Lib.pow10Tab) := fun W hW => Lib.tabBelow_of_tabIs htab W hW
  obtain ⟨k, e0, pb, HKE, HVo, HPi, HCk⟩ : ∃ (k e0 : Int) (pb : Bool), Hid ((pb = true ∧ e0 = 0 ∧ ∀ W, Below w.heap.size w W → Calls Tryz.prog 9 #[.slice pa n cap] W fun e w' => ∃ a1 n1 c1, e = .returned (.slice a1 n1 c1) ∧ Hid (Calls Tryz.prog 8 #[.slice a1 n1 c1] w' fun e w2 => e = .returned (.int .i64 k) ∧ w2 = w') ∧ Hid (Below w.heap.size w w')) ∨ (pb = false ∧ e0 = 1 ∧ k = 0)) ∧ Hid (Calls Tryz.prog 5 #[.slice pa n cap, .int .i64 h] w fun e w' => e = .returned (.tuple #[.int .i64 k, .int .i64 e0]) ∧ Hid (Below w.heap.size w w')) ∧ Hid (∀ W, Below w.heap.size w W → Calls Tryz.prog 6 #[.slice pa n cap, .int .i64 h] W fun e w' => e = .returned (.bool pb) ∧ Hid (Below w.heap.size w w')) ∧ Hid (∀ W, Below w.heap.size w W → Calls Tryz.prog 7 #[.slice pa n cap, .int .i64 h] W fun e w' => e = .returned (.int .i64 e0) ∧ Hid (Below w.heap.size w w')) := by
    have hPi : ∀ pb : Bool, pb = decide (PileL ls h) → ∀ W, Below w.heap.size w W → Calls Tryz.prog 6 #[.slice pa n cap, .int .i64 h] W fun e w' => e = .returned (.bool pb) ∧ Hid (Below w.heap.size w w') := fun pb hpb W hW => by
      refine (Pile_at pa n cap ls h W (hs.below hW) hn).mono ?_
      rintro e w' ⟨rfl, hb⟩
      exact ⟨by rw [hpb], hW.trans (hb.out.mono hW.size)⟩
    by_cases p : PileL ls h
    · obtain ⟨r, cc, kk, PP, rfl, rfl, pp⟩ := p.fn
      have hnr : n = r := by rw [hn, tb_len]
      refine ⟨(vol r cc PP : Nat), 0, true, Or.inl ⟨rfl, rfl, fun W hW => ?_⟩, Volume_ok pa n cap r cc kk PP w hs hnr pp, hPi true (decide_eq_true p).symm, fun W hW => ?_⟩
      · refine (size_joined pa n cap r cc kk PP W (hs.below hW) hnr pp).mono ?_
        rintro e w' ⟨a1, n1, c1, rfl, h1, h2⟩
        exact ⟨a1, n1, c1, rfl, h1, hW.trans (h2.out.mono hW.size)⟩
      · refine (Check_yes pa n cap r cc kk PP W (hs.below hW) hnr pp).mono ?_
        rintro e w' ⟨rfl, h1⟩
        exact ⟨rfl, hW.trans (h1.out.mono hW.size)⟩
    · refine ⟨0, 1, false, Or.inr ⟨rfl, rfl, rfl⟩, Volume_noS pa n cap ls h w hh hs hn hl p, hPi false (decide_eq_false p).symm, fun W hW => ?_⟩
      refine (Check_no pa n cap ls h W hh (hs.below hW) hn hl p).mono ?_
      rintro e w' ⟨rfl, h1⟩
      exact ⟨rfl, hW.trans (h1.out.mono hW.size)⟩
  obtain ⟨mn, HMn⟩ : ∃ mn, Hid (mn = min (min a b) c) := ⟨_, rfl⟩
  obtain ⟨mx, HMx⟩ : ∃ mx, Hid (mx = max (max a b) c) := ⟨_, rfl⟩
  have hmn := min3_run #[3, 3, 3] 3 a b c
  have hmx := max3_run #[3, 3, 3] 3 a b c
  rw [← HMn.out] at hmn
  rw [← HMx.out] at hmx
  obtain ⟨s, f, tb0, HSF, HCo⟩ : ∃ (s : ByteArray) (f : Int) (tb0 : Bool), Hid ((tb0 = true ∧ f = 1 ∧ s = ⟨#[]⟩ ∧ (mn < 0 ∨ 20 < mx)) ∨ (tb0 = false ∧ f = 0 ∧ ¬ mn < 0 ∧ ¬ 20 < mx ∧ ∀ W, Below w.heap.size w W → Calls Tryz.prog 11 #[.int .i64 a, .int .i64 b, .int .i64 c] W fun e w' => e = .returned (.string s) ∧ Hid (Below w.heap.size w w'))) ∧ Hid (∀ W, Below w.heap.size w W → Calls Tryz.prog 10 #[.int .i64 a, .int .i64 b, .int .i64 c] W fun e w' => e = .returned (.tuple #[.string s, .int .i64 f]) ∧ Hid (Below w.heap.size w w')) := by
    by_cases hbad : mn < 0 ∨ 20 < mx
    · refine ⟨⟨#[]⟩, 1, true, Or.inl ⟨rfl, rfl, rfl, hbad⟩, fun W hW => ?_⟩
      refine (CbCount_no a b c W (by rw [← HMn.out, ← HMx.out]; exact hbad)).mono ?_
      rintro e w' ⟨rfl, rfl⟩
      exact ⟨rfl, hW⟩
    · have h1 := HMn.out
      have h2 := HMx.out
      obtain ⟨A, rfl⟩ : ∃ A : Nat, a = (A : Int) := ⟨a.toNat, by omega⟩
      obtain ⟨B, rfl⟩ : ∃ B : Nat, b = (B : Int) := ⟨b.toNat, by omega⟩
      obtain ⟨C, rfl⟩ : ∃ C : Nat, c = (C : Int) := ⟨c.toNat, by omega⟩
      have e1 : numT (mN A B C) = Lib.decDigits (mN A B C) := numT_dec _
      refine ⟨⟨(Lib.decDigits (mN A B C)).toArray⟩, 0, false, Or.inr ⟨rfl, rfl, by omega, by omega, fun W hW => ?_⟩, fun W hW => ?_⟩
      · refine (Piles_at A B C W (by omega) (by omega) (by omega)).mono ?_
        rintro e w' ⟨rfl, h3⟩
        exact ⟨rfl, hW.trans (h3.out.mono hW.size)⟩
      · refine (CbCount_ok A B C W (by omega) (by omega) (by omega) (HTab.out W hW)).mono ?_
        rintro e w' ⟨rfl, h3⟩
        exact ⟨by rw [e1], hW.trans (h3.out.mono hW.size)⟩
  have HSer : Hid (∀ (q : Nat) W, m = (q : Int) → q ≤ 60 → Below w.heap.size w W → Calls Tryz.prog 12 #[.int .i64 m] W fun e w' => ∃ X N, e = .returned (.tuple #[.slice (some ⟨X, 0, none⟩) N N, .int .i64 0]) ∧ Hid (N = q + 1) ∧ Hid (SRow w' X N (srT q)) ∧ Hid (Below w.heap.size w w')) := fun q W hq h60 hW => by
    subst hq
    refine (CbSeries_ok q W h60 (tot_63 h60) (HTab.out W hW)).mono ?_
    rintro e w' ⟨X, rfl, h1, h2⟩
    exact ⟨X, _, rfl, rfl, h1, hW.trans (h2.out.mono hW.size)⟩
  have HPs : Hid (∀ (q : Nat) W X N, m = (q : Int) → q ≤ 60 → N = q + 1 → SRow W X N (srT q) → Below w.heap.size w W → Calls Tryz.prog 14 #[.int .i64 m] W fun e w' => ∃ g cp, e = .returned (.slice (some ⟨g, 0, none⟩) N cp) ∧ Hid (Calls Tryz.prog 13 #[.slice (some ⟨X, 0, none⟩) N N, .slice (some ⟨g, 0, none⟩) N cp] w' fun e w2 => e = .returned (.bool true) ∧ Hid (Below w.heap.size w w2)) ∧ Hid (Below w.heap.size w w')) := fun q W X N hq h60 hN hR hW => by
    subst hq; subst hN
    refine (PileSeries_at q W h60).mono ?_
    rintro e w' ⟨v, rfl, h1, h2⟩
    obtain ⟨g, cp, rfl, hg⟩ := STs.use h1.out (by omega)
    have hW' := hW.trans (h2.out.mono hW.size)
    refine ⟨g, cp, rfl, ?_, hW'⟩
    have hR2 := hR.below h2.out
    refine (SameS_at X g (q + 1) (q + 1) cp (fun i => ⟨(Lib.decDigits (tS i)).toArray⟩) w' (fun i hi => ?_) (fun i hi => hg.out w' (Below.refl _ _) i hi) (by omega)).mono ?_
    · rw [(hR2.cell hi).1]
      unfold srT tS
      rw [tot_get h60 i (by omega)]
    · rintro e w2 ⟨rfl, d, rfl⟩
      exact ⟨rfl, below_drewN hW' d⟩
  have HAn : Hid (∀ W, (mn < 1 ∨ 8 < mx) → Below w.heap.size w W → Calls Tryz.prog 15 #[.int .i64 a, .int .i64 b, .int .i64 c] W fun e w' => e = .returned (.tuple #[.slice none 0 0, .int .i64 1]) ∧ Hid (Below w.heap.size w w')) := fun W hbad hW => by
    refine (CbAll_no a b c W hb (fun hsd => ?_)).mono ?_
    · have h1 := HMn.out
      have h2 := HMx.out
      simp [sides] at hsd
      omega
    · rintro e w' ⟨rfl, h1⟩
      exact ⟨rfl, hW.trans (h1.out.mono hW.size)⟩
  have HAy : Hid (¬ mn < 1 → ¬ 8 < mx → (∀ W, Below w.heap.size w W → Calls Tryz.prog 15 #[.int .i64 a, .int .i64 b, .int .i64 c] W fun e w' => ∃ av nv cv, e = .returned (.tuple #[.slice av nv cv, .int .i64 0]) ∧ Hid (Below w.heap.size w w') ∧ Hid (Calls Tryz.prog 16 #[.int .i64 a, .int .i64 b, .int .i64 c] w' fun e w2 => ∃ g2 n2 c2, e = .returned (.slice (some ⟨g2, 0, none⟩) n2 c2) ∧ Hid (Below w.heap.size w w2) ∧ Hid (Calls Tryz.prog 17 #[.slice av nv cv, .slice (some ⟨g2, 0, none⟩) n2 c2] w2 fun e w3 => e = .returned (.bool true) ∧ Hid (Below w.heap.size w w3)))) ∨ (∀ W, Below w.heap.size w W → Calls Tryz.prog 15 #[.int .i64 a, .int .i64 b, .int .i64 c] W fun e w' => e = .returned (.tuple #[.slice none 0 0, .int .i64 2]) ∧ Hid (Below w.heap.size w w') ∧ Hid (Calls Tryz.prog 16 #[.int .i64 a, .int .i64 b, .int .i64 c] w' fun e w2 => e = .returned (.slice none 0 0) ∧ Hid (Below w.heap.size w w2)))) := fun hy1 hy2 => by
    have h1 := HMn.out
    have h2 := HMx.out
    obtain ⟨A, rfl⟩ : ∃ A : Nat, a = (A : Int) := ⟨a.toNat, by omega⟩
    obtain ⟨B, rfl⟩ : ∃ B : Nat, b = (B : Int) := ⟨b.toNat, by omega⟩
    obtain ⟨C, rfl⟩ : ∃ C : Nat, c = (C : Int) := ⟨c.toNat, by omega⟩
    by_cases hmany : (sr B C (A * B) []).length ≤ 2000
    · left
      intro W hW
      refine (CbAll_ok A B C W (by omega) (by omega) (by omega) (by omega) (by omega) (by omega)).mono ?_
      rintro e w' ⟨v, q, rfl, hA, hB⟩
      rcases hA.out with ⟨rfl, _, av, cv, us, rfl, hP⟩ | ⟨_, h9, _⟩
      · have hW' := hW.trans (hB.out.mono hW.size)
        refine ⟨av, _, cv, rfl, hW', ?_⟩
        refine (AllPiles_at L hρ A B C w' (by omega) (by omega) (by omega) (by omega) (by omega)).mono ?_
        rintro e w2 ⟨v2, rfl, hR, hB2⟩
        rcases hR.out with ⟨_, us2, hC⟩ | ⟨h9, _⟩
        · have hW2 := hW'.trans (hB2.out.mono hW'.size)
          obtain ⟨a2, c2, e2, hc2⟩ := hC.shows
          have hpos : 0 < ((sr B C (A * B) []).map fun Y => tb A B (fX B Y)).length := by
            rw [List.length_map, ← rfP_len (by omega)]; exact rfP_pos _
          obtain ⟨g2, o2, ai, ci, e3, hcell, _⟩ := hc2 0 hpos
          subst e3
          have ho2 : o2 = 0 := by
            rcases hC.own.2 with ⟨q1, _⟩ | ⟨g3, c3, cur, q1, _⟩
            · rw [q1] at e2; cases e2
            · rw [q1] at e2
              simp only [Value.slice.injEq, Option.some.injEq, Addr.mk.injEq, and_true] at e2
              exact e2.1.2.symm
          subst ho2
          subst e2
          refine ⟨g2, _, c2, rfl, hW2, ?_⟩
          have hT1 : CubT w2 av ((sr B C (A * B) []).map fun Y => tb A B (fX B Y)) := fun k hk => by
            rw [List.length_map] at hk
            obtain ⟨p1, p2, p3⟩ := hP
            rcases p1.2 with ⟨q1, q2⟩ | ⟨g3, c3, cur, q1, q3, q4, _⟩
            · omega
            · simp only [Value.slice.injEq] at q1
              obtain ⟨rfl, _, rfl⟩ := q1
              have ho := p1
              rw [p2] at ho
              have hg3 : g3 < w'.heap.size := (Array.getElem?_eq_some_iff.1 q4).1
              obtain ⟨x, y, _, z2, z3, z4⟩ := p3 k hk
              have ht := z4 w2 (fun j _ j2 => hB2.out.block j (by omega))
              have eg : ((sr B C (A * B) []).map fun Y => tb A B (fX B Y)).getD k [] = tb A B (fX B ((sr B C (A * B) []).getD k [])) := by
                simp only [List.getD, List.getElem?_map, List.getElem?_eq_getElem hk]; rfl
              rw [eg]
              obtain ⟨a4, n4, c4, e4, ht4, hn4⟩ := ht.table (tb_wf (B := 1000) (by omega) (by omega) (fun i hi j hj => by
                have hm : (sr B C (A * B) []).getD k [] ∈ sr B C (A * B) [] := by simp [List.getD, hk]
                have := (((pil_sr (by omega)).1 hm).2 i hi j hj).1
                unfold fX; omega))
              refine ⟨g3, 0, a4, c4, rfl, ?_, ht4⟩
              rw [Nat.zero_add, hB2.out.cell (p := ⟨g3, k, none⟩) hg3, World.ownsRow.cellAt ho k (by omega), rowv_get (by omega), e4, hn4.out]
          refine (Tables_at av (some ⟨g2, 0, none⟩) cv c2 _ _ _ w2 hT1 hc2 (by rw [List.length_map]) rfl (by rw [List.length_map]; omega) (fun t ht => by
            obtain ⟨Y, _, rfl⟩ := List.mem_map.1 ht
            rw [tb_len]; omega)).mono ?_
          rintro e w3 ⟨rfl, d, rfl⟩
          exact ⟨rfl, below_drewN hW2 d⟩
        · omega
      · omega
    · right
      intro W hW
      refine (CbAll_ok A B C W (by omega) (by omega) (by omega) (by omega) (by omega) (by omega)).mono ?_
      rintro e w' ⟨v, q, rfl, hA, hB⟩
      rcases hA.out with ⟨_, h9, _⟩ | ⟨rfl, _, rfl⟩
      · omega
      · have hW' := hW.trans (hB.out.mono hW.size)
        refine ⟨rfl, hW', ?_⟩
        refine (AllPiles_at L hρ A B C w' (by omega) (by omega) (by omega) (by omega) (by omega)).mono ?_
        rintro e w2 ⟨v2, rfl, hR, hB2⟩
        rcases hR.out with ⟨h9, _⟩ | ⟨_, rfl⟩
        · omega
        · exact ⟨rfl, hW'.trans (hB2.out.mono hW'.size)⟩
  clear L hρ hs hn hl hh hb htab HTab HMn HMx
  go_enter Tryz.func3, Tryz.ntmps3
  go_upto_if 31 with (first
    | (go_at_call 5; with_reducible (refine HVo.out.mono ?_); rintro e w1 ⟨rfl, HB1⟩)
    | (go_at_call 6; with_reducible (refine (HPi.out w1 HB1.out).mono ?_); rintro e w2 ⟨rfl, HB2⟩))
  go_cut [] (fun wa => Hid (Below w.heap.size w wa))
  case first =>
    rcases HKE.out with ⟨rfl, rfl, hJ⟩ | ⟨rfl, rfl, rfl⟩
    · have HJ := hid_w hJ
      clear hJ HKE
      go_wp2_with (first
        | (go_at_call 7; with_reducible (refine (HCk.out w2 HB2.out).mono ?_); rintro e w3 ⟨rfl, HB3⟩)
        | (go_at_call 9; with_reducible (refine (HJ.out w3 HB3.out).mono ?_); rintro e w4 ⟨a1, n1, c1, rfl, HRs, HB4⟩)
        | (go_at_call 8; with_reducible (refine HRs.out.mono ?_); rintro e w5 ⟨rfl, hw5⟩; subst hw5))
      go_meet
      exact HB4
    · clear HKE
      go_wp2_with (first
        | (go_at_call 7; with_reducible (refine (HCk.out w2 HB2.out).mono ?_); rintro e w3 ⟨rfl, HB3⟩))
      go_meet
      exact HB3
  case rest =>
    obtain ⟨wa, hwa⟩ : ∃ wa, wa = wc := ⟨_, rfl⟩
    subst hwa
    have HBa : Hid (Below w.heap.size w wa) := hcut
    clear HVo HPi HCk HKE hcut HB1 HB2
    have HCo1 := hid_w (HCo.out wa HBa.out)
    go_upto_region 8 with (first
      | (go_at_call 10; with_reducible (refine HCo1.out.mono ?_); rintro e wb ⟨rfl, HBb⟩))
    go_cut [77] (fun s77 wd => s77 = .bool tb0 ∧ wd = wb)
    case first =>
      rcases HSF.out with ⟨rfl, rfl, rfl, hbad⟩ | ⟨rfl, rfl, hg1, hg2, hPl⟩
      · by_cases hm0 : mn < 0
        · clear hbad
          go_wp2_with fail
          go_meet
          exact ⟨rfl, rfl⟩
        · have hm20 : 20 < mx := by omega
          clear hbad
          go_wp2_with fail
          go_meet
          exact ⟨rfl, rfl⟩
      · clear hPl
        go_wp2_with fail
        go_meet
        exact ⟨by simp; omega, rfl⟩
    case rest =>
      obtain ⟨rfl, hwd⟩ := hcut
      subst hwd
      go_upto_if 77 with fail
      go_cut [] (fun wa => Hid (Below w.heap.size w wa))
      case first =>
        rcases HSF.out with ⟨rfl, rfl, rfl, hbad⟩ | ⟨rfl, rfl, hg1, hg2, hPl⟩
        · clear hbad
          go_wp2_with fail
          go_meet
          exact HBb
        · have HPl := hid_w (hPl _ HBb.out)
          clear hPl hg1 hg2
          go_wp2_with (first
            | (go_at_call 11; with_reducible (refine HPl.out.mono ?_); rintro e w3 ⟨rfl, HB3⟩))
          go_meet
          exact HB3
      case rest =>
        obtain ⟨wz, hwz⟩ : ∃ wz, wz = wc := ⟨_, rfl⟩
        subst hwz
        have HBz : Hid (Below w.heap.size w wz) := hcut
        clear HSF HCo HCo1 HBa HBb hcut
        by_cases hmr : m < 0 ∨ 60 < m
        · have HS1 := CbSeries_no m wz hmr
          by_cases hm0 : m < 0
          · clear hmr
            go_wp2_with fail
            refine HS1.mono ?_
            rintro e wy ⟨rfl, hwy⟩
            subst hwy
            clear HS1
            by_cases hbd : mn < 1 ∨ 8 < mx
            · have HA1 := HAn.out _ hbd HBz.out
              by_cases hm1 : mn < 1
              · clear hbd
                go_wp2_with fail
                refine HA1.mono ?_
                rintro e wd1 ⟨rfl, HBd1⟩
                clear HA1
                go_wp2
                go_ret
                exact ⟨rfl, HBd1.out⟩
              · have hm8 : 8 < mx := by omega
                clear hbd
                go_wp2_with fail
                refine HA1.mono ?_
                rintro e wd1 ⟨rfl, HBd1⟩
                clear HA1
                go_wp2
                go_ret
                exact ⟨rfl, HBd1.out⟩
            · have hm1 : ¬ mn < 1 := fun x => hbd (Or.inl x)
              have hm8 : ¬ 8 < mx := fun x => hbd (Or.inr x)
              clear hbd
              rcases HAy.out (by omega) (by omega) with hA | hA
              · have HA1 := hA _ HBz.out
                clear hA
                go_wp2_with fail
                refine HA1.mono ?_
                rintro e wd1 ⟨av, nv, cv, rfl, HBd1, HAp⟩
                clear HA1
                go_wp2_with fail
                refine HAp.out.mono ?_
                rintro e wd2 ⟨g2, n2, c2, rfl, HBd2, HTb⟩
                have heq : (binOp .eql 39 (.slice (some ⟨g2, 0, none⟩) n2 c2) (.slice none 0 0)).run Tryz.prog wd2 = .ok (.bool false) wd2 := Lib.run_eql_slice_nil wd2 39 22 (some ⟨g2, 0, none⟩) n2 c2 0 0 Tryz.underlying39
                clear HAp
                go_wp2_with fail
                refine HTb.out.mono ?_
                rintro e wd3 ⟨rfl, HBd3⟩
                clear HTb heq
                go_wp2
                go_ret
                exact ⟨rfl, HBd3.out⟩
              · have HA1 := hA _ HBz.out
                clear hA
                go_wp2_with fail
                refine HA1.mono ?_
                rintro e wd1 ⟨rfl, HBd1, HAp⟩
                clear HA1
                go_wp2_with fail
                refine HAp.out.mono ?_
                rintro e wd2 ⟨rfl, HBd2⟩
                have heq : (binOp .eql 39 (.slice none 0 0) (.slice none 0 0)).run Tryz.prog wd2 = .ok (.bool true) wd2 := Lib.run_eql_slice_nil wd2 39 22 none 0 0 0 0 Tryz.underlying39
                clear HAp
                go_wp2
                go_ret
                exact ⟨rfl, HBd2.out⟩
          · have hm60 : 60 < m := by omega
            clear hmr
            go_wp2_with fail
            refine HS1.mono ?_
            rintro e wy ⟨rfl, hwy⟩
            subst hwy
            clear HS1
            by_cases hbd : mn < 1 ∨ 8 < mx
            · have HA1 := HAn.out _ hbd HBz.out
              by_cases hm1 : mn < 1
              · clear hbd
                go_wp2_with fail
                refine HA1.mono ?_
                rintro e wd1 ⟨rfl, HBd1⟩
                clear HA1
                go_wp2
                go_ret
                exact ⟨rfl, HBd1.out⟩
              · have hm8 : 8 < mx := by omega
                clear hbd
                go_wp2_with fail
                refine HA1.mono ?_
                rintro e wd1 ⟨rfl, HBd1⟩
                clear HA1
                go_wp2
                go_ret
                exact ⟨rfl, HBd1.out⟩
            · have hm1 : ¬ mn < 1 := fun x => hbd (Or.inl x)
              have hm8 : ¬ 8 < mx := fun x => hbd (Or.inr x)
              clear hbd
              rcases HAy.out (by omega) (by omega) with hA | hA
              · have HA1 := hA _ HBz.out
                clear hA
                go_wp2_with fail
                refine HA1.mono ?_
                rintro e wd1 ⟨av, nv, cv, rfl, HBd1, HAp⟩
                clear HA1
                go_wp2_with fail
                refine HAp.out.mono ?_
                rintro e wd2 ⟨g2, n2, c2, rfl, HBd2, HTb⟩
                have heq : (binOp .eql 39 (.slice (some ⟨g2, 0, none⟩) n2 c2) (.slice none 0 0)).run Tryz.prog wd2 = .ok (.bool false) wd2 := Lib.run_eql_slice_nil wd2 39 22 (some ⟨g2, 0, none⟩) n2 c2 0 0 Tryz.underlying39
                clear HAp
                go_wp2_with fail
                refine HTb.out.mono ?_
                rintro e wd3 ⟨rfl, HBd3⟩
                clear HTb heq
                go_wp2
                go_ret
                exact ⟨rfl, HBd3.out⟩
              · have HA1 := hA _ HBz.out
                clear hA
                go_wp2_with fail
                refine HA1.mono ?_
                rintro e wd1 ⟨rfl, HBd1, HAp⟩
                clear HA1
                go_wp2_with fail
                refine HAp.out.mono ?_
                rintro e wd2 ⟨rfl, HBd2⟩
                have heq : (binOp .eql 39 (.slice none 0 0) (.slice none 0 0)).run Tryz.prog wd2 = .ok (.bool true) wd2 := Lib.run_eql_slice_nil wd2 39 22 none 0 0 0 0 Tryz.underlying39
                clear HAp
                go_wp2
                go_ret
                exact ⟨rfl, HBd2.out⟩
        · obtain ⟨q, HQ⟩ : ∃ q : Nat, Hid (m = (q : Int) ∧ q ≤ 60) := ⟨m.toNat, by show _ ∧ _; omega⟩
          have hq1 : ¬ m < 0 := fun x => hmr (Or.inl x)
          have hq2 : ¬ 60 < m := fun x => hmr (Or.inr x)
          have HS1 := HSer.out q wz HQ.out.1 HQ.out.2 HBz.out
          clear hmr
          go_wp2_with fail
          refine HS1.mono ?_
          rintro e wy ⟨X, N, rfl, HN, HR, HBy⟩
          clear HS1
          have HS2 := HPs.out q wy X N HQ.out.1 HQ.out.2 HN.out HR.out HBy.out
          go_wp2_with fail
          refine HS2.mono ?_
          rintro e wx ⟨g, cp, rfl, HSa, HBx⟩
          clear HS2 HR
          go_wp2_with fail
          refine HSa.out.mono ?_
          rintro e wv ⟨rfl, HBv⟩
          clear HSa HN HQ
          by_cases hbd : mn < 1 ∨ 8 < mx
          · have HA1 := HAn.out wv hbd HBv.out
            by_cases hm1 : mn < 1
            · clear hbd
              go_wp2_with fail
              refine HA1.mono ?_
              rintro e wd1 ⟨rfl, HBd1⟩
              clear HA1
              go_wp2
              go_ret
              exact ⟨rfl, HBd1.out⟩
            · have hm8 : 8 < mx := by omega
              clear hbd
              go_wp2_with fail
              refine HA1.mono ?_
              rintro e wd1 ⟨rfl, HBd1⟩
              clear HA1
              go_wp2
              go_ret
              exact ⟨rfl, HBd1.out⟩
          · have hm1 : ¬ mn < 1 := fun x => hbd (Or.inl x)
            have hm8 : ¬ 8 < mx := fun x => hbd (Or.inr x)
            clear hbd
            rcases HAy.out (by omega) (by omega) with hA | hA
            · have HA1 := hA wv HBv.out
              clear hA
              go_wp2_with fail
              refine HA1.mono ?_
              rintro e wd1 ⟨av, nv, cv, rfl, HBd1, HAp⟩
              clear HA1
              go_wp2_with fail
              refine HAp.out.mono ?_
              rintro e wd2 ⟨g2, n2, c2, rfl, HBd2, HTb⟩
              have heq : (binOp .eql 39 (.slice (some ⟨g2, 0, none⟩) n2 c2) (.slice none 0 0)).run Tryz.prog wd2 = .ok (.bool false) wd2 := Lib.run_eql_slice_nil wd2 39 22 (some ⟨g2, 0, none⟩) n2 c2 0 0 Tryz.underlying39
              clear HAp
              go_wp2_with fail
              refine HTb.out.mono ?_
              rintro e wd3 ⟨rfl, HBd3⟩
              clear HTb heq
              go_wp2
              go_ret
              exact ⟨rfl, HBd3.out⟩
            · have HA1 := hA wv HBv.out
              clear hA
              go_wp2_with fail
              refine HA1.mono ?_
              rintro e wd1 ⟨rfl, HBd1, HAp⟩
              clear HA1
              go_wp2_with fail
              refine HAp.out.mono ?_
              rintro e wd2 ⟨rfl, HBd2⟩
              have heq : (binOp .eql 39 (.slice none 0 0) (.slice none 0 0)).run Tryz.prog wd2 = .ok (.bool true) wd2 := Lib.run_eql_slice_nil wd2 39 22 none 0 0 0 0 Tryz.underlying39
              clear HAp
              go_wp2
              go_ret
              exact ⟨rfl, HBd2.out⟩
end Go.Proofs.YtbiakncblkjmhaaGreatDoor
