/-
  The law CharsSays: its walk.
-/
import Derived.Test.YtheebpjkjclgbaaLClA
import Derived.Deep.CutBlock
namespace Go.Proofs.Ytheebpjkjclgbaa
open Go.RowKit Go.Shelf

set_option maxHeartbeats 16000000 in
set_option maxRecDepth 100000 in
theorem csays_at {ρ ρ' : Ren} (LT : SlLaysF.n6 Try.prog ρ') (hρ' : ρ'.f 6 = 32) (L : SlLaysF0.n6 Try.prog ρ) (hρ : ρ.f 6 = 22) (hτ : ρ.t 24 = 30) (aE : ∀ w, (isAgg 30).run Try.prog w = .ok true w) (zE : ∀ w, (Go.sizeOf 30).run Try.prog w = .ok 2 w) (ef : ∀ args w, (callFunc 23 args).run Try.prog w = .ok (.enter 23 args) w)
    (a b : Option Addr) (ca cb : Nat) (zs cs : List Int) (k : Int) (w : World) (hs : Shows w a zs) (hsc : Shows w b cs) (hcb : cs.length ≤ cb) (hna : a = none → ca = 0) (hnb : b = none → cb = 0) (hk1 : -9223372036854775808 ≤ k) (hk2 : k ≤ 9223372036854775807) :
    Calls Try.prog 3 #[.slice a zs.length ca, .slice b cs.length cb, .int .i64 k] w fun e w' => e = .returned (.bool true) ∧ Below w.heap.size w w' := by
  obtain ⟨n, HN⟩ : ∃ n, Hid (n = zs.length) := ⟨_, rfl⟩
  obtain ⟨nc, HNc⟩ : ∃ nc, Hid (nc = cs.length) := ⟨_, rfl⟩
  rw [← HN.out, ← HNc.out]
  obtain ⟨c1, HC1⟩ : ∃ c1, Hid (c1 = strF zs k) := ⟨_, rfl⟩
  obtain ⟨p1, HP1⟩ : ∃ p1, Hid (p1 = ptC zs) := ⟨_, rfl⟩
  have hn63 : n ≤ 17592186044416 := by rw [HN.out]; exact hs.len
  have HSa : Hid (∀ W, Below w.heap.size w W → Shows W a zs) := fun W hW => hs.below hW
  have HSc : Hid (∀ W, Below w.heap.size w W → Shows W b cs) := fun W hW => hsc.below hW
  have HCb : Hid (nc ≤ cb) := by show _ ≤ _; rw [HNc.out]; exact hcb
  have HCA : Hid (Calls Try.prog 4 #[.slice a n ca, .int .i64 k] w fun e w' => ∃ v X, e = .returned (.tuple #[v, .int .i64 c1]) ∧ Hid (Stl w' w.heap.size v X) ∧ Hid (X.map Prod.snd = strL zs k) ∧ Hid (Below w.heap.size w w')) := by
    rw [HC1.out]; exact Strips_all a n ca k zs w hs HN.out hk2
  have HRP : Hid (∀ W, Below w.heap.size w W → Calls Try.prog 5 #[.slice a n ca] W fun e w' => e = .returned (.int .i64 p1) ∧ Hid (Below W.heap.size W w')) := fun W hW => by
    rw [HP1.out, HN.out]
    refine (RPart_at a ca zs W (HSa.out W hW)).mono ?_
    rintro e w' ⟨rfl, q, rfl⟩
    exact ⟨rfl, below_drewN (Below.refl _ _) q⟩
  have HRS : Hid (c1 = 0 → ∀ W, Below w.heap.size w W → Calls Try.prog 6 #[.slice a n ca, .int .i64 k] W fun e w' => ∃ v Y, e = .returned v ∧ Hid (Stl w' W.heap.size v Y) ∧ Hid (Y.map Prod.snd = strL zs k) ∧ Hid (Below W.heap.size W w')) := fun h0 W hW => by
    rw [HC1.out] at h0
    have h1 := strF_zero.1 h0
    obtain ⟨kn, HKn⟩ : ∃ kn : Nat, Hid (k = (kn : Int)) := ⟨k.toNat, by show _ = _; omega⟩
    rw [HKn.out] at h0 ⊢
    refine (RStrips_at L hρ hτ aE zE ef a n ca kn zs W (HSa.out W hW) HN.out (pt_of h1.1)).mono ?_
    rintro e w' ⟨v, rfl, Y, h3, h4, h5⟩
    refine ⟨v, Y, rfl, h3, ?_, h5⟩
    show _ = _
    unfold strL
    rw [if_pos h0, h4, Int.toNat_natCast]
  have HSl : Hid (∀ s ∈ strL zs k, IsPt s.1) := fun s hs => by
    unfold strL at hs
    split at hs
    · rename_i h0
      exact (stpL_mem (pt_of (strF_zero.1 h0).1) s hs).1
    · cases hs
  obtain ⟨c2, HC2⟩ : ∃ c2, Hid (c2 = chrC zs cs) := ⟨_, rfl⟩
  obtain ⟨x2, HX2v⟩ : ∃ x2, Hid (x2 = chrV zs cs) := ⟨_, rfl⟩
  obtain ⟨p2, HP2⟩ : ∃ p2, Hid (p2 = firstBad [zs, cs]) := ⟨_, rfl⟩
  have HCH : Hid (∀ W, Below w.heap.size w W → Calls Try.prog 8 #[.slice a n ca, .slice b nc cb] W fun e w' => e = .returned (.tuple #[.int .i64 x2, .int .i64 c2]) ∧ Hid (Below W.heap.size W w')) := fun W hW => by
    rw [HC2.out, HX2v.out]
    exact Character_all a b n nc ca cb zs cs W (HSa.out W hW) HN.out (HSc.out W hW) HNc.out HCb.out
  have HPS : Hid (∀ W, Below w.heap.size w W → Calls Try.prog 9 #[.slice (some ⟨W.heap.size, 0, none⟩) 2 2] (W.alloc (.cells #[.slice a n ca, .slice b nc cb] 22)) fun e w' => e = .returned (.int .i64 p2) ∧ Hid (Below w.heap.size w w')) := fun W hW => by
    have hB : Below W.heap.size W (W.alloc (.cells #[.slice a n ca, .slice b nc cb] 22)) := (Below.refl _ _).alloc (Nat.le_refl _) _
    have hT : Table (W.alloc (.cells #[.slice a n ca, .slice b nc cb] 22)) (some ⟨W.heap.size, 0, none⟩) [zs, cs] := by
      intro i hi
      rcases (show i = 0 ∨ i = 1 by simp at hi; omega) with rfl | rfl
      · refine ⟨W.heap.size, 0, a, ca, rfl, by simp, ?_, (HSa.out W hW).below hB, fun h => ⟨?_, hna h⟩⟩
        · rw [World.cell?_alloc_at _ _ _ _ (by simp), HN.out]; rfl
        · show zs = []
          rcases Classical.em (zs = []) with q | q
          · exact q
          · obtain ⟨b0, o0, e0, _⟩ := hs.cells q
            rw [h] at e0; cases e0
      · refine ⟨W.heap.size, 0, b, cb, rfl, by simp, ?_, (HSc.out W hW).below hB, fun h => ⟨?_, hnb h⟩⟩
        · rw [World.cell?_alloc_at _ _ _ _ (by simp), HNc.out]; rfl
        · show cs = []
          rcases Classical.em (cs = []) with q | q
          · exact q
          · obtain ⟨b0, o0, e0, _⟩ := hsc.cells q
            rw [h] at e0; cases e0
    rw [HP2.out]
    refine (RParts_at _ 2 2 [zs, cs] _ hT rfl (by simp)).mono ?_
    rintro e w' ⟨rfl, q, rfl⟩
    exact ⟨rfl, hW.trans ((below_drewN hB q).mono hW.size)⟩
  obtain ⟨N1, HN1⟩ : ∃ N1, Hid (szN zs = N1) := ⟨_, rfl⟩
  obtain ⟨N2, HN2⟩ : ∃ N2, Hid (szN cs = N2) := ⟨_, rfl⟩
  have HZa : Hid (∀ W, Below w.heap.size w W → ptC zs = 0 → Calls Try.prog 10 #[.slice a n ca] W fun e w' => e = .returned (.int .i64 (N1 : Int)) ∧ w' = W) := fun W hW h0 => by
    rw [← HN1.out]; exact RSize_pt a n ca zs W (HSa.out W hW) HN.out (pt_of h0) (by have := szN_40 (pt_of h0); omega)
  have HZc : Hid (∀ W, Below w.heap.size w W → ptC cs = 0 → Calls Try.prog 10 #[.slice b nc cb] W fun e w' => e = .returned (.int .i64 (N2 : Int)) ∧ w' = W) := fun W hW h0 => by
    rw [← HN2.out]; exact RSize_pt b nc cb cs W (HSc.out W hW) HNc.out (pt_of h0) (by have := szN_40 (pt_of h0); omega)
  have HFb : Hid (p2 = 0 → ptC zs = 0 ∧ ptC cs = 0) := fun h => by
    rw [HP2.out] at h
    simp only [firstBad] at h
    by_cases h1 : ptC zs = 0
    · rw [if_neg (by simp [h1])] at h
      by_cases h2 : ptC cs = 0
      · exact ⟨h1, h2⟩
      · rw [if_pos h2] at h; exact absurd h h2
    · rw [if_pos h1] at h; exact absurd h h1
  have HFn : Hid (p2 ≠ 0 → p2 = c2) := fun h => by
    have e1 : p2 = if ptC zs ≠ 0 then ptC zs else if ptC cs ≠ 0 then ptC cs else 0 := by rw [HP2.out]; rfl
    by_cases h1 : ptC zs = 0
    · by_cases h2 : ptC cs = 0
      · rw [e1, if_neg (by simp [h1]), if_neg (by simp [h2])] at h; exact absurd rfl h
      · rw [HC2.out, e1]; unfold chrC; rw [if_neg (by simp [h1]), if_pos h2, if_neg (by simp [h1]), if_pos h2]
    · rw [HC2.out, e1]; unfold chrC; rw [if_pos h1, if_pos h1]
  have HRC : Hid (c2 = 0 → ∀ W, Below w.heap.size w W → Calls Try.prog 11 #[.slice a n ca, .slice b nc cb] W fun e w' => e = .returned (.int .i64 x2) ∧ Hid (Below w.heap.size w w')) := fun h0 W hW => by
    have hg : Good zs cs := chrC_zero.1 (by rw [← HC2.out]; exact h0)
    have hx : x2 = chi (natL cs) zs := by rw [HX2v.out]; unfold chrV; rw [if_pos (by rw [← HC2.out]; exact h0)]
    obtain ⟨g1, g2, g3, g4⟩ := hg
    have l1 := len_szN (pt_of g1)
    have l2 := len_szN (pt_of g2)
    rw [hx]
    refine (RChar_at L hρ hτ aE zE ef a b n nc ca cb zs cs W (HSa.out W hW) HN.out (pt_of g1) (by omega) (HSc.out W hW) HNc.out HCb.out (fun z hz => (pt_of g2).range z hz) (by omega)).mono ?_
    rintro e w' ⟨rfl, hb⟩
    exact ⟨rfl, hW.trans (hb.mono hW.size)⟩
  obtain ⟨c3, HC3⟩ : ∃ c3, Hid (c3 = clsF cs) := ⟨_, rfl⟩
  obtain ⟨x3, HX3⟩ : ∃ x3, Hid (x3 = clsV cs) := ⟨_, rfl⟩
  obtain ⟨p3, HP3⟩ : ∃ p3, Hid (p3 = ptC cs) := ⟨_, rfl⟩
  have HKL : Hid (∀ W, Below w.heap.size w W → Calls Try.prog 12 #[.slice b nc cb] W fun e w' => e = .returned (.tuple #[.int .i64 x3, .int .i64 c3]) ∧ w' = W) := fun W hW => by
    rw [HC3.out, HX3.out]; exact Class_all b nc cb cs W (HSc.out W hW) HNc.out
  have HPc : Hid (∀ W, Below w.heap.size w W → Calls Try.prog 5 #[.slice b nc cb] W fun e w' => e = .returned (.int .i64 p3) ∧ Hid (Below w.heap.size w w')) := fun W hW => by
    rw [HP3.out, HNc.out]
    refine (RPart_at b cb cs W (HSc.out W hW)).mono ?_
    rintro e w' ⟨rfl, q, rfl⟩
    exact ⟨rfl, below_drewN hW q⟩
  have HRK : Hid (c3 = 0 → ∀ W, Below w.heap.size w W → Calls Try.prog 13 #[.slice b nc cb] W fun e w' => e = .returned (.int .i64 x3) ∧ w' = W) := fun h0 W hW => by
    have h1 : clsF cs = 0 := by rw [← HC3.out]; exact h0
    have h2 := clsF_zero.1 h1
    have hx : x3 = (clN (szN cs) cs : Int) := by rw [HX3.out]; unfold clsV; rw [if_pos h1]
    rw [hx]
    exact RClass_at b nc cb (szN cs) cs W (HSc.out W hW) HNc.out (pt_of h2.1) rfl h2.2
  clear hs hsc hcb hna hnb
  go_enter Try.func3, Try.ntmps3
  go_wp2_with fail
  refine HCA.out.mono ?_
  rintro e w1 ⟨v, X, rfl, HX, HXs, HB1⟩
  clear HCA
  obtain ⟨va, vc, hvs⟩ := HX.out.shape
  obtain ⟨M, HM⟩ : ∃ M, Hid (M = X.length) := ⟨_, rfl⟩
  rw [← HM.out] at hvs
  subst hvs
  have hidP := hid_w (HRP.out w1 HB1.out)
  go_wp2_with fail
  refine hidP.out.mono ?_
  rintro e w2 ⟨rfl, HB2⟩
  have HB3 : Hid (Below w.heap.size w w2) := HB1.out.trans (HB2.out.mono HB1.out.size)
  have HX2 : Hid (Stl w2 w.heap.size (.slice va M vc) X) := HX.out.below HB2.out
  clear hidP HX
  obtain ⟨B, HBo⟩ : ∃ B, Hid (B = decide (p1 = 0 ∧ k < 1)) := ⟨_, rfl⟩
  go_upto_region 3 with fail
  go_cut [40] (fun s40 wx => s40 = .bool B ∧ Hid (wx = w2))
  case first => as_aux_lemma =>
    by_cases h1 : p1 = 0
    · subst h1
      by_cases h2 : k < 1
      · have hE : B = true := by rw [HBo.out]; simp [h2]
        subst hE
        go_wp2_with fail
        go_meet
        exact ⟨rfl, rfl⟩
      · have hE : B = false := by rw [HBo.out]; simp [h2]
        subst hE
        go_wp2_with fail
        go_meet
        exact ⟨rfl, rfl⟩
    · have h1b : (p1 == 0) = false := by simp [h1]
      have hE : B = false := by rw [HBo.out]; simp [h1]
      subst hE
      go_wp2_with fail
      go_meet
      exact ⟨rfl, rfl⟩
  case rest =>
   obtain ⟨rfl, HW⟩ := hcut
   obtain rfl : w2 = wc := HW.out.symm
   clear HW
   go_upto_if 40 with fail
   go_cut [9] (fun s9 wx => s9 = .int .i64 c1 ∧ Hid (wx = w2))
   case first => as_aux_lemma =>
    cases B with
    | true =>
      have HE : Hid ((1 : Int) = c1) := by
        show _ = _
        have h := of_decide_eq_true HBo.out.symm
        rw [HC1.out]; unfold strF; rw [← HP1.out, h.1, if_neg (by simp), if_pos h.2]
      have hE := HE.out
      subst hE
      go_wp2_with fail
      go_meet
      exact ⟨rfl, rfl⟩
    | false =>
      have HE : Hid (p1 = c1) := by
        show _ = _
        have h := of_decide_eq_false HBo.out.symm
        rw [HC1.out]; unfold strF; rw [← HP1.out]
        by_cases h1 : p1 = 0
        · rw [if_neg (by simp [h1]), if_neg (fun q => h ⟨h1, q⟩), h1]
        · rw [if_pos h1]
      have hE := HE.out
      subst hE
      go_wp2_with fail
      go_meet
      exact ⟨rfl, rfl⟩
   case rest =>
    obtain ⟨rfl, HW⟩ := hcut
    obtain rfl : w2 = wc := HW.out.symm
    clear HW
    go_upto_if 42 with fail
    go_cut [10] (fun s10 wx => ∃ yv yc Y, s10 = .slice yv M yc ∧ Hid (Stl wx w.heap.size (.slice yv M yc) Y) ∧ Hid (Stl wx w.heap.size (.slice va M vc) X) ∧ Hid (X.map Prod.snd = Y.map Prod.snd) ∧ Hid (Below w.heap.size w wx))
    case first => as_aux_lemma =>
      by_cases h0 : c1 = 0
      · subst h0
        have hidS := hid_w (HRS.out rfl w2 HB3.out)
        go_wp2_with fail
        refine hidS.out.mono ?_
        rintro e w3 ⟨v3, Y, rfl, HY, HYs, HB4⟩
        obtain ⟨yv, yc, hyv⟩ := HY.out.shape
        have HE : Hid (X.map Prod.snd = Y.map Prod.snd) := HXs.out.trans HYs.out.symm
        have hYl : Y.length = M := by rw [HM.out]; have := congrArg List.length HE.out; simpa using this.symm
        rw [hYl] at hyv
        subst hyv
        have HYd : Hid (Stl w3 w.heap.size (.slice yv M yc) Y) := HY.out.mono HB3.out.size
        have HXd : Hid (Stl w3 w.heap.size (.slice va M vc) X) := HX2.out.below HB4.out
        have HBd : Hid (Below w.heap.size w w3) := HB3.out.trans (HB4.out.mono HB3.out.size)
        clear hYl
        go_wp2_with fail
        go_meet
        exact ⟨yv, yc, Y, rfl, HYd, HXd, HE, HBd⟩
      · have h0b : (c1 == 0) = false := by simp [h0]
        have HX0 : Hid (X = []) := by
          show _ = _
          have := HXs.out
          unfold strL at this
          rw [if_neg (by rw [← HC1.out]; exact h0)] at this
          simpa using this
        have hM0 : M = 0 := by rw [HM.out, HX0.out]; rfl
        clear h0
        go_wp2_with fail
        go_meet
        exact ⟨none, 0, [], by rw [hM0], by rw [hM0]; exact Stl.nil _ _, HX2, by rw [HX0.out]; exact rfl, HB3⟩
    case rest =>
      obtain ⟨yv, yc, Y, rfl, HY, HX, HXY, HB⟩ := hcut
      have hcc : (c1 != c1) = false := by simp
      have hMM : ((M : Int) != (M : Int)) = false := by simp
      have hM40 : M ≤ 1000 := by
        rw [HM.out]
        have h1 := congrArg List.length HXs.out
        rw [List.length_map] at h1
        rw [h1]
        unfold strL
        split
        · rename_i h0
          have hp := pt_of (strF_zero.1 h0).1
          have := stUp_len hp k.toNat zs.length
          have h2 := hp.len
          unfold stpL
          omega
        · simp
      have HXp : Hid (∀ x ∈ X, IsPt x.2.1) := fun x hx => HSl.out x.2 (by rw [← HXs.out]; exact List.mem_map.2 ⟨x, hx, rfl⟩)
      clear HXs HX2 HB1 HB2 HB3 HSl HRS
      go_wp2_with fail
      go_loopw [58] (fun iv wr => ∃ t : Nat, t ≤ M ∧ iv = .int .i64 (t : Int) ∧ Hid (Below wc.heap.size wc wr)) (fun iv _ => M - (intOf iv).toNat)
      case atStart => exact ⟨0, Nat.zero_le _, rfl, Below.refl _ _⟩
      case round =>
        obtain ⟨t, ht, rfl, HBr⟩ := hrel
        have HBw : Hid (Below w.heap.size w wr) := HB.out.trans (HBr.out.mono HB.out.size)
        by_cases hlt : t < M
        · have hlt' : (t : Int) < (M : Int) := by omega
          have hXt : t < X.length := by rw [← HM.out]; exact hlt
          have hYl : Y.length = X.length := by have := congrArg List.length HXY.out; simpa using this.symm
          obtain ⟨g, cp, pa, pc, e1, hc1, hc2, hu⟩ := stl_cell (HX.out.below HBr.out) hXt
          obtain ⟨g2, cp2, qa, qc, e2, hd1, hd2, hu2⟩ := stl_cell (HY.out.below HBr.out) (by rw [hYl]; exact hXt)
          simp only [Value.slice.injEq] at e1 e2
          obtain ⟨rfl, -, rfl⟩ := e1
          obtain ⟨rfl, -, rfl⟩ := e2
          have HEt : Hid ((Y.getD t stD).2 = (X.getD t stD).2) := by
            show _ = _
            have h3 : (X.map Prod.snd).getD t ([], 0) = (Y.map Prod.snd).getD t ([], 0) := by rw [HXY.out]
            simpa [List.getD, hXt, hYl] using h3.symm
          rw [HEt.out] at hd1 hd2 hu2
          obtain ⟨pt, HPt⟩ : ∃ pt, Hid (pt = (X.getD t stD).2.1) := ⟨_, rfl⟩
          obtain ⟨h, HH⟩ : ∃ h, Hid (h = (X.getD t stD).2.2) := ⟨_, rfl⟩
          rw [← HPt.out] at hc1 hu hd1 hu2
          rw [← HH.out] at hc2 hd2
          have hip : IsPt pt := by rw [HPt.out]; exact HXp.out _ (getD_memX stD hXt)
          have HS1 : Hid (Shows wr pa pt) := by
            have hx := (HX.out.below HBr.out).el _ (getD_memX stD hXt)
            rw [hu, ← HPt.out] at hx
            obtain ⟨a9, c9, e9, hS⟩ := hx.shows (by have := hip.len; omega) (fun z hz => by have := hip.range z hz; omega)
            simp only [Value.slice.injEq] at e9
            obtain ⟨rfl, -, -⟩ := e9
            exact hS
          have HS2 : Hid (Shows wr qa pt) := by
            have hx := (HY.out.below HBr.out).el _ (getD_memX stD (show t < Y.length by omega))
            rw [hu2, HEt.out, ← HPt.out] at hx
            obtain ⟨a9, c9, e9, hS⟩ := hx.shows (by have := hip.len; omega) (fun z hz => by have := hip.range z hz; omega)
            simp only [Value.slice.injEq] at e9
            obtain ⟨rfl, -, -⟩ := e9
            exact hS
          obtain ⟨pn, HPn⟩ : ∃ pn, Hid (pn = pt.length) := ⟨_, rfl⟩
          rw [← HPn.out] at hc1 hd1
          have hbd : Below wr.heap.size wr wr.drew := below_drewN (Below.refl _ _) 1
          have hhh : ((h : Int) != (h : Int)) = false := by simp
          clear hip hu hu2 hbd hYl hXt
          go_upto_region 13 with fail
          go_cut [85] (fun s85 wx => s85 = .bool false ∧ Hid (Below wc.heap.size wc wx))
          case first => as_aux_lemma =>
            go_quiet ((go_at_call 7; exact Calls.quiet_of (Same_at _ _ _ _ _ _ pt pt _ (HS1.out.drewR _) (HS2.out.drewR _) HPn.out HPn.out true (by simp))))
            go_wp2_with fail
            go_meet
            exact ⟨rfl, below_drewN HBr.out _⟩
          case rest =>
            obtain ⟨rfl, HB9⟩ := hcut
            go_wp2
            exact ⟨⟨t + 1, by omega, by go_num, HB9⟩, by simp [intOf]; omega⟩
        · obtain rfl : t = M := by omega
          have hlt' : ¬ ((t : Int) < (t : Int)) := by omega
          clear HX HY HXY HXp HBr HB
          have hidC := hid_w (HCH.out wr HBw.out)
          go_wp2_with fail
          refine hidC.out.mono ?_
          rintro e w4 ⟨rfl, HB4⟩
          have HB5 : Hid (Below w.heap.size w w4) := HBw.out.trans (HB4.out.mono HBw.out.size)
          have hidR := hid_w (HPS.out w4 HB5.out)
          go_wp2_with fail
          refine hidR.out.mono ?_
          rintro e w5 ⟨rfl, HB6⟩
          clear hidC hidR HB4 HB5 HBw HCH HPS
          go_upto_block 2 with fail
          go_cut [14] (fun s14 wx => s14 = .int .i64 c2 ∧ Hid (Below w.heap.size w wx))
          case first => as_aux_lemma =>
            by_cases h1 : p2 = 0
            · have HZ := HFb.out h1
              subst h1
              have hidA := hid_w (HZa.out w5 HB6.out HZ.1)
              have hidB := hid_w (HZc.out w5 HB6.out HZ.2)
              have HE0 : Hid (c2 = if N1 ≠ N2 then 3 else if 12 < N1 then 2 else 0) := by
                show _ = _
                rw [HC2.out]; unfold chrC
                rw [if_neg (by simp [HZ.1]), if_neg (by simp [HZ.2]), HN1.out, HN2.out]
              clear HZ
              by_cases hNN : N1 = N2
              · subst hNN
                have hne : ((N1 : Int) != (N1 : Int)) = false := by simp
                by_cases h12 : 12 < N1
                · have h12' : (N1 : Int) > 12 := by omega
                  have hE : c2 = 2 := by rw [HE0.out, if_neg (by simp), if_pos h12]
                  subst hE
                  clear HE0
                  go_wp2_with fail
                  refine hidA.out.mono ?_
                  rintro e w6 ⟨rfl, hw6⟩
                  obtain rfl : w5 = w6 := hw6.symm
                  clear hw6
                  go_wp2_with fail
                  refine hidB.out.mono ?_
                  rintro e w6 ⟨rfl, hw6⟩
                  obtain rfl : w5 = w6 := hw6.symm
                  clear hw6
                  go_wp2_with fail
                  refine hidA.out.mono ?_
                  rintro e w6 ⟨rfl, hw6⟩
                  obtain rfl : w5 = w6 := hw6.symm
                  clear hw6
                  go_wp2_with fail
                  go_meet
                  exact ⟨rfl, HB6⟩
                · have h12' : ¬ ((N1 : Int) > 12) := by omega
                  have hE : c2 = 0 := by rw [HE0.out, if_neg (by simp), if_neg h12]
                  subst hE
                  clear HE0
                  go_wp2_with fail
                  refine hidA.out.mono ?_
                  rintro e w6 ⟨rfl, hw6⟩
                  obtain rfl : w5 = w6 := hw6.symm
                  clear hw6
                  go_wp2_with fail
                  refine hidB.out.mono ?_
                  rintro e w6 ⟨rfl, hw6⟩
                  obtain rfl : w5 = w6 := hw6.symm
                  clear hw6
                  go_wp2_with fail
                  refine hidA.out.mono ?_
                  rintro e w6 ⟨rfl, hw6⟩
                  obtain rfl : w5 = w6 := hw6.symm
                  clear hw6
                  go_wp2_with fail
                  go_meet
                  exact ⟨rfl, HB6⟩
              · have hne : ((N1 : Int) != (N2 : Int)) = true := by rw [bne_iff_ne]; omega
                have hE : c2 = 3 := by rw [HE0.out, if_pos hNN]
                subst hE
                clear HE0 hNN
                go_wp2_with fail
                refine hidA.out.mono ?_
                rintro e w6 ⟨rfl, hw6⟩
                obtain rfl : w5 = w6 := hw6.symm
                clear hw6
                go_wp2_with fail
                refine hidB.out.mono ?_
                rintro e w6 ⟨rfl, hw6⟩
                obtain rfl : w5 = w6 := hw6.symm
                clear hw6
                go_wp2_with fail
                go_meet
                exact ⟨rfl, HB6⟩
            · have hE : p2 = c2 := HFn.out h1
              have h1b : (p2 != 0) = true := by simp [h1]
              subst hE
              go_wp2_with fail
              go_meet
              exact ⟨rfl, HB6⟩
          case rest => as_aux_lemma =>
            obtain ⟨rfl, HB7⟩ := hcut
            obtain ⟨w6, hw6⟩ : ∃ w6, w6 = wc := ⟨_, rfl⟩
            subst hw6
            go_upto_if 111 with fail
            go_cut [15] (fun s15 wx => s15 = .int .i64 x2 ∧ Hid (Below w.heap.size w wx))
            case first => as_aux_lemma =>
              by_cases h0 : c2 = 0
              · have hidV := hid_w (HRC.out h0 w6 HB7.out)
                subst h0
                go_wp2_with fail
                refine hidV.out.mono ?_
                rintro e w7 ⟨rfl, HB8⟩
                go_wp2_with fail
                go_meet
                exact ⟨rfl, HB8⟩
              · have h0b : (c2 == 0) = false := by simp [h0]
                have hE : x2 = 0 := by rw [HX2v.out]; unfold chrV; rw [if_neg (by rw [← HC2.out]; exact h0)]
                subst hE
                clear h0
                go_wp2_with fail
                go_meet
                exact ⟨rfl, HB7⟩
            case rest =>
              obtain ⟨rfl, HB8⟩ := hcut
              obtain ⟨w7, hw7⟩ : ∃ w7, w7 = wc := ⟨_, rfl⟩
              subst hw7
              have hc2c : (c2 != c2) = false := by simp
              have hx2c : (x2 != x2) = false := by simp
              have hidK := hid_w (HKL.out w7 HB8.out)
              clear HB7 HB6 HZa
              go_wp2_with fail
              refine hidK.out.mono ?_
              rintro e w8 ⟨rfl, hw8⟩
              obtain rfl : w7 = w8 := hw8.symm
              clear hw8 hidK
              have hidP := hid_w (HPc.out w7 HB8.out)
              go_wp2_with fail
              refine hidP.out.mono ?_
              rintro e w8 ⟨rfl, HB9⟩
              clear hidP HB8
              obtain ⟨D, HD⟩ : ∃ D, Hid (D = decide (p3 = 0 ∧ 12 < N2)) := ⟨_, rfl⟩
              go_upto_region 30 with fail
              go_cut [136] (fun s136 wx => s136 = .bool D ∧ Hid (wx = w8))
              case first => as_aux_lemma =>
                by_cases h1 : p3 = 0
                · have hidZ := hid_w (HZc.out w8 HB9.out (by rw [← HP3.out]; exact h1))
                  have HD2 : Hid (D = decide (12 < N2)) := by show _ = _; rw [HD.out]; simp [h1]
                  subst h1
                  by_cases h2 : 12 < N2
                  · have h2' : (N2 : Int) > 12 := by omega
                    have hE : D = true := by rw [HD2.out]; simp [h2]
                    subst hE
                    go_wp2_with fail
                    refine hidZ.out.mono ?_
                    rintro e w9 ⟨rfl, hw9⟩
                    obtain rfl : w8 = w9 := hw9.symm
                    clear hw9
                    go_wp2_with fail
                    go_meet
                    exact ⟨rfl, rfl⟩
                  · have h2' : ¬ ((N2 : Int) > 12) := by omega
                    have hE : D = false := by rw [HD2.out]; simp [h2]
                    subst hE
                    go_wp2_with fail
                    refine hidZ.out.mono ?_
                    rintro e w9 ⟨rfl, hw9⟩
                    obtain rfl : w8 = w9 := hw9.symm
                    clear hw9
                    go_wp2_with fail
                    go_meet
                    exact ⟨by rw [decide_eq_false (by omega)], rfl⟩
                · have h1b : (p3 == 0) = false := by simp [h1]
                  have hE : D = false := by rw [HD.out]; simp [h1]
                  subst hE
                  go_wp2_with fail
                  go_meet
                  exact ⟨rfl, rfl⟩
              case rest =>
                obtain ⟨rfl, HW⟩ := hcut
                obtain rfl : w8 = wc := HW.out.symm
                clear HW
                go_upto_if 136 with fail
                go_cut [18] (fun s18 wx => s18 = .int .i64 c3 ∧ Hid (wx = w8))
                case first => as_aux_lemma =>
                  cases D with
                  | true =>
                    have HE : Hid ((2 : Int) = c3) := by
                      show _ = _
                      have h := of_decide_eq_true HD.out.symm
                      rw [HC3.out]; unfold clsF; rw [← HP3.out, h.1, if_neg (by simp), HN2.out, if_pos h.2]
                    have hE := HE.out
                    subst hE
                    go_wp2_with fail
                    go_meet
                    exact ⟨rfl, rfl⟩
                  | false =>
                    have HE : Hid (p3 = c3) := by
                      show _ = _
                      have h := of_decide_eq_false HD.out.symm
                      rw [HC3.out]; unfold clsF; rw [← HP3.out, HN2.out]
                      by_cases h1 : p3 = 0
                      · rw [if_neg (by simp [h1]), if_neg (fun q => h ⟨h1, q⟩), h1]
                      · rw [if_pos h1]
                    have hE := HE.out
                    subst hE
                    go_wp2_with fail
                    go_meet
                    exact ⟨rfl, rfl⟩
                case rest =>
                  obtain ⟨rfl, HW⟩ := hcut
                  obtain rfl : w8 = wc := HW.out.symm
                  clear HW
                  go_upto_region 32 with fail
                  go_cut [157] (fun s157 wx => s157 = .bool false ∧ Hid (wx = w8))
                  case first => as_aux_lemma =>
                    have hcc3 : (c3 != c3) = false := by simp
                    have hxx3 : (x3 != x3) = false := by simp
                    by_cases h0 : c3 = 0
                    · have hidQ := hid_w (HRK.out h0 w8 HB9.out)
                      subst h0
                      go_wp2_with fail
                      refine hidQ.out.mono ?_
                      rintro e w9 ⟨rfl, hw9⟩
                      obtain rfl : w8 = w9 := hw9.symm
                      clear hw9
                      go_wp2_with fail
                      go_meet
                      exact ⟨rfl, rfl⟩
                    · have h0b : (c3 == 0) = false := by simp [h0]
                      have h0c : (c3 != 0) = true := by simp [h0]
                      have hE : x3 = 0 := by rw [HX3.out]; unfold clsV; rw [if_neg (by rw [← HC3.out]; exact h0)]
                      subst hE
                      clear h0
                      go_wp2_with fail
                      go_meet
                      exact ⟨rfl, rfl⟩
                  case rest => as_aux_lemma =>
                    obtain ⟨rfl, HW⟩ := hcut
                    obtain rfl : w8 = wc := HW.out.symm
                    clear HW
                    by_cases hk0 : k < 0
                    · have hidT := hid_w (Table_no k w8 (Or.inl hk0))
                      go_wp2_with fail
                      refine hidT.out.mono ?_
                      rintro e w9 ⟨rfl, hw9⟩
                      obtain rfl : w8 = w9 := hw9.symm
                      clear hw9
                      go_wp2_with fail
                      go_ret
                      exact ⟨rfl, HB9.out⟩
                    · by_cases hk8 : k > 8
                      · have hidT := hid_w (Table_no k w8 (Or.inr hk8))
                        go_wp2_with fail
                        refine hidT.out.mono ?_
                        rintro e w9 ⟨rfl, hw9⟩
                        obtain rfl : w8 = w9 := hw9.symm
                        clear hw9
                        go_wp2_with fail
                        go_ret
                        exact ⟨rfl, HB9.out⟩
                      · obtain ⟨kn, rfl⟩ : ∃ kn : Nat, k = (kn : Int) := ⟨k.toNat, by omega⟩
                        have HK8 : Hid (kn ≤ 8) := by show _ ≤ _; omega
                        obtain ⟨P, HP⟩ : ∃ P, Hid (P = genA kn) := ⟨_, rfl⟩
                        have HPt : Hid (∀ p ∈ P, IsPt p ∧ szN p = kn) := fun p hp => genA_isPt (by have := HK8.out; omega) (by rw [← HP.out]; exact hp)
                        have HAl : Hid (∀ W, Calls Try.prog 15 #[.int .i64 (kn : Int)] W fun e w' => ∃ al nl cl, e = .returned (.slice al nl cl) ∧ Hid (nl = P.length ∧ nl ≤ 30) ∧ Hid (TabC w' al P) ∧ Hid (Below W.heap.size W w')) := fun W => by
                          refine (AllParts_ok LT hρ' kn (by have := HK8.out; omega) W).mono ?_
                          rintro e w' ⟨v, rfl, h1, h2⟩
                          have hbd : ∀ l ∈ P, l.length ≤ 17592186044416 ∧ ∀ z ∈ l, -9223372036854775808 ≤ z ∧ z ≤ 9223372036854775807 := fun l hl => by
                            have h4 := (HPt.out l hl).1
                            exact ⟨by have := h4.len; omega, fun z hz => by have := h4.range z hz; omega⟩
                          rw [← HP.out] at h1
                          obtain ⟨al, nl, cl, rfl, h3, h4⟩ := h1.tabC hbd
                          exact ⟨al, nl, cl, rfl, ⟨h4.out, by rw [h4.out, HP.out]; exact genA_few kn (by have := HK8.out; omega)⟩, h3, h2⟩
                        have HTb : Hid (∀ W, Calls Try.prog 14 #[.int .i64 (kn : Int)] W fun e w' => ∃ v, e = .returned (.tuple #[v, .int .i64 0]) ∧ Hid (Tbl w' W.heap.size v (chK P)) ∧ Hid (Below W.heap.size W w')) := fun W => by
                          rw [HP.out]
                          exact Table_ok kn W HK8.out
                        have HRV : Hid (∀ W (pa ca : Option Addr) (pn cn pc cc : Nat) (p c : List Int), p ∈ P → c ∈ P → Shows W pa p → Shows W ca c → pn = p.length → cn = c.length → cn ≤ cc → Calls Try.prog 11 #[.slice pa pn pc, .slice ca cn cc] W fun e w' => e = .returned (.int .i64 (chi (natL c) p)) ∧ Hid (Below W.heap.size W w')) := fun W pa ca pn cn pc cc p c hp hc hsp hsc hpn hcn hcc => by
                          obtain ⟨i1, i2⟩ := HPt.out p hp
                          obtain ⟨i3, i4⟩ := HPt.out c hc
                          have l1 := len_szN i1
                          have l2 := len_szN i3
                          have l3 := HK8.out
                          exact RChar_at L hρ hτ aE zE ef pa ca pn cn pc cc p c W hsp hpn i1 (by omega) hsc hcn hcc (fun z hz => i3.range z hz) (by omega)
                        have HBd : Hid (∀ l ∈ chK P, l.length ≤ 17592186044416 ∧ ∀ z ∈ l, -9223372036854775808 ≤ z ∧ z ≤ 9223372036854775807) := fun l hl => by
                          have hPl : P.length ≤ 30 := by rw [HP.out]; exact genA_few kn (by have := HK8.out; omega)
                          obtain ⟨p, hp, rfl⟩ := List.mem_map.1 hl
                          refine ⟨by rw [List.length_map]; omega, fun z hz => ?_⟩
                          obtain ⟨c, hc, rfl⟩ := List.mem_map.1 hz
                          obtain ⟨i1, i2⟩ := HPt.out p hp
                          obtain ⟨i3, i4⟩ := HPt.out c hc
                          have l1 := len_szN i1
                          have l2 := len_szN i3
                          have l3 := HK8.out
                          have h1 := chi_bd (natL c) p i1 (by omega)
                          have h2 : 12 ^ (natL c).length ≤ 12 ^ 8 := Nat.pow_le_pow_right (by omega) (by unfold natL; rw [List.length_map]; omega)
                          have h3 : (12 : Nat) ^ 8 = 429981696 := by decide
                          omega
                        have hk0' : ¬ ((kn : Int) < 0) := by omega
                        have hk8' : ¬ ((kn : Int) > 8) := by omega
                        have hidT := hid_w (HTb.out w8)
                        clear hk0 hk8 HTb hk1 hk2
                        go_wp2_with fail
                        refine hidT.out.mono ?_
                        rintro e w9 ⟨tv, rfl, HTv, HB10⟩
                        clear hidT
                        obtain ⟨ta, tn, tc, rfl, HTt, HTn⟩ : ∃ ta tn tc, tv = .slice ta tn tc ∧ Hid (Table w9 ta (chK P)) ∧ Hid (tn = (chK P).length) := by
                          obtain ⟨x1, x2, x3, h1, h2, h3⟩ := HTv.out.table HBd.out
                          exact ⟨x1, x2, x3, h1, h2, h3⟩
                        clear HTv
                        have HB11 : Hid (Below w.heap.size w w9) := HB9.out.trans (HB10.out.mono HB9.out.size)
                        have hidA := hid_w (HAl.out w9)
                        go_wp2_with fail
                        refine hidA.out.mono ?_
                        rintro e w10 ⟨al, n1, cl, rfl, HNn, HT1, HB12⟩
                        clear hidA
                        have hn30 : n1 ≤ 30 := HNn.out.2
                        have HN1b : Hid (n1 = P.length) := HNn.out.1
                        clear HNn
                        go_wp2_with fail
                        have HLc : Hid ((chK P).length = P.length) := by show _ = _; unfold chK; simp
                        go_loopw [21, 179] (fun v iv wr => ∃ i : Nat, i ≤ n1 ∧ iv = .int .i64 (i : Int) ∧ Hid (Tbl wr w10.heap.size v ((chK P).take i)) ∧ Hid (Below w10.heap.size w10 wr)) (fun _ iv _ => n1 - (intOf iv).toNat)
                        case atStart => exact ⟨0, Nat.zero_le _, rfl, Tbl.nil _ _, Below.refl _ _⟩
                        case round =>
                          obtain ⟨i, hi, rfl, HT, HBi⟩ := hrel
                          by_cases hlt : i < n1
                          · have hlt' : (i : Int) < (n1 : Int) := by omega
                            have hiz : i < P.length := by rw [← HN1b.out]; exact hlt
                            obtain ⟨b1, o1, pa, pc, ha, hbs1, hcz, hsp, hpc⟩ := (HT1.out.below HBi.out) i hiz
                            subst ha
                            obtain ⟨p, HPp⟩ : ∃ p, Hid (p = P.getD i []) := ⟨_, rfl⟩
                            rw [← HPp.out] at hcz hsp hpc
                            have HpP : Hid (p ∈ P) := by show _ ∈ _; rw [HPp.out]; exact getD_memX [] hiz
                            obtain ⟨pn, HPn⟩ : ∃ pn, Hid (pn = p.length) := ⟨_, rfl⟩
                            rw [← HPn.out] at hcz hpc
                            have HSp : Hid (Shows wr pa p) := hsp
                            obtain ⟨rP, HRp⟩ : ∃ rP, Hid (rP = P.map fun c => chi (natL c) p) := ⟨_, rfl⟩
                            have HNx : Hid ((chK P).take (i + 1) = (chK P).take i ++ [rP]) := by
                              show _ = _
                              have e1 : (chK P)[i]? = some rP := by
                                unfold chK
                                rw [List.getElem?_map, HRp.out, HPp.out, List.getElem?_eq_getElem hiz]
                                simp [List.getD, hiz]
                              rw [List.take_add_one, e1]; rfl
                            clear hsp
                            go_wp2_with fail
                            refine (HAl.out _).mono ?_
                            rintro e w11 ⟨al2, n2, cl2, rfl, HNn, HT2, HB2⟩
                            have HB2a : Hid (Below wr.heap.size wr w11) := by
                              first
                              | exact HB2.out
                              | exact (below_drewN (Below.refl _ _) 1).trans HB2.out
                            clear HB2 hcz hbs1
                            have hn2 : n2 ≤ 30 := HNn.out.2
                            have HN2b : Hid (n2 = P.length) := HNn.out.1
                            clear HNn
                            have HSp2 : Hid (Shows w11 pa p) := HSp.out.below HB2a.out
                            go_wp2_with fail
                            go_loopw [24, 186] (fun v jv wq => ∃ j : Nat, j ≤ n2 ∧ jv = .int .i64 (j : Int) ∧ Hid (Owns wq w11.heap.size v (rP.take j)) ∧ Hid (Below w11.heap.size w11 wq)) (fun _ jv _ => n2 - (intOf jv).toNat)
                            case atStart => exact ⟨0, Nat.zero_le _, rfl, World.ownsRow_nil _ _ _ _, Below.refl _ _⟩
                            case round =>
                              obtain ⟨j, hj, rfl, HOj, HBj⟩ := hrel
                              by_cases hltj : j < n2
                              · have hltj' : (j : Int) < (n2 : Int) := by omega
                                have hjz : j < P.length := by rw [← HN2b.out]; exact hltj
                                obtain ⟨b4, o4, qa, qc, ha4, hbs4, hc4, hsc, hcc⟩ := (HT2.out.below HBj.out) j hjz
                                subst ha4
                                obtain ⟨c, HCc⟩ : ∃ c, Hid (c = P.getD j []) := ⟨_, rfl⟩
                                rw [← HCc.out] at hc4 hsc hcc
                                have HcP : Hid (c ∈ P) := by show _ ∈ _; rw [HCc.out]; exact getD_memX [] hjz
                                obtain ⟨cn, HCn⟩ : ∃ cn, Hid (cn = c.length) := ⟨_, rfl⟩
                                rw [← HCn.out] at hc4 hcc
                                obtain ⟨x, HXx⟩ : ∃ x, Hid (x = chi (natL c) p) := ⟨_, rfl⟩
                                have HNj : Hid (rP.take (j + 1) = rP.take j ++ [x]) := by
                                  show _ = _
                                  have e1 : rP[j]? = some x := by
                                    rw [HRp.out, List.getElem?_map, HXx.out, HCc.out, List.getElem?_eq_getElem hjz]
                                    simp [List.getD, hjz]
                                  rw [List.take_add_one, e1]; rfl
                                have HLj : Hid ((rP.take j).length ≤ 30) := by show _ ≤ _; rw [List.length_take]; omega
                                have HSc2 : Hid (Shows wr pa p ∧ Shows wr qa c) := ⟨HSp2.out.below HBj.out, hsc⟩
                                have HCc2 : Hid (cn ≤ qc) := hcc
                                clear hsc hcc
                                have HRVj : Hid (∀ W, Below wr.heap.size wr W → Calls Try.prog 11 #[.slice pa pn pc, .slice qa cn qc] W fun e w' => e = .returned (.int .i64 x) ∧ Hid (Below W.heap.size W w')) := fun W hW => by
                                  rw [HXx.out]
                                  exact HRV.out W pa qa pn cn pc qc p c HpP.out HcP.out (HSc2.out.1.below hW) (HSc2.out.2.below hW) HPn.out HCn.out HCc2.out
                                go_wp2_with fail
                                refine (HRVj.out _ (by first | exact Below.refl _ _ | exact below_drewN (Below.refl _ _) 1)).mono ?_
                                rintro e w12 ⟨rfl, HB13⟩
                                have HB13a : Hid (Below wr.heap.size wr w12) := by
                                  first
                                  | exact HB13.out
                                  | exact (below_drewN (Below.refl _ _) 1).trans HB13.out
                                have HOj2 : Hid (Owns w12 w11.heap.size u24 (rP.take j)) := HOj.out.below HB13a.out
                                have HBj2 : Hid (Below w11.heap.size w11 w12) := HBj.out.trans (HB13a.out.mono HBj.out.size)
                                clear HB13 hc4 hbs4
                                go_wp2_with (at_builtin; refine append_int_at (N := w12.heap.size) (x := x) rfl _ _ rfl rfl rfl rfl HOj2.out ?c1 ?c2 ?_)
                                case c1 => have := HLj.out; omega
                                case c2 => exact HBj2.out.size
                                intro v' w13 hO4 hb4 _
                                have HO4 : Hid (Owns w13 w11.heap.size v' (rP.take (j + 1))) := by show Owns _ _ _ _; rw [HNj.out]; exact hO4
                                have HB4 : Hid (Below w11.heap.size w11 w13) := HBj2.out.trans hb4
                                clear hO4 hb4
                                go_wp2
                                go_roundw
                                case rel => exact ⟨j + 1, by omega, by go_num, HO4, HB4⟩
                                case measure => simp [intOf]; omega
                              · obtain rfl : j = n2 := by omega
                                have hltj' : ¬ ((j : Int) < (j : Int)) := by omega
                                have HOe : Hid (Owns wr w11.heap.size u24 rP) := by
                                  have h := HOj.out
                                  rw [List.take_of_length_le (by rw [HRp.out, List.length_map, HN2b.out]; exact Nat.le_refl _)] at h
                                  exact h
                                obtain ⟨a1, c1, hsh⟩ := HOe.out.shape
                                obtain ⟨m, Hm⟩ : ∃ m, Hid (m = rP.length) := ⟨_, rfl⟩
                                rw [← Hm.out] at hsh
                                subst hsh
                                obtain ⟨vs, hV⟩ := HT.out
                                have HV0 := hid_w hV
                                have HLv : Hid (vs.length ≤ 30) := by show _ ≤ _; rw [hV.len, List.length_take]; omega
                                have HBo := hid_w (HB2a.out.trans (HBj.out.mono HB2a.out.size))
                                have HV2 := hid_w (hV.same (fun q _ hq => HBo.out.block q hq))
                                clear hV
                                go_wp2_with (at_builtin; refine append_one elem_row (x := .slice a1 m c1) rfl _ _ rfl rfl rfl rfl HV2.out.own rfl ?c3 ?c4 ?c5 ?_)
                                case c3 => have := HLv.out; unfold maxLen; omega
                                case c4 => have := HLv.out; omega
                                case c5 => exact Nat.le_trans HBi.out.size HBo.out.size
                                intro v' w14 hO3 hb3 hk3
                                have hO3' : w14.ownsRow w10.heap.size 22 1 v' (vs ++ [Value.slice a1 m c1]).length (vs ++ [Value.slice a1 m c1]) := by simpa using hO3
                                have HT3 : Hid (Tbl w14 w10.heap.size v' ((chK P).take (i + 1))) := by
                                  show Tbl _ _ _ _
                                  rw [HNx.out]
                                  exact Tbl.push HV0.out HV2.out HB2a.out.size (Nat.le_trans HBi.out.size HB2a.out.size) HOe.out hO3' hk3
                                have HB3 : Hid (Below w10.heap.size w10 w14) := (HBi.out.trans (HBo.out.mono HBi.out.size)).trans hb3
                                clear hO3 hO3' hb3 hk3
                                go_wp2
                                go_roundw
                                case rel => exact ⟨i + 1, by omega, by go_num, HT3, HB3⟩
                                case measure => simp [intOf]; omega
                          · obtain rfl : i = n1 := by omega
                            have hlt' : ¬ ((i : Int) < (i : Int)) := by omega
                            have hT := HT.out
                            rw [List.take_of_length_le (by rw [HLc.out, HN1b.out]; exact Nat.le_refl _)] at hT
                            obtain ⟨ua, un, uc, hsh, hUt, HUn⟩ := hT.table HBd.out
                            subst hsh
                            have HUt : Hid (Table wr ua (chK P)) := hUt
                            have HTt2 : Hid (Table wr ta (chK P)) := (HTt.out.below HB12.out).below HBi.out
                            have HLe : Hid ((chK P).length ≤ 17592186044416) := by show _ ≤ _; rw [HLc.out, ← HN1b.out]; omega
                            have HBe : Hid (Below w.heap.size w wr) := HB11.out.trans ((HB12.out.trans (HBi.out.mono HB12.out.size)).mono HB11.out.size)
                            clear hT hUt HT
                            go_wp2_with fail
                            refine (tabr_ok ta ua tc uc tn un _ (chK P) HTt2.out HUt.out HTn HUn HLe.out).mono ?_
                            rintro e w15 ⟨rfl, d, hw15⟩
                            go_wp2_with fail
                            go_ret
                            exact ⟨rfl, below_drewN HBe.out d⟩

end Go.Proofs.Ytheebpjkjclgbaa
