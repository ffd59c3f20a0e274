/-
  The contract of ferref.Character: by the last part of the cycles first.
-/
import Derived.Test.YtheebpjkjclgbaaLStS
import Derived.Test.YtheebpjkjclgbaaHChQ
namespace Go.Proofs.Ytheebpjkjclgbaa
open Go.RowKit Go.Shelf

theorem rev_last (c : Int) (rs : List Int) : (c :: rs).reverse.getD rs.length 0 = c := by
  rw [List.reverse_cons, List.getD, List.getElem?_append_right (by simp)]; simp
theorem rev_take (c : Int) (rs : List Int) : (c :: rs).reverse.take rs.length = rs.reverse := by
  rw [List.reverse_cons, List.take_append_of_le_length (by simp), List.take_of_length_le (by simp)]

set_option maxHeartbeats 16000000 in
set_option maxRecDepth 100000 in
theorem RChar_r {ρ : Ren} (L : SlLaysF0.n6 Try.prog ρ) (hρ : ρ.f 6 = 22) (hτ : ρ.t 24 = 30) (aE : ∀ w, (isAgg 30).run Try.prog w = .ok true w) (zE : ∀ w, (Go.sizeOf 30).run Try.prog w = .ok 2 w) (ef : ∀ args w, (callFunc 23 args).run Try.prog w = .ok (.enter 23 args) w) :
    ∀ (rs : List Int) (a ac : Option Addr) (n nc cap cc : Nat) (zs : List Int) (w : World), Shows w a zs → n = zs.length → IsPt zs → zs.length ≤ 12 → Shows w ac rs.reverse → nc = rs.length → nc ≤ cc → (∀ z ∈ rs, 1 ≤ z ∧ z ≤ 40) → rs.length ≤ 12 →
    Calls Try.prog 11 #[.slice a n cap, .slice ac nc cc] w fun e w' => e = .returned (.int .i64 (chi (natL rs) zs)) ∧ Below w.heap.size w w'
  | [], a, ac, n, nc, cap, cc, zs, w, _, _, _, _, _, hnc, _, _, _ => by
    have h0 : nc = 0 := hnc
    subst h0
    clear hnc
    go_enter Try.func11, Try.ntmps11
    go_wp2
    go_ret
    exact ⟨rfl, Below.refl _ _⟩
  | c :: cs, a, ac, n, nc, cap, cc, zs, w, hs, hn, hp, h12, hsc, hnc, hcc, hcr, hcl => by
    have hIH := RChar_r L hρ hτ aE zE ef cs
    have HIH : Hid (∀ (a ac : Option Addr) (n nc cap cc : Nat) (zs : List Int) (w : World), Shows w a zs → n = zs.length → IsPt zs → zs.length ≤ 12 → Shows w ac cs.reverse → nc = cs.length → nc ≤ cc → (∀ z ∈ cs, 1 ≤ z ∧ z ≤ 40) → cs.length ≤ 12 → Calls Try.prog 11 #[.slice a n cap, .slice ac nc cc] w fun e w' => e = .returned (.int .i64 (chi (natL cs) zs)) ∧ Below w.heap.size w w') := hIH
    clear hIH
    obtain ⟨m, HM⟩ : ∃ m, Hid (m = cs.length) := ⟨_, rfl⟩
    have hncm : nc = m + 1 := by rw [hnc, HM.out]; rfl
    have hm11 : m ≤ 11 := by rw [HM.out]; rw [List.length_cons] at hcl; omega
    subst hncm
    obtain ⟨b, off, z, e1, HZ, -, -, hc0⟩ := hsc.elem (k := m) (by rw [List.length_reverse, List.length_cons, HM.out]; omega)
    subst e1
    have hzc : z = c := by rw [HZ.out, HM.out, rev_last]
    obtain ⟨k, hk⟩ : ∃ k : Nat, z = (k : Int) := ⟨z.toNat, by have := hcr c (by simp); omega⟩
    have HKc : Hid (c = (k : Int)) := by show _ = _; omega
    subst hk
    clear hzc HZ
    have hkb : 1 ≤ k ∧ k ≤ 40 := by have h1 := hcr c (by simp); rw [HKc.out] at h1; omega
    have HStw : Hid (Calls Try.prog 6 #[.slice a n cap, .int .i64 (k : Int)] w fun e w' => ∃ v, e = .returned v ∧ StpR zs k w w' v) := RStrips_at L hρ hτ aE zE ef a n cap k zs w hs hn hp
    have HSc : Hid (Shows w (some ⟨b, off, none⟩) cs.reverse) := by
      have := hsc.take cs.length
      rw [rev_take] at this; exact this
    have HP : Hid (IsPt zs) := hp
    have H12 : Hid (zs.length ≤ 12) := h12
    have HCr : Hid (∀ z ∈ cs, 1 ≤ z ∧ z ≤ 40) := fun z hz => hcr z (by simp [hz])
    obtain ⟨nc, HNc⟩ : ∃ nc, Hid (nc = m + 1) := ⟨_, rfl⟩
    have hm0 : (((m + 1 : Nat) : Int) == 0) = false := by rw [beq_eq_false_iff_ne]; omega
    rw [← HNc.out] at hcc hm0 ⊢
    have hncs : (nc : Int) - 1 = (m : Int) := by have := HNc.out; omega
    have hmn : (m : Int) < (nc : Int) := by have := HNc.out; omega
    have hmcc : (m : Int) ≤ (cc : Int) := by omega
    have hmcN : m ≤ cc := by omega
    have hnc12 : (nc : Int) ≤ 12 := by have := HNc.out; omega
    rw [show natL (c :: cs) = k :: natL cs by unfold natL; rw [List.map_cons, HKc.out]; simp]
    have HcN : Hid ((natL cs).length = m) := by show _ = _; unfold natL; rw [List.length_map, HM.out]
    clear hs hn hp h12 hsc hcr hcl hnc L hρ hτ aE zE ef
    go_enter Try.func11, Try.ntmps11
    go_wp2_with fail
    refine HStw.out.mono ?_
    rintro e w2 ⟨v, rfl, hR⟩
    obtain ⟨X, hX, hXs, hB2⟩ := hR
    have HX : Hid (Stl w2 w.heap.size v X) := hX
    have HXs : Hid (X.map Prod.snd = stpL zs k) := hXs
    have HB2 : Hid (Below w.heap.size w w2) := hB2
    obtain ⟨va, vc, hvs⟩ := hX.shape
    obtain ⟨L, HL⟩ : ∃ L, Hid (L = X.length) := ⟨_, rfl⟩
    rw [← HL.out] at hvs
    subst hvs
    have HLs : Hid (L = (stpL zs k).length) := by show _ = _; rw [← hXs, List.length_map]; exact HL.out
    have hL12 : L ≤ 12 := by rw [HLs.out]; exact Nat.le_trans (stUp_len HP.out k zs.length) H12.out
    have HBd : Hid (∀ s ∈ stpL zs k, (chi (natL cs) s.1).natAbs ≤ 12 ^ m) := fun s hs => by
      have h1 := stpL_mem HP.out s hs
      rw [← HcN.out]
      exact chi_bd (natL cs) s.1 h1.1 (by have := H12.out; omega)
    clear hX hXs hB2 HStw
    go_wp2
    go_loopw [6, 8] (fun sv iv wr => ∃ (t : Nat) (S : Int), t ≤ L ∧ iv = .int .i64 t ∧ sv = .int .i64 S ∧ Hid (S = psI (natL cs) (stpL zs k) t) ∧ Hid (Below w2.heap.size w2 wr)) (fun _ iv _ => L - (intOf iv).toNat)
    case atStart => exact ⟨0, 0, Nat.zero_le _, rfl, rfl, rfl, Below.refl _ _⟩
    case round =>
      obtain ⟨t, S, ht, rfl, rfl, HS, HBr⟩ := hrel
      obtain ⟨wk, hwk⟩ : ∃ wk, wk = wr := ⟨_, rfl⟩
      subst hwk
      by_cases hlt : t < L
      · have hlt' : (t : Int) < (L : Int) := by omega
        obtain ⟨g, cp, pa, pc, e1, hc1, hc2, hu⟩ := stl_cell (HX.out.below HBr.out) (t := t) (by rw [← HL.out]; exact hlt)
        simp only [Value.slice.injEq] at e1
        obtain ⟨rfl, -, rfl⟩ := e1
        obtain ⟨pt, HPt⟩ : ∃ pt, Hid (pt = (X.getD t stD).2.1) := ⟨_, rfl⟩
        obtain ⟨h, HH⟩ : ∃ h, Hid (h = (X.getD t stD).2.2) := ⟨_, rfl⟩
        rw [← HPt.out] at hc1 hu
        rw [← HH.out] at hc2
        have hXt : t < X.length := by rw [← HL.out]; exact hlt
        have HEt : Hid ((stpL zs k).getD t ([], 0) = (pt, h)) := by
          show _ = _
          rw [← HXs.out, HPt.out, HH.out]
          simp [List.getD, hXt]
        have htl : t < (stpL zs k).length := by rw [← HLs.out]; exact hlt
        have hmem := stpL_mem HP.out _ (getD_memX ([], 0) htl)
        rw [HEt.out] at hmem
        have hm1 : IsPt pt := hmem.1
        have HPp : Hid (IsPt pt ∧ pt.length ≤ zs.length) := ⟨hmem.1, hmem.2.1⟩
        have hh40 : h ≤ 40 := hmem.2.2
        have HSp : Hid (Shows wk pa pt) := by
          have hx := (HX.out.below HBr.out).el _ (getD_memX stD hXt)
          rw [hu, ← HPt.out] at hx
          obtain ⟨a9, c9, e9, hS⟩ := hx.shows (by have := hm1.len; omega) (fun z hz => by have := hm1.range z hz; omega)
          simp only [Value.slice.injEq] at e9
          obtain ⟨rfl, -, -⟩ := e9
          exact hS
        obtain ⟨pn, HPn⟩ : ∃ pn, Hid (pn = pt.length) := ⟨_, rfl⟩
        rw [← HPn.out] at hc1
        obtain ⟨ch, HCh⟩ : ∃ ch, Hid (ch = chi (natL cs) pt) := ⟨_, rfl⟩
        have hchb : ch.natAbs ≤ 743008370688 := by
          have h1 := HBd.out _ (getD_memX ([], 0) htl)
          rw [HEt.out, ← HCh.out] at h1
          exact Nat.le_trans h1 (pow12 hm11)
        have hSb : S.natAbs ≤ 12 * 743008370688 := by
          have h1 := psI_bd (cs := natL cs) (L := stpL zs k) (fun s hs => by rw [HcN.out]; exact HBd.out s hs) t (by rw [← HLs.out]; exact hL12)
          rw [← HS.out, HcN.out] at h1
          exact Nat.le_trans h1 (Nat.mul_le_mul_left _ (pow12 hm11))
        have HNx : Hid (psI (natL cs) (stpL zs k) (t + 1) = S + sg h * ch) := by show _ = _; rw [psI_succ _ htl, HEt.out, HS.out, HCh.out]
        have hglt : g < wk.heap.size := by
          rcases Nat.lt_or_ge g wk.heap.size with q | q
          · exact q
          · rw [World.cell?] at hc2
            simp [Array.getElem?_eq_none q] at hc2
        clear hu hmem hm1
        have HSb : Hid (Shows wk (some ⟨b, off, none⟩) cs.reverse) := HSc.out.below (HB2.out.trans (HBr.out.mono HB2.out.size))
        have HC1 : Hid (Calls Try.prog 11 #[.slice pa pn pc, .slice (some ⟨b, off, none⟩) m cc] wk.drew fun e w' => e = .returned (.int .i64 ch) ∧ w'.cell? ⟨g, t * 2 + 1, none⟩ = some (.int .i64 (h : Int)) ∧ Hid (Below w2.heap.size w2 w')) := by
          have hbk : Below wk.heap.size wk wk.drew := below_drewN (Below.refl _ _) 1
          refine (HIH.out pa (some ⟨b, off, none⟩) pn m pc cc pt wk.drew (HSp.out.below hbk) HPn.out HPp.out.1 (by have := HPp.out.2; have := H12.out; omega) (HSb.out.below hbk) HM.out hmcN HCr.out (by rw [← HM.out]; omega)).mono ?_
          rintro e w' ⟨rfl, hb⟩
          refine ⟨by rw [HCh.out], ?_, HBr.out.trans ((hbk.mono HBr.out.size).trans (hb.mono (Nat.le_trans HBr.out.size hbk.size)))⟩
          rw [hb.cell (p := ⟨g, t * 2 + 1, none⟩) (by show g < wk.heap.size; exact hglt)]
          exact hc2
        go_upto_region 9 with fail
        go_cut [9] (fun s9 wx => s9 = .int .i64 ch ∧ wx.cell? ⟨g, t * 2 + 1, none⟩ = some (.int .i64 (h : Int)) ∧ Hid (Below w2.heap.size w2 wx))
        case first =>
          go_region_with (go_at_call 11; with_reducible (refine HC1.out.mono ?_); rintro e W1 ⟨rfl, k1, k2⟩)
          all_goals (
            go_wp2_with fail
            go_meet
            exact ⟨rfl, k1, k2⟩)
        case rest =>
          clear hc2
          obtain ⟨rfl, hc9, HB9⟩ := hcut
          by_cases hpar : h % 2 = 1
          · have hp1 : ((h : Int) % 2 == 1) = true := by rw [beq_iff_eq]; omega
            have hp2 : (Int.tmod (h : Int) 2 == 1) = true := by rw [beq_iff_eq, Int.tmod_eq_emod_of_nonneg (by omega)]; omega
            have hsg : sg h = -1 := by rw [sg_mod, if_neg (by omega)]
            have hng : IntKind.i64.wrap (-ch) = -ch := by rw [IntWalk.i64_left, IntWalk.wrap64_in]; omega
            have hsm : IntKind.i64.wrap (S + -ch) = S + -ch := by rw [IntWalk.i64_left, IntWalk.wrap64_in]; omega
            have HS2 : Hid (S + -ch = psI (natL cs) (stpL zs k) (t + 1)) := by show _ = _; rw [HNx.out, hsg]; omega
            clear hpar
            go_wp2
            first
            | exact ⟨⟨t + 1, _, by omega, by go_num, rfl, HS2, HB9⟩, by simp [intOf]; omega⟩
            | (go_roundw
               case rel => exact ⟨t + 1, _, by omega, by go_num, rfl, HS2, HB9⟩
               case measure => simp [intOf] <;> omega)
          · have hp1 : ((h : Int) % 2 == 1) = false := by rw [beq_eq_false_iff_ne]; omega
            have hp2 : (Int.tmod (h : Int) 2 == 1) = false := by rw [beq_eq_false_iff_ne, Int.tmod_eq_emod_of_nonneg (by omega)]; omega
            have hsg : sg h = 1 := by rw [sg_mod, if_pos (by omega)]
            have hsm : IntKind.i64.wrap (S + ch) = S + ch := by rw [IntWalk.i64_left, IntWalk.wrap64_in]; omega
            have HS2 : Hid (S + ch = psI (natL cs) (stpL zs k) (t + 1)) := by show _ = _; rw [HNx.out, hsg]; omega
            clear hpar
            go_wp2
            first
            | exact ⟨⟨t + 1, _, by omega, by go_num, rfl, HS2, HB9⟩, by simp [intOf]; omega⟩
            | (go_roundw
               case rel => exact ⟨t + 1, _, by omega, by go_num, rfl, HS2, HB9⟩
               case measure => simp [intOf] <;> omega)
      · obtain rfl : t = L := by omega
        have hlt' : ¬ ((t : Int) < (t : Int)) := by omega
        have HFin : Hid (S = chi (k :: natL cs) zs) := by
          show _ = _
          rw [HS.out, HLs.out]
          unfold psI
          rw [List.take_length]; rfl
        have HBf : Hid (Below w.heap.size w wk) := HB2.out.trans (HBr.out.mono HB2.out.size)
        go_wp2
        go_ret
        exact ⟨by rw [← HFin.out]; rfl, HBf.out⟩
/-- The reference's character is the program's. -/
theorem RChar_at {ρ : Ren} (L : SlLaysF0.n6 Try.prog ρ) (hρ : ρ.f 6 = 22) (hτ : ρ.t 24 = 30) (aE : ∀ w, (isAgg 30).run Try.prog w = .ok true w) (zE : ∀ w, (Go.sizeOf 30).run Try.prog w = .ok 2 w) (ef : ∀ args w, (callFunc 23 args).run Try.prog w = .ok (.enter 23 args) w)
    (a ac : Option Addr) (n nc cap cc : Nat) (zs cs : List Int) (w : World) (hs : Shows w a zs) (hn : n = zs.length) (hp : IsPt zs) (h12 : zs.length ≤ 12) (hsc : Shows w ac cs) (hnc : nc = cs.length) (hcc : nc ≤ cc) (hcr : ∀ z ∈ cs, 1 ≤ z ∧ z ≤ 40) (hcl : cs.length ≤ 12) :
    Calls Try.prog 11 #[.slice a n cap, .slice ac nc cc] w fun e w' => e = .returned (.int .i64 (chi (natL cs) zs)) ∧ Below w.heap.size w w' := by
  have h := RChar_r L hρ hτ aE zE ef cs.reverse a ac n nc cap cc zs w hs hn hp h12 (by rw [List.reverse_reverse]; exact hsc) (by simpa using hnc) hcc (fun z hz => hcr z (by simpa using hz)) (by simpa using hcl)
  have e : chi (natL cs.reverse) zs = chi (natL cs) zs := by
    refine chi_perm hp ?_ (fun k hk => ?_)
    · unfold natL; exact (List.reverse_perm cs).map _
    · unfold natL at hk
      obtain ⟨z, hz, rfl⟩ := List.mem_map.1 hk
      have := hcr z (by simpa using hz)
      omega
  rw [e] at h
  exact h

end Go.Proofs.Ytheebpjkjclgbaa
