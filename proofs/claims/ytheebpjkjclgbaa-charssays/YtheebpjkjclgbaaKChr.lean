/-
  The contract of chars.character.
-/
import Derived.Test.YtheebpjkjclgbaaKStp
import Derived.Deep.DeepCutAuto
import Derived.Deep.RegionLaw
namespace Go.Proofs.Ytheebpjkjclgbaa
open Go.RowKit

def stD : StX := (.slice none 0 0, [], 0)
theorem scL_get : ∀ (X : List StX) (t : Nat), t < X.length → (scL X)[t * 2]? = some (X.getD t stD).1 ∧ (scL X)[t * 2 + 1]? = some (.int .i64 ((X.getD t stD).2.2 : Int))
  | [], t, h => absurd h (Nat.not_lt_zero _)
  | x :: X, 0, _ => ⟨rfl, rfl⟩
  | x :: X, t + 1, h => by
    have := scL_get X t (by rw [List.length_cons] at h; omega)
    have e : scL (x :: X) = x.1 :: (.int .i64 (x.2.2 : Int)) :: scL X := rfl
    rw [e, show (t + 1) * 2 = t * 2 + 1 + 1 by omega]
    simpa [List.getD] using this
theorem stl_cell {w : World} {lo t : Nat} {v : Value} {X : List StX} (h : Stl w lo v X) (ht : t < X.length) :
    ∃ g cap pa pc, v = .slice (some ⟨g, 0, none⟩) X.length cap ∧ w.cell? ⟨g, t * 2, none⟩ = some (.slice pa (X.getD t stD).2.1.length pc) ∧ w.cell? ⟨g, t * 2 + 1, none⟩ = some (.int .i64 ((X.getD t stD).2.2 : Int)) ∧ (X.getD t stD).1 = .slice pa (X.getD t stD).2.1.length pc := by
  have hX := h
  have hm : X.getD t stD ∈ X := getD_memX _ ht
  obtain ⟨pa, pc, hu⟩ := (h.el _ hm).shape
  rcases h.own.2 with ⟨_, h2⟩ | ⟨g, cap, cur, hv, _⟩
  · omega
  · have h0 := h.own
    rw [hv] at h0
    obtain ⟨e1, e2⟩ := scL_get X t ht
    have hl : (scL X).length = X.length * 2 := h.own.1
    refine ⟨g, cap, pa, pc, hv, ?_, ?_, hu⟩
    · rw [World.ownsRow.cellAt h0 (t * 2) (by omega), e1, hu]
    · rw [World.ownsRow.cellAt h0 (t * 2 + 1) (by omega), e2]
theorem shows_tail {w : World} {b off : Nat} {c : Int} {cs : List Int} (h : Shows w (some ⟨b, off, none⟩) (c :: cs)) : Shows w (some ⟨b, off + 1, none⟩) cs := by
  refine ⟨by have := h.len; rw [List.length_cons] at this; omega, fun z hz => h.wf z (by simp [hz]), fun hne => ?_⟩
  obtain ⟨b2, off2, e, hlt, hc⟩ := h.cells (by simp)
  simp only [Option.some.injEq, Addr.mk.injEq, and_true] at e
  obtain ⟨rfl, rfl⟩ := e
  refine ⟨b, off + 1, rfl, hlt, fun j hj => ?_⟩
  have := hc (j + 1) (by rw [List.length_cons]; omega)
  rw [show off + 1 + j = off + (j + 1) by omega, this]
  simp [List.getD]
theorem shows_nil {w : World} {a : Option Addr} : Shows w a [] := ⟨by simp, fun z hz => (by cases hz), fun h => absurd rfl h⟩
/-- The first t summands. -/
def psI (cs : List Nat) (L : List (List Int × Nat)) (t : Nat) : Int := ((L.take t).map fun s => sg s.2 * chi cs s.1).sum
theorem psI_succ (cs : List Nat) {L : List (List Int × Nat)} {t : Nat} (ht : t < L.length) : psI cs L (t + 1) = psI cs L t + sg (L.getD t ([], 0)).2 * chi cs (L.getD t ([], 0)).1 := by
  unfold psI
  rw [List.take_succ_eq_append_getElem ht, List.map_append, List.sum_append]
  simp [List.getD, ht]
theorem psI_bd {cs : List Nat} {L : List (List Int × Nat)} (h : ∀ s ∈ L, (chi cs s.1).natAbs ≤ 12 ^ cs.length) (t : Nat) (hL : L.length ≤ 12) : (psI cs L t).natAbs ≤ 12 * 12 ^ cs.length := by
  unfold psI
  refine Nat.le_trans (sum_bd (12 ^ cs.length) _ fun z hz => ?_) (Nat.mul_le_mul_right _ (by rw [List.length_map, List.length_take]; omega))
  obtain ⟨s, hs, rfl⟩ := List.mem_map.1 hz
  rw [sg_abs]; exact h s (List.mem_of_mem_take hs)
theorem pow12 {m : Nat} (h : m ≤ 11) : 12 ^ m ≤ 743008370688 := Nat.le_trans (Nat.pow_le_pow_right (by omega) h) (by decide)

set_option maxHeartbeats 16000000 in
set_option maxRecDepth 100000 in
theorem char_at : ∀ (cs : List Int) (a ac : Option Addr) (n nc cap cc : Nat) (zs : List Int) (w : World), Shows w a zs → n = zs.length → IsPt zs → zs.length ≤ 12 → Shows w ac cs → nc = cs.length → nc ≤ cc → (∀ z ∈ cs, 1 ≤ z ∧ z ≤ 40) → cs.length ≤ 12 →
    Calls Try.prog 27 #[.slice a n cap, .slice ac nc cc] w fun e w' => e = .returned (.int .i64 (chi (natL cs) zs)) ∧ Below w.heap.size w w'
  | [], a, ac, n, nc, cap, cc, zs, w, _, _, _, _, _, hnc, _, _, _ => by
    have h0 : nc = 0 := hnc
    subst h0
    clear hnc
    go_enter Try.func27, Try.ntmps27
    go_wp2
    go_ret
    exact ⟨rfl, Below.refl _ _⟩
  | c :: cs, a, ac, n, nc, cap, cc, zs, w, hs, hn, hp, h12, hsc, hnc, hcc, hcr, hcl => by
    have hIH := char_at cs
    have HIH : Hid (∀ (a ac : Option Addr) (n nc cap cc : Nat) (zs : List Int) (w : World), Shows w a zs → n = zs.length → IsPt zs → zs.length ≤ 12 → Shows w ac cs → nc = cs.length → nc ≤ cc → (∀ z ∈ cs, 1 ≤ z ∧ z ≤ 40) → cs.length ≤ 12 → Calls Try.prog 27 #[.slice a n cap, .slice ac nc cc] w fun e w' => e = .returned (.int .i64 (chi (natL cs) zs)) ∧ Below w.heap.size w w') := hIH
    clear hIH
    obtain ⟨m, HM⟩ : ∃ m, Hid (m = cs.length) := ⟨_, rfl⟩
    have hncm : nc = m + 1 := by rw [hnc, HM.out]; rfl
    have hm11 : m ≤ 11 := by rw [HM.out]; rw [List.length_cons] at hcl; omega
    subst hncm
    obtain ⟨b, off, z, e1, HZ, -, -, hc0⟩ := hsc.elem (k := 0) (by simp)
    subst e1
    rw [Nat.add_zero] at hc0
    obtain ⟨k, hk⟩ : ∃ k : Nat, z = (k : Int) := ⟨z.toNat, by have := hcr c (by simp); have := HZ.out; simp [List.getD] at this; omega⟩
    subst hk
    have HKc : Hid (c = (k : Int)) := by show _ = _; have := HZ.out; simp [List.getD] at this; exact this.symm
    have hkb : 1 ≤ k ∧ k ≤ 40 := by have h1 := hcr c (by simp); rw [HKc.out] at h1; omega
    have HSt : Hid (∀ W, Below w.heap.size w W → Calls Try.prog 4 #[.slice a n cap, .int .i64 (k : Int)] W fun e w' => ∃ v, e = .returned (.tuple #[v, .int .i64 0]) ∧ StpR zs k W w' v) := fun W hW => Strips_ok a n cap k zs W (hs.below hW) hn hp hkb.1 (by omega)
    have HStw := hid_w (HSt.out w (Below.refl _ _))
    have HSc : Hid (Shows w (some ⟨b, off, none⟩) (c :: cs)) := hsc
    have HP : Hid (IsPt zs) := hp
    have H12 : Hid (zs.length ≤ 12) := h12
    have HCr : Hid (∀ z ∈ cs, 1 ≤ z ∧ z ≤ 40) := fun z hz => hcr z (by simp [hz])
    have hm1b : ((m + 1 : Nat) : Int) ≤ 12 := by omega
    have hm0 : (((m + 1 : Nat) : Int) == 0) = false := by rw [beq_eq_false_iff_ne]; omega
    obtain ⟨nc, HNc⟩ : ∃ nc, Hid (nc = m + 1) := ⟨_, rfl⟩
    rw [← HNc.out] at hcc hm1b hm0 ⊢
    have hnc0 : (0 : Int) < (nc : Int) := by have := HNc.out; omega
    have hnc1 : (1 : Int) ≤ (nc : Int) := by omega
    have hncs : (nc : Int) - 1 = (m : Int) := by have := HNc.out; omega
    have hncN : nc - 1 = m := by have := HNc.out; omega
    have hnccc : (nc : Int) ≤ (cc : Int) := by omega
    rw [show natL (c :: cs) = k :: natL cs by unfold natL; rw [List.map_cons, HKc.out]; simp]
    have hcN : (natL cs).length = m := by unfold natL; rw [List.length_map, HM.out]
    have HcN : Hid ((natL cs).length = m) := hcN
    clear hs hn hp h12 hsc hcr hcl HSt hcN hnc
    go_enter Try.func27, Try.ntmps27
    go_wp2_with fail
    refine HStw.out.mono ?_
    rintro e w2 ⟨v, rfl, hR⟩
    obtain ⟨X, hX, hXs, hB2⟩ := hR
    have HX : Hid (Stl w2 w.heap.size v X) := hX
    have HXs : Hid (X.map Prod.snd = stpL zs k) := hXs
    have HB2 : Hid (Below w.heap.size w w2) := hB2
    obtain ⟨va, vc, hvs⟩ := hX.shape
    obtain ⟨L, HL⟩ : ∃ L, Hid (L = X.length) := ⟨_, rfl⟩
    rw [← HL.out] at hvs
    subst hvs
    have HLs : Hid (L = (stpL zs k).length) := by show _ = _; rw [← hXs, List.length_map]; exact HL.out
    have hL12 : L ≤ 12 := by rw [HLs.out]; exact Nat.le_trans (stUp_len HP.out k zs.length) H12.out
    have HBd : Hid (∀ s ∈ stpL zs k, (chi (natL cs) s.1).natAbs ≤ 12 ^ m) := fun s hs => by
      have h1 := stpL_mem HP.out s hs
      rw [← HcN.out]
      exact chi_bd (natL cs) s.1 h1.1 (by have := H12.out; omega)
    clear hX hXs hB2 HStw
    go_wp2
    go_loopw [7, 24] (fun sv iv wr => ∃ (t : Nat) (S : Int), t ≤ L ∧ iv = .int .i64 t ∧ sv = .int .i64 S ∧ Hid (S = psI (natL cs) (stpL zs k) t) ∧ Hid (Below w2.heap.size w2 wr)) (fun _ iv _ => L - (intOf iv).toNat)
    case atStart => exact ⟨0, 0, Nat.zero_le _, rfl, rfl, rfl, Below.refl _ _⟩
    case round =>
      obtain ⟨t, S, ht, rfl, rfl, HS, HBr⟩ := hrel
      obtain ⟨wk, hwk⟩ : ∃ wk, wk = wr := ⟨_, rfl⟩
      subst hwk
      by_cases hlt : t < L
      · have hlt' : (t : Int) < (L : Int) := by omega
        obtain ⟨g, cp, pa, pc, e1, hc1, hc2, hu⟩ := stl_cell (HX.out.below HBr.out) (t := t) (by rw [← HL.out]; exact hlt)
        simp only [Value.slice.injEq] at e1
        obtain ⟨rfl, -, rfl⟩ := e1
        obtain ⟨pt, HPt⟩ : ∃ pt, Hid (pt = (X.getD t stD).2.1) := ⟨_, rfl⟩
        obtain ⟨h, HH⟩ : ∃ h, Hid (h = (X.getD t stD).2.2) := ⟨_, rfl⟩
        rw [← HPt.out] at hc1 hu
        rw [← HH.out] at hc2
        have hXt : t < X.length := by rw [← HL.out]; exact hlt
        have HEt : Hid ((stpL zs k).getD t ([], 0) = (pt, h)) := by
          show _ = _
          rw [← HXs.out, HPt.out, HH.out]
          simp [List.getD, hXt]
        have htl : t < (stpL zs k).length := by rw [← HLs.out]; exact hlt
        have hmem := stpL_mem HP.out _ (getD_memX ([], 0) htl)
        rw [HEt.out] at hmem
        have hm1 : IsPt pt := hmem.1
        have HPp : Hid (IsPt pt ∧ pt.length ≤ zs.length) := ⟨hmem.1, hmem.2.1⟩
        have hh40 : h ≤ 40 := hmem.2.2
        have HSp : Hid (Shows wk pa pt) := by
          have hx := (HX.out.below HBr.out).el _ (getD_memX stD hXt)
          rw [hu, ← HPt.out] at hx
          obtain ⟨a9, c9, e9, hS⟩ := hx.shows (by have := hm1.len; omega) (fun z hz => by have := hm1.range z hz; omega)
          simp only [Value.slice.injEq] at e9
          obtain ⟨rfl, -, -⟩ := e9
          exact hS
        obtain ⟨pn, HPn⟩ : ∃ pn, Hid (pn = pt.length) := ⟨_, rfl⟩
        rw [← HPn.out] at hc1
        obtain ⟨ch, HCh⟩ : ∃ ch, Hid (ch = chi (natL cs) pt) := ⟨_, rfl⟩
        have hchb : ch.natAbs ≤ 743008370688 := by
          have h1 := HBd.out _ (getD_memX ([], 0) htl)
          rw [HEt.out, ← HCh.out] at h1
          exact Nat.le_trans h1 (pow12 hm11)
        have hSb : S.natAbs ≤ 12 * 743008370688 := by
          have h1 := psI_bd (cs := natL cs) (L := stpL zs k) (fun s hs => by rw [HcN.out]; exact HBd.out s hs) t (by rw [← HLs.out]; exact hL12)
          rw [← HS.out, HcN.out] at h1
          exact Nat.le_trans h1 (Nat.mul_le_mul_left _ (pow12 hm11))
        have HNx : Hid (psI (natL cs) (stpL zs k) (t + 1) = S + sg h * ch) := by show _ = _; rw [psI_succ _ htl, HEt.out, HS.out, HCh.out]
        clear hu hmem hm1
        obtain ⟨WB, HWB⟩ : ∃ WB, Hid (WB = wk.alloc (.cells #[.slice pa pn pc, .int .i64 (h : Int)] 30)) := ⟨_, rfl⟩
        have hblk : WB.heap[wk.heap.size]? = some (.cells #[.slice pa pn pc, .int .i64 (h : Int)] 30 (0, 0)) := by rw [HWB.out]; exact heap_alloc_new _ _
        have b0 : WB.cell? ⟨wk.heap.size, 0, none⟩ = some (.slice pa pn pc) := by simp [World.cell?, hblk]
        have b1 : WB.cell? ⟨wk.heap.size, 1, none⟩ = some (.int .i64 (h : Int)) := by simp [World.cell?, hblk]
        have hlB : wk.heap.size < WB.heap.size := by rw [HWB.out]; simp
        have HBB : Hid (Below wk.heap.size wk WB) := by rw [HWB.out]; exact (Below.refl _ _).alloc (Nat.le_refl _) _
        have HCc : Hid (∀ ac2 cc2 W, Shows WB ac2 cs → m ≤ cc2 → (∃ d, W = WB.drewN d) → Calls Try.prog 27 #[.slice pa pn pc, .slice ac2 m cc2] W fun e w' => e = .returned (.int .i64 ch) ∧ w'.cell? ⟨wk.heap.size, 1, none⟩ = some (.int .i64 (h : Int)) ∧ Hid (Below w2.heap.size w2 w')) := fun ac2 cc2 W h1 h2 h3 => by
          obtain ⟨d, rfl⟩ := h3
          have hbd : Below WB.heap.size WB (WB.drewN d) := below_drewN (Below.refl _ _) d
          have hbk : Below wk.heap.size wk (WB.drewN d) := below_drewN HBB.out d
          refine (HIH.out pa ac2 pn m pc cc2 pt (WB.drewN d) (HSp.out.below hbk) HPn.out HPp.out.1 (by have := HPp.out.2; have := H12.out; omega) (h1.below hbd) HM.out h2 HCr.out (by rw [← HM.out]; omega)).mono ?_
          rintro e w' ⟨rfl, hb⟩
          refine ⟨by rw [HCh.out], ?_, HBr.out.trans ((hbk.mono HBr.out.size).trans (hb.mono (Nat.le_trans HBr.out.size hbk.size)))⟩
          rw [hb.cell (p := ⟨wk.heap.size, 1, none⟩) (by show wk.heap.size < WB.heap.size; exact hlB)]
          exact b1
        have HSb : Hid (Shows WB (some ⟨b, off, none⟩) (c :: cs)) := HSc.out.below ((HB2.out.trans (HBr.out.mono HB2.out.size)).trans (HBB.out.mono (Nat.le_trans HB2.out.size HBr.out.size)))
        clear hblk
        go_upto_region 8 with fail
        rw [← HWB.out]
        go_cut [10] (fun s10 wx => s10 = .int .i64 ch ∧ wx.cell? ⟨wk.heap.size, 1, none⟩ = some (.int .i64 (h : Int)) ∧ Hid (Below w2.heap.size w2 wx))
        case first =>
          by_cases hcc1 : cc = 1
          · have hm00 : m = 0 := by omega
            have hcs0 : cs = [] := List.eq_nil_of_length_eq_zero (by rw [← HM.out]; exact hm00)
            subst hcc1
            subst hm00
            have hncc : nc = 1 := by omega
            subst hncc
            have HC1 := hid_w (HCc.out (some ⟨b, off, none⟩) 0 WB.drew (by rw [hcs0]; exact shows_nil) (Nat.le_refl _) ⟨1, rfl⟩)
            clear hcs0
            go_region_with (go_at_call 27; with_reducible (refine HC1.out.mono ?_); rintro e W1 ⟨rfl, k1, k2⟩)
            all_goals (
              go_wp2_with fail
              go_meet
              exact ⟨rfl, k1, k2⟩)
          · have HC1 : Hid (∀ c2, m ≤ c2 → Calls Try.prog 27 #[.slice pa pn pc, .slice (some ⟨b, off + 1, none⟩) m c2] WB.drew fun e w' => e = .returned (.int .i64 ch) ∧ w'.cell? ⟨wk.heap.size, 1, none⟩ = some (.int .i64 (h : Int)) ∧ Hid (Below w2.heap.size w2 w')) := fun c2 h2 => HCc.out (some ⟨b, off + 1, none⟩) c2 WB.drew (shows_tail HSb.out) h2 ⟨1, rfl⟩
            go_region_with (go_at_call 27; refine (HC1.out _ (by omega)).mono ?_; rintro e W1 ⟨rfl, k1, k2⟩)
            all_goals (
              go_wp2_with fail
              go_meet
              exact ⟨rfl, k1, k2⟩)
        case rest =>
          obtain ⟨rfl, hc9, HB9⟩ := hcut
          by_cases hpar : h % 2 = 1
          · have hp1 : ((h : Int) % 2 == 1) = true := by rw [beq_iff_eq]; omega
            have hp2 : (Int.tmod (h : Int) 2 == 1) = true := by rw [beq_iff_eq, Int.tmod_eq_emod_of_nonneg (by omega)]; omega
            have hsg : sg h = -1 := by rw [sg_mod, if_neg (by omega)]
            have hng : IntKind.i64.wrap (-ch) = -ch := by rw [IntWalk.i64_left, IntWalk.wrap64_in]; omega
            have hsm : IntKind.i64.wrap (S + -ch) = S + -ch := by rw [IntWalk.i64_left, IntWalk.wrap64_in]; omega
            have HS2 : Hid (S + -ch = psI (natL cs) (stpL zs k) (t + 1)) := by show _ = _; rw [HNx.out, hsg]; omega
            clear hpar
            go_wp2
            exact ⟨⟨t + 1, _, by omega, by go_num, rfl, HS2, HB9⟩, by simp [intOf]; omega⟩
          · have hp1 : ((h : Int) % 2 == 1) = false := by rw [beq_eq_false_iff_ne]; omega
            have hp2 : (Int.tmod (h : Int) 2 == 1) = false := by rw [beq_eq_false_iff_ne, Int.tmod_eq_emod_of_nonneg (by omega)]; omega
            have hsg : sg h = 1 := by rw [sg_mod, if_pos (by omega)]
            have hsm : IntKind.i64.wrap (S + ch) = S + ch := by rw [IntWalk.i64_left, IntWalk.wrap64_in]; omega
            have HS2 : Hid (S + ch = psI (natL cs) (stpL zs k) (t + 1)) := by show _ = _; rw [HNx.out, hsg]; omega
            clear hpar
            go_wp2
            exact ⟨⟨t + 1, _, by omega, by go_num, rfl, HS2, HB9⟩, by simp [intOf]; omega⟩
      · obtain rfl : t = L := by omega
        have hlt' : ¬ ((t : Int) < (t : Int)) := by omega
        have HFin : Hid (S = chi (k :: natL cs) zs) := by
          show _ = _
          rw [HS.out, HLs.out]
          unfold psI
          rw [List.take_length]; rfl
        have HBf : Hid (Below w.heap.size w wk) := HB2.out.trans (HBr.out.mono HB2.out.size)
        go_wp2
        go_ret
        exact ⟨by rw [← HFin.out]; rfl, HBf.out⟩

end Go.Proofs.Ytheebpjkjclgbaa
