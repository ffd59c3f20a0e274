/-
  The walk of the law PermsGroup: for every four slices that can be read it returns true; nothing old has turned.
-/
import Derived.Test.YtnjbkiegeielhabHMath
namespace Go.Proofs.Ytnjbkiegeielhab
open Go.RowKit

theorem inv231 : PermR invL [2, 3, 1] 0 [3, 1, 2] := ⟨by decide, by decide⟩

theorem Word_at (a : Option Addr) (n cap : Nat) (zs : List Int) (w : World) (hs : Shows w a zs) (hn : n = zs.length) (hp : IsPerm zs) :
    Calls Try.prog 22 #[.slice a n cap] w fun e w' => ∃ v ws, e = .returned (.tuple #[v, .int .i64 0]) ∧ WrdR zs ws ∧ Owns w' w.heap.size v ws ∧ Below w.heap.size w w' := by
  subst hn; exact Word_ok a cap zs w hs hp

/-- A list of small numbers. -/
def Sml (l : List Int) : Prop := l.length ≤ 1600 ∧ ∀ z ∈ l, 0 ≤ z ∧ z ≤ 1000
theorem Sml.len {l : List Int} (h : Sml l) : l.length ≤ 17592186044416 := by have := h.1; omega
theorem Sml.wf {l : List Int} (h : Sml l) : ∀ z ∈ l, -9223372036854775808 ≤ z ∧ z ≤ 9223372036854775807 := small_wf h.2
theorem Sml.perm {l : List Int} (h : IsPerm l) : Sml l := ⟨by have := h.len; omega, fun z hz => by have := h.low z hz; have := h.high z hz; have := h.len; omega⟩
theorem Sml.nil : Sml [] := ⟨by simp, fun z h => by simp at h⟩

/-- What the law needs to know of p, q, r where p is a permutation. -/
structure GrpR (ps qs rs : List Int) (c1 c2 : Int) (X Y : List Int) : Prop where
  t1 : TimR ps qs c1 X
  t2 : TimR qs rs c2 Y
  s1 : Sml X
  s2 : Sml Y
  ok : c1 = 0 → c2 = 0 → IsPerm qs ∧ TimR X rs 0 (timesL X rs) ∧ TimR ps Y 0 (timesL X rs) ∧ PermR invL X 0 (invL X) ∧ PermR invL qs 0 (invL qs) ∧ TimR (invL qs) (invL ps) 0 (invL X) ∧ Sml (timesL X rs) ∧ Sml (invL X) ∧ Sml (invL qs)

set_option maxHeartbeats 8000000 in
set_option maxRecDepth 100000 in
theorem grp_no (a b d f : Option Addr) (ca cb cd cf : Nat) (ps qs rs cs : List Int) (w : World) (hp : Shows w a ps) (hq : Shows w b qs) (hr : Shows w d rs) (hk : Shows w f cs) (hca : ps.length ≤ ca) (fl : List Int) (cc : Int) (hc : (cc != 0) = true) (r1 : Hid (fcC cs = cc)) (r2 : Hid (fcL cs = fl)) (hfl : Hid (Sml fl))
    (c0 : Int) (A : List Int) (hA : Hid (PermR invL ps c0 A)) (hAs : Hid (Sml A)) (HOK : Hid (c0 = 0 → IsPerm ps ∧ A = invL ps ∧ ∃ c1 c2 X Y, GrpR ps qs rs c1 c2 X Y)) (HNA : Hid (c0 ≠ 0 → A = [])) :
    Calls Try.prog 6 #[.slice a ps.length ca, .slice b qs.length cb, .slice d rs.length cd, .slice f cs.length cf] w fun e w' => e = .returned (.bool true) ∧ Below w.heap.size w w' := by
  go_enter Try.func6, Try.ntmps6
  go_wp2_with fail
  refine (Inverse_at _ _ _ _ (shows_lit w [2, 3, 1] _ rfl (by decide) (by decide)) rfl inv231).mono ?_
  rintro e w1 ⟨v, rfl, hown, hb⟩
  have hbx : Below w.heap.size w w1 := ((Below.refl _ _).alloc (Nat.le_refl _) _).trans (hb.mono (by simp))
  have HB1 : Hid (Below w.heap.size w w1) := hbx
  replace hp := hp.below hbx
  replace hq := hq.below hbx
  replace hr := hr.below hbx
  replace hk := hk.below hbx
  obtain ⟨a1, n1, c1, rfl, S1, hn1, hc1⟩ := hown.opened (by decide) (by decide)
  have HN1 : Hid (n1 = [(3 : Int), 1, 2].length) := hn1
  have HC1 : Hid (n1 ≤ c1) := hc1
  clear hown hn1 hc1
  clear hb hbx
  go_wp2_with fail
  refine (Same_at _ _ _ _ _ _ [3, 1, 2] [3, 1, 2] _ (S1.below ((Below.refl _ _).alloc (Nat.le_refl _) _)) (shows_lit w1 [3, 1, 2] _ rfl (by decide) (by decide)) HN1.out rfl true (by decide)).mono ?_
  rintro e w2 ⟨rfl, hd⟩
  have hb : Below w1.heap.size w1 w2 := by
    obtain ⟨n, rfl⟩ := hd
    exact below_drewN ((Below.refl _ _).alloc (Nat.le_refl _) _) n
  have HB2 : Hid (Below w.heap.size w w2) := HB1.out.trans (hb.mono HB1.out.size)
  clear S1
  replace hp := hp.below hb
  replace hq := hq.below hb
  replace hr := hr.below hb
  replace hk := hk.below hb
  clear hb hd
  go_wp2_with fail
  refine (FromCode_at _ _ _ cs fl cc _ hk rfl r1.out r2.out).mono ?_
  rintro e w3 ⟨v, rfl, hown, hb⟩
  have HB3 : Hid (Below w.heap.size w w3) := HB2.out.trans (hb.mono HB2.out.size)
  replace hp := hp.below hb
  replace hq := hq.below hb
  replace hr := hr.below hb
  replace hk := hk.below hb
  obtain ⟨a3, n3, c3, rfl, S3, hn3, hc3⟩ := hown.opened hfl.out.len hfl.out.wf
  have HN3 : Hid (n3 = fl.length) := hn3
  have HC3 : Hid (n3 ≤ c3) := hc3
  clear hown hn3 hc3
  clear hb
  clear S3 hk
  go_wp2_with fail
  refine (Inverse_at _ _ _ _ hp rfl hA.out).mono ?_
  rintro e w4 ⟨v, rfl, hown, hb⟩
  have HB4 : Hid (Below w.heap.size w w4) := HB3.out.trans (hb.mono HB3.out.size)
  replace hp := hp.below hb
  replace hq := hq.below hb
  replace hr := hr.below hb
  obtain ⟨a4, n4, c4, rfl, S4, hn4, hc4⟩ := hown.opened hAs.out.len hAs.out.wf
  have HN4 : Hid (n4 = A.length) := hn4
  have HC4 : Hid (n4 ≤ c4) := hc4
  clear hown hn4 hc4
  clear hb
  by_cases h0 : c0 = 0
  · subst h0
    obtain ⟨hperm, hAe, c1, c2, X, Y, hG⟩ := HOK.out rfl
    have HP : Hid (IsPerm ps) := hperm
    have HG : Hid (GrpR ps qs rs c1 c2 X Y) := hG
    have h40 := hperm.len
    have HAp : Hid (IsPerm A) := by rw [hAe]; exact (invL_inv hperm).perm hperm
    have HAe : Hid (A = invL ps) := hAe
    have HAl : Hid (A.length = ps.length) := by rw [hAe]; exact invL_length ps
    obtain ⟨N, hN⟩ : ∃ N, N = wrongs ps := ⟨_, rfl⟩
    have hN16 : N ≤ 1600 := by rw [hN]; exact wrongs_small h40
    have HM1 : Hid (MeasR ps 0 N (major ps.length ps) (desc ps.length ps)) := ⟨pchk_ok.2 hperm, fun _ => ⟨hN, rfl, rfl⟩, fun h => absurd rfl h⟩
    have HM2 : Hid (MeasR A 0 N (major A.length A) (desc A.length A)) := ⟨pchk_ok.2 HAp.out, fun _ => ⟨by rw [hN, hAe, wrongs_inv hperm], rfl, rfl⟩, fun h => absurd rfl h⟩
    have HSC : Hid (sum (codeL ps) = (N : Nat)) := by rw [hN]; exact sum_code ps
    have HCs : Hid (Sml (codeL ps)) := ⟨by rw [codeL_length]; omega, codeL_small h40⟩
    have HPs : Hid (Sml ps) := Sml.perm hperm
    have HNw : Hid (N = wrongs ps) := hN
    clear hperm hAe hG hN
    go_wp2_with fail
    refine (Measure_at _ _ _ _ hp rfl hca HM1.out).mono ?_
    rintro e w5 ⟨v1, rfl, -, hb⟩
    have HB5 : Hid (Below w.heap.size w w5) := HB4.out.trans (hb.mono HB4.out.size)
    replace hp := hp.below hb
    replace hq := hq.below hb
    replace hr := hr.below hb
    replace S4 := S4.below hb
    clear hb
    go_wp2_with fail
    refine (Measure_at _ _ _ _ S4 HN4.out HC4.out HM2.out).mono ?_
    rintro e w6 ⟨v2, rfl, -, hb⟩
    have HB6 : Hid (Below w.heap.size w w6) := HB5.out.trans (hb.mono HB5.out.size)
    replace hp := hp.below hb
    replace hq := hq.below hb
    replace hr := hr.below hb
    replace S4 := S4.below hb
    clear hb
    go_wp2_with fail
    refine (Word_at _ _ _ _ _ hp rfl HP.out).mono ?_
    rintro e w7 ⟨v, ws, rfl, hW, hown, hb⟩
    have HB7 : Hid (Below w.heap.size w w7) := HB6.out.trans (hb.mono HB6.out.size)
    replace hp := hp.below hb
    replace hq := hq.below hb
    replace hr := hr.below hb
    replace S4 := S4.below hb
    have HW : Hid (WrdR ps ws) := hW
    have HWs : Hid (Sml ws) := ⟨by rw [hW.2.1, ← HNw.out]; exact hN16, fun i hi => by have := hW.2.2 i hi; omega⟩
    have HWl : Hid (ws.length = N) := by rw [HNw.out]; exact hW.2.1
    have HPc : Hid (prodC (ps.length : Int) ws = 0) := by
      show _ = _; unfold prodC; rw [if_neg (by omega), if_pos (okWord_iff.2 hW.2.2)]
    have HPl : Hid (prodL (ps.length : Int) ws = ps) := by
      show _ = _; unfold prodL; rw [HPc.out, if_pos rfl, Int.toNat_natCast]; exact hW.1
    obtain ⟨a7, n7, c7, rfl, S7, hn7, hc7⟩ := hown.opened HWs.out.len HWs.out.wf
    rw [HWl.out] at hn7
    replace hn7 := hn7.symm
    subst hn7
    clear hown hb hW hc7
    go_wp2_with fail
    refine (Product_at _ (by omega) (by omega) _ _ _ ws ps 0 _ S7 HWl.out.symm HPc.out HPl.out).mono ?_
    rintro e w8 ⟨v, rfl, hown, hb⟩
    have HB8 : Hid (Below w.heap.size w w8) := HB7.out.trans (hb.mono HB7.out.size)
    replace hp := hp.below hb
    replace hq := hq.below hb
    replace hr := hr.below hb
    replace S4 := S4.below hb
    replace S7 := S7.below hb
    obtain ⟨a8, n8, c8, rfl, S8, hn8, hc8⟩ := hown.opened HPs.out.len HPs.out.wf
    have HN8 : Hid (n8 = ps.length) := hn8
    have HC8 : Hid (n8 ≤ c8) := hc8
    clear hown hn8 hc8
    clear hb
    clear S7
    go_wp2_with fail
    refine (Code_at _ _ _ _ hp rfl hca (PermR.ok HP.out)).mono ?_
    rintro e w9 ⟨v, rfl, hown, hb⟩
    have HB9 : Hid (Below w.heap.size w w9) := HB8.out.trans (hb.mono HB8.out.size)
    replace hp := hp.below hb
    replace hq := hq.below hb
    replace hr := hr.below hb
    replace S4 := S4.below hb
    replace S8 := S8.below hb
    obtain ⟨a9, n9, c9, rfl, S9, hn9, hc9⟩ := hown.opened HCs.out.len HCs.out.wf
    have HN9 : Hid (n9 = (codeL ps).length) := hn9
    have HC9 : Hid (n9 ≤ c9) := hc9
    clear hown hn9 hc9
    clear hb
    go_wp2_with fail
    refine (FromCode_at _ _ _ (codeL ps) ps 0 _ S9 HN9.out (fc_code HP.out).1 (fc_code HP.out).2).mono ?_
    rintro e w10 ⟨v, rfl, hown, hb⟩
    have HB10 : Hid (Below w.heap.size w w10) := HB9.out.trans (hb.mono HB9.out.size)
    replace hp := hp.below hb
    replace hq := hq.below hb
    replace hr := hr.below hb
    replace S4 := S4.below hb
    replace S8 := S8.below hb
    replace S9 := S9.below hb
    obtain ⟨a10, n10, c10, rfl, S10, hn10, hc10⟩ := hown.opened HPs.out.len HPs.out.wf
    have HN10 : Hid (n10 = ps.length) := hn10
    have HC10 : Hid (n10 ≤ c10) := hc10
    clear hown hn10 hc10
    clear hb
    have hnb : ((N : Int) != (N : Int)) = false := by simp
    go_wp2_with fail
    refine (Same_at _ _ _ _ _ _ ps ps _ S8 hp HN8.out rfl true (by simp)).mono ?_
    rintro e w11 ⟨rfl, hd⟩
    have hb : Below w10.heap.size w10 w11 := by
      obtain ⟨n, rfl⟩ := hd
      exact below_drewN (Below.refl _ _) n
    have HB11 : Hid (Below w.heap.size w w11) := HB10.out.trans (hb.mono HB10.out.size)
    replace hp := hp.below hb
    replace hq := hq.below hb
    replace hr := hr.below hb
    replace S4 := S4.below hb
    replace S8 := S8.below hb
    replace S9 := S9.below hb
    replace S10 := S10.below hb
    clear hb hd
    go_wp2_with fail
    refine (Same_at _ _ _ _ _ _ ps ps _ S10 hp HN10.out rfl true (by simp)).mono ?_
    rintro e w12 ⟨rfl, hd⟩
    have hb : Below w11.heap.size w11 w12 := by
      obtain ⟨n, rfl⟩ := hd
      exact below_drewN (Below.refl _ _) n
    have HB12 : Hid (Below w.heap.size w w12) := HB11.out.trans (hb.mono HB11.out.size)
    replace hp := hp.below hb
    replace hq := hq.below hb
    replace hr := hr.below hb
    replace S4 := S4.below hb
    replace S8 := S8.below hb
    replace S9 := S9.below hb
    replace S10 := S10.below hb
    clear hb hd
    clear S8 S10
    go_wp2_with fail
    refine (Size_at _ _ _ (codeL ps) _ S9 HCs.out.2 HN9.out _ HSC.out).mono ?_
    rintro e w13 ⟨rfl, rfl⟩
    clear S9
    go_wp2_with fail
    refine (Times_at _ _ _ _ _ _ _ hp hq rfl rfl HG.out.t1).mono ?_
    rintro e w14 ⟨v, rfl, hown, hb⟩
    have HB14 : Hid (Below w.heap.size w w14) := HB12.out.trans (hb.mono HB12.out.size)
    replace hp := hp.below hb
    replace hq := hq.below hb
    replace hr := hr.below hb
    replace S4 := S4.below hb
    obtain ⟨a14, n14, c14, rfl, S14, hn14, hc14⟩ := hown.opened HG.out.s1.len HG.out.s1.wf
    have HN14 : Hid (n14 = X.length) := hn14
    have HC14 : Hid (n14 ≤ c14) := hc14
    clear hown hn14 hc14
    clear hb
    go_wp2_with fail
    refine (Times_at _ _ _ _ _ _ _ hq hr rfl rfl HG.out.t2).mono ?_
    rintro e w15 ⟨v, rfl, hown, hb⟩
    have HB15 : Hid (Below w.heap.size w w15) := HB14.out.trans (hb.mono HB14.out.size)
    replace hp := hp.below hb
    replace hq := hq.below hb
    replace hr := hr.below hb
    replace S4 := S4.below hb
    replace S14 := S14.below hb
    obtain ⟨a15, n15, c15, rfl, S15, hn15, hc15⟩ := hown.opened HG.out.s2.len HG.out.s2.wf
    have HN15 : Hid (n15 = Y.length) := hn15
    have HC15 : Hid (n15 ≤ c15) := hc15
    clear hown hn15 hc15
    clear hb
    by_cases h1 : c1 = 0
    · by_cases h2 : c2 = 0
      · subst h1; subst h2
        obtain ⟨g0, g1, g2, g3, g4, g5, g6, g7, g8⟩ := HG.out.ok rfl rfl
        have G1 : Hid (TimR X rs 0 (timesL X rs)) := g1
        have G2 : Hid (TimR ps Y 0 (timesL X rs)) := g2
        have G3 : Hid (PermR invL X 0 (invL X)) := g3
        have G4 : Hid (PermR invL qs 0 (invL qs)) := g4
        have G5 : Hid (TimR (invL qs) A 0 (invL X)) := by rw [HAe.out]; exact g5
        have G6 : Hid (Sml (timesL X rs)) := g6
        have G7 : Hid (Sml (invL X)) := g7
        have G8 : Hid (Sml (invL qs)) := g8
        clear g0 g1 g2 g3 g4 g5 g6 g7 g8
        go_wp2_with fail
        refine (Times_at _ _ _ _ _ _ _ S14 hr HN14.out rfl G1.out).mono ?_
        rintro e w16 ⟨v, rfl, hown, hb⟩
        have HB16 : Hid (Below w.heap.size w w16) := HB15.out.trans (hb.mono HB15.out.size)
        replace hp := hp.below hb
        replace hq := hq.below hb
        replace hr := hr.below hb
        replace S4 := S4.below hb
        replace S14 := S14.below hb
        replace S15 := S15.below hb
        obtain ⟨a16, n16, c16, rfl, S16, hn16, hc16⟩ := hown.opened G6.out.len G6.out.wf
        have HN16 : Hid (n16 = (timesL X rs).length) := hn16
        have HC16 : Hid (n16 ≤ c16) := hc16
        clear hown hn16 hc16
        clear hb
        go_wp2_with fail
        refine (Times_at _ _ _ _ _ _ _ hp S15 rfl HN15.out G2.out).mono ?_
        rintro e w17 ⟨v, rfl, hown, hb⟩
        have HB17 : Hid (Below w.heap.size w w17) := HB16.out.trans (hb.mono HB16.out.size)
        replace hp := hp.below hb
        replace hq := hq.below hb
        replace hr := hr.below hb
        replace S4 := S4.below hb
        replace S14 := S14.below hb
        replace S15 := S15.below hb
        replace S16 := S16.below hb
        obtain ⟨a17, n17, c17, rfl, S17, hn17, hc17⟩ := hown.opened G6.out.len G6.out.wf
        have HN17 : Hid (n17 = (timesL X rs).length) := hn17
        have HC17 : Hid (n17 ≤ c17) := hc17
        clear hown hn17 hc17
        clear hb
        go_wp2_with fail
        refine (Inverse_at _ _ _ _ S14 HN14.out G3.out).mono ?_
        rintro e w18 ⟨v, rfl, hown, hb⟩
        have HB18 : Hid (Below w.heap.size w w18) := HB17.out.trans (hb.mono HB17.out.size)
        replace hp := hp.below hb
        replace hq := hq.below hb
        replace hr := hr.below hb
        replace S4 := S4.below hb
        replace S14 := S14.below hb
        replace S15 := S15.below hb
        replace S16 := S16.below hb
        replace S17 := S17.below hb
        obtain ⟨a18, n18, c18, rfl, S18, hn18, hc18⟩ := hown.opened G7.out.len G7.out.wf
        have HN18 : Hid (n18 = (invL X).length) := hn18
        have HC18 : Hid (n18 ≤ c18) := hc18
        clear hown hn18 hc18
        clear hb
        go_wp2_with fail
        refine (Inverse_at _ _ _ _ hq rfl G4.out).mono ?_
        rintro e w19 ⟨v, rfl, hown, hb⟩
        have HB19 : Hid (Below w.heap.size w w19) := HB18.out.trans (hb.mono HB18.out.size)
        replace hp := hp.below hb
        replace hq := hq.below hb
        replace hr := hr.below hb
        replace S4 := S4.below hb
        replace S14 := S14.below hb
        replace S15 := S15.below hb
        replace S16 := S16.below hb
        replace S17 := S17.below hb
        replace S18 := S18.below hb
        obtain ⟨a19, n19, c19, rfl, S19, hn19, hc19⟩ := hown.opened G8.out.len G8.out.wf
        have HN19 : Hid (n19 = (invL qs).length) := hn19
        have HC19 : Hid (n19 ≤ c19) := hc19
        clear hown hn19 hc19
        clear hb
        go_wp2_with fail
        refine (Times_at _ _ _ _ _ _ _ S19 S4 HN19.out HN4.out G5.out).mono ?_
        rintro e w20 ⟨v, rfl, hown, hb⟩
        have HB20 : Hid (Below w.heap.size w w20) := HB19.out.trans (hb.mono HB19.out.size)
        replace hp := hp.below hb
        replace hq := hq.below hb
        replace hr := hr.below hb
        replace S4 := S4.below hb
        replace S14 := S14.below hb
        replace S15 := S15.below hb
        replace S16 := S16.below hb
        replace S17 := S17.below hb
        replace S18 := S18.below hb
        replace S19 := S19.below hb
        obtain ⟨a20, n20, c20, rfl, S20, hn20, hc20⟩ := hown.opened G7.out.len G7.out.wf
        have HN20 : Hid (n20 = (invL X).length) := hn20
        have HC20 : Hid (n20 ≤ c20) := hc20
        clear hown hn20 hc20
        clear hb
        go_wp2_with fail
        refine (Same_at _ _ _ _ _ _ (timesL X rs) (timesL X rs) _ S16 S17 HN16.out HN17.out true (by simp)).mono ?_
        rintro e w21 ⟨rfl, hd⟩
        have hb : Below w20.heap.size w20 w21 := by
          obtain ⟨n, rfl⟩ := hd
          exact below_drewN (Below.refl _ _) n
        have HB21 : Hid (Below w.heap.size w w21) := HB20.out.trans (hb.mono HB20.out.size)
        replace hp := hp.below hb
        replace hq := hq.below hb
        replace hr := hr.below hb
        replace S4 := S4.below hb
        replace S14 := S14.below hb
        replace S15 := S15.below hb
        replace S16 := S16.below hb
        replace S17 := S17.below hb
        replace S18 := S18.below hb
        replace S19 := S19.below hb
        replace S20 := S20.below hb
        clear hb hd
        go_wp2_with fail
        refine (Same_at _ _ _ _ _ _ (invL X) (invL X) _ S18 S20 HN18.out HN20.out true (by simp)).mono ?_
        rintro e w22 ⟨rfl, hd⟩
        have hb : Below w21.heap.size w21 w22 := by
          obtain ⟨n, rfl⟩ := hd
          exact below_drewN (Below.refl _ _) n
        have HB22 : Hid (Below w.heap.size w w22) := HB21.out.trans (hb.mono HB21.out.size)
        replace hp := hp.below hb
        replace hq := hq.below hb
        replace hr := hr.below hb
        replace S4 := S4.below hb
        replace S14 := S14.below hb
        replace S15 := S15.below hb
        replace S16 := S16.below hb
        replace S17 := S17.below hb
        replace S18 := S18.below hb
        replace S19 := S19.below hb
        replace S20 := S20.below hb
        clear hb hd
        go_wp2_with fail
        go_ret
        exact ⟨rfl, HB22.out⟩
      · have hc2 : (c2 != 0) = true := bne_iff_ne.2 h2
        subst h1
        clear h2
        go_wp2_with fail
        go_ret
        exact ⟨rfl, HB15.out⟩
    · have hc1 : (c1 != 0) = true := bne_iff_ne.2 h1
      clear h1
      go_wp2_with fail
      go_ret
      exact ⟨rfl, HB15.out⟩
  · have hc0 : (c0 != 0) = true := bne_iff_ne.2 h0
    obtain rfl := HNA.out h0
    have hz := HN4.out
    simp only [List.length_nil] at hz
    subst hz
    clear h0
    go_wp2
    go_ret
    exact ⟨rfl, HB4.out⟩

set_option maxHeartbeats 8000000 in
set_option maxRecDepth 100000 in
theorem grp_fc (a b d f : Option Addr) (ca cb cd cf : Nat) (ps qs rs cs : List Int) (w : World) (hp : Shows w a ps) (hq : Shows w b qs) (hr : Shows w d rs) (hk : Shows w f cs) (hca : ps.length ≤ ca) (fl : List Int)  (r1 : Hid (fcC cs = 0)) (r2 : Hid (fcL cs = fl)) (hfl : Hid (Sml fl)) (r3 : Hid (PermR codeL fl 0 cs))
    (c0 : Int) (A : List Int) (hA : Hid (PermR invL ps c0 A)) (hAs : Hid (Sml A)) (HOK : Hid (c0 = 0 → IsPerm ps ∧ A = invL ps ∧ ∃ c1 c2 X Y, GrpR ps qs rs c1 c2 X Y)) (HNA : Hid (c0 ≠ 0 → A = [])) :
    Calls Try.prog 6 #[.slice a ps.length ca, .slice b qs.length cb, .slice d rs.length cd, .slice f cs.length cf] w fun e w' => e = .returned (.bool true) ∧ Below w.heap.size w w' := by
  go_enter Try.func6, Try.ntmps6
  go_wp2_with fail
  refine (Inverse_at _ _ _ _ (shows_lit w [2, 3, 1] _ rfl (by decide) (by decide)) rfl inv231).mono ?_
  rintro e w1 ⟨v, rfl, hown, hb⟩
  have hbx : Below w.heap.size w w1 := ((Below.refl _ _).alloc (Nat.le_refl _) _).trans (hb.mono (by simp))
  have HB1 : Hid (Below w.heap.size w w1) := hbx
  replace hp := hp.below hbx
  replace hq := hq.below hbx
  replace hr := hr.below hbx
  replace hk := hk.below hbx
  obtain ⟨a1, n1, c1, rfl, S1, hn1, hc1⟩ := hown.opened (by decide) (by decide)
  have HN1 : Hid (n1 = [(3 : Int), 1, 2].length) := hn1
  have HC1 : Hid (n1 ≤ c1) := hc1
  clear hown hn1 hc1
  clear hb hbx
  go_wp2_with fail
  refine (Same_at _ _ _ _ _ _ [3, 1, 2] [3, 1, 2] _ (S1.below ((Below.refl _ _).alloc (Nat.le_refl _) _)) (shows_lit w1 [3, 1, 2] _ rfl (by decide) (by decide)) HN1.out rfl true (by decide)).mono ?_
  rintro e w2 ⟨rfl, hd⟩
  have hb : Below w1.heap.size w1 w2 := by
    obtain ⟨n, rfl⟩ := hd
    exact below_drewN ((Below.refl _ _).alloc (Nat.le_refl _) _) n
  have HB2 : Hid (Below w.heap.size w w2) := HB1.out.trans (hb.mono HB1.out.size)
  clear S1
  replace hp := hp.below hb
  replace hq := hq.below hb
  replace hr := hr.below hb
  replace hk := hk.below hb
  clear hb hd
  go_wp2_with fail
  refine (FromCode_at _ _ _ cs fl 0 _ hk rfl r1.out r2.out).mono ?_
  rintro e w3 ⟨v, rfl, hown, hb⟩
  have HB3 : Hid (Below w.heap.size w w3) := HB2.out.trans (hb.mono HB2.out.size)
  replace hp := hp.below hb
  replace hq := hq.below hb
  replace hr := hr.below hb
  replace hk := hk.below hb
  obtain ⟨a3, n3, c3, rfl, S3, hn3, hc3⟩ := hown.opened hfl.out.len hfl.out.wf
  have HN3 : Hid (n3 = fl.length) := hn3
  have HC3 : Hid (n3 ≤ c3) := hc3
  clear hown hn3 hc3
  clear hb
  go_wp2_with fail
  refine (Code_at _ _ _ _ S3 HN3.out HC3.out r3.out).mono ?_
  rintro e w4 ⟨v, rfl, hown, hb⟩
  have HB4 : Hid (Below w.heap.size w w4) := HB3.out.trans (hb.mono HB3.out.size)
  replace hp := hp.below hb
  replace hq := hq.below hb
  replace hr := hr.below hb
  replace hk := hk.below hb
  replace S3 := S3.below hb
  obtain ⟨a4, n4, c4, rfl, S4, hn4, hc4⟩ := hown.opened hk.len hk.wf
  have HN4 : Hid (n4 = cs.length) := hn4
  have HC4 : Hid (n4 ≤ c4) := hc4
  clear hown hn4 hc4
  clear hb
  go_wp2_with fail
  refine (Same_at _ _ _ _ _ _ cs cs _ S4 hk HN4.out rfl true (by simp)).mono ?_
  rintro e w5 ⟨rfl, hd⟩
  have hb : Below w4.heap.size w4 w5 := by
    obtain ⟨n, rfl⟩ := hd
    exact below_drewN (Below.refl _ _) n
  have HB5 : Hid (Below w.heap.size w w5) := HB4.out.trans (hb.mono HB4.out.size)
  replace hp := hp.below hb
  replace hq := hq.below hb
  replace hr := hr.below hb
  replace hk := hk.below hb
  replace S3 := S3.below hb
  replace S4 := S4.below hb
  clear hb hd
  clear S4
  clear S3 hk
  go_wp2_with fail
  refine (Inverse_at _ _ _ _ hp rfl hA.out).mono ?_
  rintro e w6 ⟨v, rfl, hown, hb⟩
  have HB6 : Hid (Below w.heap.size w w6) := HB5.out.trans (hb.mono HB5.out.size)
  replace hp := hp.below hb
  replace hq := hq.below hb
  replace hr := hr.below hb
  obtain ⟨a6, n6, c6, rfl, S6, hn6, hc6⟩ := hown.opened hAs.out.len hAs.out.wf
  have HN6 : Hid (n6 = A.length) := hn6
  have HC6 : Hid (n6 ≤ c6) := hc6
  clear hown hn6 hc6
  clear hb
  by_cases h0 : c0 = 0
  · subst h0
    obtain ⟨hperm, hAe, c1, c2, X, Y, hG⟩ := HOK.out rfl
    have HP : Hid (IsPerm ps) := hperm
    have HG : Hid (GrpR ps qs rs c1 c2 X Y) := hG
    have h40 := hperm.len
    have HAp : Hid (IsPerm A) := by rw [hAe]; exact (invL_inv hperm).perm hperm
    have HAe : Hid (A = invL ps) := hAe
    have HAl : Hid (A.length = ps.length) := by rw [hAe]; exact invL_length ps
    obtain ⟨N, hN⟩ : ∃ N, N = wrongs ps := ⟨_, rfl⟩
    have hN16 : N ≤ 1600 := by rw [hN]; exact wrongs_small h40
    have HM1 : Hid (MeasR ps 0 N (major ps.length ps) (desc ps.length ps)) := ⟨pchk_ok.2 hperm, fun _ => ⟨hN, rfl, rfl⟩, fun h => absurd rfl h⟩
    have HM2 : Hid (MeasR A 0 N (major A.length A) (desc A.length A)) := ⟨pchk_ok.2 HAp.out, fun _ => ⟨by rw [hN, hAe, wrongs_inv hperm], rfl, rfl⟩, fun h => absurd rfl h⟩
    have HSC : Hid (sum (codeL ps) = (N : Nat)) := by rw [hN]; exact sum_code ps
    have HCs : Hid (Sml (codeL ps)) := ⟨by rw [codeL_length]; omega, codeL_small h40⟩
    have HPs : Hid (Sml ps) := Sml.perm hperm
    have HNw : Hid (N = wrongs ps) := hN
    clear hperm hAe hG hN
    go_wp2_with fail
    refine (Measure_at _ _ _ _ hp rfl hca HM1.out).mono ?_
    rintro e w7 ⟨v1, rfl, -, hb⟩
    have HB7 : Hid (Below w.heap.size w w7) := HB6.out.trans (hb.mono HB6.out.size)
    replace hp := hp.below hb
    replace hq := hq.below hb
    replace hr := hr.below hb
    replace S6 := S6.below hb
    clear hb
    go_wp2_with fail
    refine (Measure_at _ _ _ _ S6 HN6.out HC6.out HM2.out).mono ?_
    rintro e w8 ⟨v2, rfl, -, hb⟩
    have HB8 : Hid (Below w.heap.size w w8) := HB7.out.trans (hb.mono HB7.out.size)
    replace hp := hp.below hb
    replace hq := hq.below hb
    replace hr := hr.below hb
    replace S6 := S6.below hb
    clear hb
    go_wp2_with fail
    refine (Word_at _ _ _ _ _ hp rfl HP.out).mono ?_
    rintro e w9 ⟨v, ws, rfl, hW, hown, hb⟩
    have HB9 : Hid (Below w.heap.size w w9) := HB8.out.trans (hb.mono HB8.out.size)
    replace hp := hp.below hb
    replace hq := hq.below hb
    replace hr := hr.below hb
    replace S6 := S6.below hb
    have HW : Hid (WrdR ps ws) := hW
    have HWs : Hid (Sml ws) := ⟨by rw [hW.2.1, ← HNw.out]; exact hN16, fun i hi => by have := hW.2.2 i hi; omega⟩
    have HWl : Hid (ws.length = N) := by rw [HNw.out]; exact hW.2.1
    have HPc : Hid (prodC (ps.length : Int) ws = 0) := by
      show _ = _; unfold prodC; rw [if_neg (by omega), if_pos (okWord_iff.2 hW.2.2)]
    have HPl : Hid (prodL (ps.length : Int) ws = ps) := by
      show _ = _; unfold prodL; rw [HPc.out, if_pos rfl, Int.toNat_natCast]; exact hW.1
    obtain ⟨a9, n9, c9, rfl, S9, hn9, hc9⟩ := hown.opened HWs.out.len HWs.out.wf
    rw [HWl.out] at hn9
    replace hn9 := hn9.symm
    subst hn9
    clear hown hb hW hc9
    go_wp2_with fail
    refine (Product_at _ (by omega) (by omega) _ _ _ ws ps 0 _ S9 HWl.out.symm HPc.out HPl.out).mono ?_
    rintro e w10 ⟨v, rfl, hown, hb⟩
    have HB10 : Hid (Below w.heap.size w w10) := HB9.out.trans (hb.mono HB9.out.size)
    replace hp := hp.below hb
    replace hq := hq.below hb
    replace hr := hr.below hb
    replace S6 := S6.below hb
    replace S9 := S9.below hb
    obtain ⟨a10, n10, c10, rfl, S10, hn10, hc10⟩ := hown.opened HPs.out.len HPs.out.wf
    have HN10 : Hid (n10 = ps.length) := hn10
    have HC10 : Hid (n10 ≤ c10) := hc10
    clear hown hn10 hc10
    clear hb
    clear S9
    go_wp2_with fail
    refine (Code_at _ _ _ _ hp rfl hca (PermR.ok HP.out)).mono ?_
    rintro e w11 ⟨v, rfl, hown, hb⟩
    have HB11 : Hid (Below w.heap.size w w11) := HB10.out.trans (hb.mono HB10.out.size)
    replace hp := hp.below hb
    replace hq := hq.below hb
    replace hr := hr.below hb
    replace S6 := S6.below hb
    replace S10 := S10.below hb
    obtain ⟨a11, n11, c11, rfl, S11, hn11, hc11⟩ := hown.opened HCs.out.len HCs.out.wf
    have HN11 : Hid (n11 = (codeL ps).length) := hn11
    have HC11 : Hid (n11 ≤ c11) := hc11
    clear hown hn11 hc11
    clear hb
    go_wp2_with fail
    refine (FromCode_at _ _ _ (codeL ps) ps 0 _ S11 HN11.out (fc_code HP.out).1 (fc_code HP.out).2).mono ?_
    rintro e w12 ⟨v, rfl, hown, hb⟩
    have HB12 : Hid (Below w.heap.size w w12) := HB11.out.trans (hb.mono HB11.out.size)
    replace hp := hp.below hb
    replace hq := hq.below hb
    replace hr := hr.below hb
    replace S6 := S6.below hb
    replace S10 := S10.below hb
    replace S11 := S11.below hb
    obtain ⟨a12, n12, c12, rfl, S12, hn12, hc12⟩ := hown.opened HPs.out.len HPs.out.wf
    have HN12 : Hid (n12 = ps.length) := hn12
    have HC12 : Hid (n12 ≤ c12) := hc12
    clear hown hn12 hc12
    clear hb
    have hnb : ((N : Int) != (N : Int)) = false := by simp
    go_wp2_with fail
    refine (Same_at _ _ _ _ _ _ ps ps _ S10 hp HN10.out rfl true (by simp)).mono ?_
    rintro e w13 ⟨rfl, hd⟩
    have hb : Below w12.heap.size w12 w13 := by
      obtain ⟨n, rfl⟩ := hd
      exact below_drewN (Below.refl _ _) n
    have HB13 : Hid (Below w.heap.size w w13) := HB12.out.trans (hb.mono HB12.out.size)
    replace hp := hp.below hb
    replace hq := hq.below hb
    replace hr := hr.below hb
    replace S6 := S6.below hb
    replace S10 := S10.below hb
    replace S11 := S11.below hb
    replace S12 := S12.below hb
    clear hb hd
    go_wp2_with fail
    refine (Same_at _ _ _ _ _ _ ps ps _ S12 hp HN12.out rfl true (by simp)).mono ?_
    rintro e w14 ⟨rfl, hd⟩
    have hb : Below w13.heap.size w13 w14 := by
      obtain ⟨n, rfl⟩ := hd
      exact below_drewN (Below.refl _ _) n
    have HB14 : Hid (Below w.heap.size w w14) := HB13.out.trans (hb.mono HB13.out.size)
    replace hp := hp.below hb
    replace hq := hq.below hb
    replace hr := hr.below hb
    replace S6 := S6.below hb
    replace S10 := S10.below hb
    replace S11 := S11.below hb
    replace S12 := S12.below hb
    clear hb hd
    clear S10 S12
    go_wp2_with fail
    refine (Size_at _ _ _ (codeL ps) _ S11 HCs.out.2 HN11.out _ HSC.out).mono ?_
    rintro e w15 ⟨rfl, rfl⟩
    clear S11
    go_wp2_with fail
    refine (Times_at _ _ _ _ _ _ _ hp hq rfl rfl HG.out.t1).mono ?_
    rintro e w16 ⟨v, rfl, hown, hb⟩
    have HB16 : Hid (Below w.heap.size w w16) := HB14.out.trans (hb.mono HB14.out.size)
    replace hp := hp.below hb
    replace hq := hq.below hb
    replace hr := hr.below hb
    replace S6 := S6.below hb
    obtain ⟨a16, n16, c16, rfl, S16, hn16, hc16⟩ := hown.opened HG.out.s1.len HG.out.s1.wf
    have HN16 : Hid (n16 = X.length) := hn16
    have HC16 : Hid (n16 ≤ c16) := hc16
    clear hown hn16 hc16
    clear hb
    go_wp2_with fail
    refine (Times_at _ _ _ _ _ _ _ hq hr rfl rfl HG.out.t2).mono ?_
    rintro e w17 ⟨v, rfl, hown, hb⟩
    have HB17 : Hid (Below w.heap.size w w17) := HB16.out.trans (hb.mono HB16.out.size)
    replace hp := hp.below hb
    replace hq := hq.below hb
    replace hr := hr.below hb
    replace S6 := S6.below hb
    replace S16 := S16.below hb
    obtain ⟨a17, n17, c17, rfl, S17, hn17, hc17⟩ := hown.opened HG.out.s2.len HG.out.s2.wf
    have HN17 : Hid (n17 = Y.length) := hn17
    have HC17 : Hid (n17 ≤ c17) := hc17
    clear hown hn17 hc17
    clear hb
    by_cases h1 : c1 = 0
    · by_cases h2 : c2 = 0
      · subst h1; subst h2
        obtain ⟨g0, g1, g2, g3, g4, g5, g6, g7, g8⟩ := HG.out.ok rfl rfl
        have G1 : Hid (TimR X rs 0 (timesL X rs)) := g1
        have G2 : Hid (TimR ps Y 0 (timesL X rs)) := g2
        have G3 : Hid (PermR invL X 0 (invL X)) := g3
        have G4 : Hid (PermR invL qs 0 (invL qs)) := g4
        have G5 : Hid (TimR (invL qs) A 0 (invL X)) := by rw [HAe.out]; exact g5
        have G6 : Hid (Sml (timesL X rs)) := g6
        have G7 : Hid (Sml (invL X)) := g7
        have G8 : Hid (Sml (invL qs)) := g8
        clear g0 g1 g2 g3 g4 g5 g6 g7 g8
        go_wp2_with fail
        refine (Times_at _ _ _ _ _ _ _ S16 hr HN16.out rfl G1.out).mono ?_
        rintro e w18 ⟨v, rfl, hown, hb⟩
        have HB18 : Hid (Below w.heap.size w w18) := HB17.out.trans (hb.mono HB17.out.size)
        replace hp := hp.below hb
        replace hq := hq.below hb
        replace hr := hr.below hb
        replace S6 := S6.below hb
        replace S16 := S16.below hb
        replace S17 := S17.below hb
        obtain ⟨a18, n18, c18, rfl, S18, hn18, hc18⟩ := hown.opened G6.out.len G6.out.wf
        have HN18 : Hid (n18 = (timesL X rs).length) := hn18
        have HC18 : Hid (n18 ≤ c18) := hc18
        clear hown hn18 hc18
        clear hb
        go_wp2_with fail
        refine (Times_at _ _ _ _ _ _ _ hp S17 rfl HN17.out G2.out).mono ?_
        rintro e w19 ⟨v, rfl, hown, hb⟩
        have HB19 : Hid (Below w.heap.size w w19) := HB18.out.trans (hb.mono HB18.out.size)
        replace hp := hp.below hb
        replace hq := hq.below hb
        replace hr := hr.below hb
        replace S6 := S6.below hb
        replace S16 := S16.below hb
        replace S17 := S17.below hb
        replace S18 := S18.below hb
        obtain ⟨a19, n19, c19, rfl, S19, hn19, hc19⟩ := hown.opened G6.out.len G6.out.wf
        have HN19 : Hid (n19 = (timesL X rs).length) := hn19
        have HC19 : Hid (n19 ≤ c19) := hc19
        clear hown hn19 hc19
        clear hb
        go_wp2_with fail
        refine (Inverse_at _ _ _ _ S16 HN16.out G3.out).mono ?_
        rintro e w20 ⟨v, rfl, hown, hb⟩
        have HB20 : Hid (Below w.heap.size w w20) := HB19.out.trans (hb.mono HB19.out.size)
        replace hp := hp.below hb
        replace hq := hq.below hb
        replace hr := hr.below hb
        replace S6 := S6.below hb
        replace S16 := S16.below hb
        replace S17 := S17.below hb
        replace S18 := S18.below hb
        replace S19 := S19.below hb
        obtain ⟨a20, n20, c20, rfl, S20, hn20, hc20⟩ := hown.opened G7.out.len G7.out.wf
        have HN20 : Hid (n20 = (invL X).length) := hn20
        have HC20 : Hid (n20 ≤ c20) := hc20
        clear hown hn20 hc20
        clear hb
        go_wp2_with fail
        refine (Inverse_at _ _ _ _ hq rfl G4.out).mono ?_
        rintro e w21 ⟨v, rfl, hown, hb⟩
        have HB21 : Hid (Below w.heap.size w w21) := HB20.out.trans (hb.mono HB20.out.size)
        replace hp := hp.below hb
        replace hq := hq.below hb
        replace hr := hr.below hb
        replace S6 := S6.below hb
        replace S16 := S16.below hb
        replace S17 := S17.below hb
        replace S18 := S18.below hb
        replace S19 := S19.below hb
        replace S20 := S20.below hb
        obtain ⟨a21, n21, c21, rfl, S21, hn21, hc21⟩ := hown.opened G8.out.len G8.out.wf
        have HN21 : Hid (n21 = (invL qs).length) := hn21
        have HC21 : Hid (n21 ≤ c21) := hc21
        clear hown hn21 hc21
        clear hb
        go_wp2_with fail
        refine (Times_at _ _ _ _ _ _ _ S21 S6 HN21.out HN6.out G5.out).mono ?_
        rintro e w22 ⟨v, rfl, hown, hb⟩
        have HB22 : Hid (Below w.heap.size w w22) := HB21.out.trans (hb.mono HB21.out.size)
        replace hp := hp.below hb
        replace hq := hq.below hb
        replace hr := hr.below hb
        replace S6 := S6.below hb
        replace S16 := S16.below hb
        replace S17 := S17.below hb
        replace S18 := S18.below hb
        replace S19 := S19.below hb
        replace S20 := S20.below hb
        replace S21 := S21.below hb
        obtain ⟨a22, n22, c22, rfl, S22, hn22, hc22⟩ := hown.opened G7.out.len G7.out.wf
        have HN22 : Hid (n22 = (invL X).length) := hn22
        have HC22 : Hid (n22 ≤ c22) := hc22
        clear hown hn22 hc22
        clear hb
        go_wp2_with fail
        refine (Same_at _ _ _ _ _ _ (timesL X rs) (timesL X rs) _ S18 S19 HN18.out HN19.out true (by simp)).mono ?_
        rintro e w23 ⟨rfl, hd⟩
        have hb : Below w22.heap.size w22 w23 := by
          obtain ⟨n, rfl⟩ := hd
          exact below_drewN (Below.refl _ _) n
        have HB23 : Hid (Below w.heap.size w w23) := HB22.out.trans (hb.mono HB22.out.size)
        replace hp := hp.below hb
        replace hq := hq.below hb
        replace hr := hr.below hb
        replace S6 := S6.below hb
        replace S16 := S16.below hb
        replace S17 := S17.below hb
        replace S18 := S18.below hb
        replace S19 := S19.below hb
        replace S20 := S20.below hb
        replace S21 := S21.below hb
        replace S22 := S22.below hb
        clear hb hd
        go_wp2_with fail
        refine (Same_at _ _ _ _ _ _ (invL X) (invL X) _ S20 S22 HN20.out HN22.out true (by simp)).mono ?_
        rintro e w24 ⟨rfl, hd⟩
        have hb : Below w23.heap.size w23 w24 := by
          obtain ⟨n, rfl⟩ := hd
          exact below_drewN (Below.refl _ _) n
        have HB24 : Hid (Below w.heap.size w w24) := HB23.out.trans (hb.mono HB23.out.size)
        replace hp := hp.below hb
        replace hq := hq.below hb
        replace hr := hr.below hb
        replace S6 := S6.below hb
        replace S16 := S16.below hb
        replace S17 := S17.below hb
        replace S18 := S18.below hb
        replace S19 := S19.below hb
        replace S20 := S20.below hb
        replace S21 := S21.below hb
        replace S22 := S22.below hb
        clear hb hd
        go_wp2_with fail
        go_ret
        exact ⟨rfl, HB24.out⟩
      · have hc2 : (c2 != 0) = true := bne_iff_ne.2 h2
        subst h1
        clear h2
        go_wp2_with fail
        go_ret
        exact ⟨rfl, HB17.out⟩
    · have hc1 : (c1 != 0) = true := bne_iff_ne.2 h1
      clear h1
      go_wp2_with fail
      go_ret
      exact ⟨rfl, HB17.out⟩
  · have hc0 : (c0 != 0) = true := bne_iff_ne.2 h0
    obtain rfl := HNA.out h0
    have hz := HN6.out
    simp only [List.length_nil] at hz
    subst hz
    clear h0
    go_wp2
    go_ret
    exact ⟨rfl, HB6.out⟩

/-- A group, codes and words there and back, of every four slices that can be read. -/
theorem grp_any (a b d f : Option Addr) (ca cb cd cf : Nat) (ps qs rs cs : List Int) (w : World) (hp : Shows w a ps) (hq : Shows w b qs) (hr : Shows w d rs) (hk : Shows w f cs) (hca : ps.length ≤ ca) :
    Calls Try.prog 6 #[.slice a ps.length ca, .slice b qs.length cb, .slice d rs.length cd, .slice f cs.length cf] w fun e w' => e = .returned (.bool true) ∧ Below w.heap.size w w' := by
  -- p
  obtain ⟨c0, hc0⟩ : ∃ c0, c0 = pchk ps := ⟨_, rfl⟩
  obtain ⟨A, hA⟩ : ∃ A, A = if c0 = 0 then invL ps else [] := ⟨_, rfl⟩
  have hPA : PermR invL ps c0 A := ⟨hc0.symm, hA⟩
  have hOK : c0 = 0 → IsPerm ps ∧ A = invL ps ∧ ∃ c1 c2 X Y, GrpR ps qs rs c1 c2 X Y := by
    intro h0
    have hpp : IsPerm ps := pchk_ok.1 (by rw [← hc0]; exact h0)
    refine ⟨hpp, by rw [hA, if_pos h0], two ps qs, two qs rs, if two ps qs = 0 then timesL ps qs else [], if two qs rs = 0 then timesL qs rs else [], ?_⟩
    refine ⟨⟨rfl, rfl⟩, ⟨rfl, rfl⟩, ?_, ?_, ?_⟩
    · split
      · rename_i h; obtain ⟨h1, h2, h3⟩ := two_ok.1 h; exact Sml.perm (timesL_perm h1 h2 h3)
      · exact Sml.nil
    · split
      · rename_i h; obtain ⟨h1, h2, h3⟩ := two_ok.1 h; exact Sml.perm (timesL_perm h1 h2 h3)
      · exact Sml.nil
    · intro h1 h2
      rw [if_pos h1, if_pos h2]
      obtain ⟨p1, p2, p3⟩ := two_ok.1 h1
      obtain ⟨p4, p5, p6⟩ := two_ok.1 h2
      have px := timesL_perm p1 p2 p3
      have py := timesL_perm p4 p5 p6
      have lx : (timesL ps qs).length = rs.length := by rw [timesL_length, p6]
      have ly : ps.length = (timesL qs rs).length := by rw [timesL_length, p3, p6]
      have pu := timesL_perm px p5 lx
      have iq := (invL_inv p2).perm p2
      have ip := (invL_inv p1).perm p1
      have ix := (invL_inv px).perm px
      refine ⟨p2, ⟨two_ok.2 ⟨px, p5, lx⟩, by rw [if_pos rfl]⟩, ⟨two_ok.2 ⟨p1, py, ly⟩, by rw [if_pos rfl, times_assoc p5 p6]⟩, PermR.ok px, PermR.ok p2, ⟨two_ok.2 ⟨iq, ip, by rw [invL_length, invL_length, p3]⟩, by rw [if_pos rfl, inv_times p1 p2 p3]⟩, Sml.perm pu, Sml.perm ix, Sml.perm iq⟩
  have hAs : Sml A := by
    rw [hA]; split
    · rename_i h; have hpp : IsPerm ps := pchk_ok.1 (by rw [← hc0]; exact h)
      exact Sml.perm ((invL_inv hpp).perm hpp)
    · exact Sml.nil
  have hNA : c0 ≠ 0 → A = [] := fun h => by rw [hA, if_neg h]
  by_cases hc : fcC cs = 0
  · obtain ⟨f1, f2⟩ := fc_ok hc
    exact grp_fc a b d f ca cb cd cf ps qs rs cs w hp hq hr hk hca (fcL cs) hc rfl (Sml.perm f1) ⟨pchk_ok.2 f1, by rw [if_pos rfl]; exact f2.symm⟩ c0 A hPA hAs hOK hNA
  · have hfl : fcL cs = [] := by
      unfold fcC at hc
      unfold fcL
      by_cases h40 : 40 < cs.length
      · rw [if_pos h40]
      · rw [if_neg h40] at hc ⊢
        cases hf : fromC (orderL cs.length) cs with
        | none => rfl
        | some p => rw [hf] at hc; exact absurd rfl hc
    exact grp_no a b d f ca cb cd cf ps qs rs cs w hp hq hr hk hca [] _ (bne_iff_ne.2 hc) rfl hfl Sml.nil c0 A hPA hAs hOK hNA

#print axioms grp_any
end Go.Proofs.Ytnjbkiegeielhab
