/-
  The contracts of ferref.Promoted, ferref.Demoted.
-/
import Derived.Test.YtjciandmpfcfjaaSRsl
import Derived.Test.YtjciandmpfcfjaaSPrf
import Derived.Deep.DeepCutAuto
namespace Go.Proofs.Ytjciandmpfcfjaa
open Go.RowKit

/-- What is left when the first box is gone, and the row where it came out. -/
def rpC (ls : List (List Int)) : List (List Int) × Nat := (tk (mv (left ls 0 0) (sb ls 0 0 0) 0 0).1 (mv (left ls 0 0) ls 0 0).2.1, (mv (left ls 0 0) ls 0 0).2.1)
structure RpF (n : Nat) (ls : List (List Int)) : Prop where
  hol : Hol (fun _ => 0) (sb ls 0 0 0) 0 0
  few : Few (sb ls 0 0 0)
  at2 : (mv (left (sb ls 0 0 0) 0 0) (sb ls 0 0 0) 0 0).2.1 = (rpC ls).2
  rows : tk (mv (left (sb ls 0 0 0) 0 0) (sb ls 0 0 0) 0 0).1 (mv (left (sb ls 0 0 0) 0 0) (sb ls 0 0 0) 0 0).2.1 = (rpC ls).1
  le : (rpC ls).2 ≤ (rpC ls).1.length
  fewC : Few (rpC ls).1
  fewR : Few (lng (rpC ls).1 (rpC ls).2 ((n : Int) + 1))
  bdR : ∀ r ∈ lng (rpC ls).1 (rpC ls).2 ((n : Int) + 1), ∀ z ∈ r, -500 ≤ z ∧ z ≤ 500
  is : rais (-1) (lng (rpC ls).1 (rpC ls).2 ((n : Int) + 1)) = proT ls
theorem few_mv : ∀ (n : Nat) (s : List (List Int)) (i j : Nat), Few s → Few (mv n s i j).1 := by
  intro n
  induction n with
  | zero => intro s i j h; exact h
  | succ n ih =>
    intro s i j h
    rw [mv_step]
    split
    · exact ih _ _ _ (h.sb i j (h.box _ _))
    · split
      · exact ih _ _ _ (h.sb i j (h.box _ _))
      · exact h
theorem rp_all {n : Nat} {ls : List (List Int)} (h : Std n ls) (h0 : 0 < n) (h40 : n ≤ 40) : RpF n ls := by
  have k := T_hol h.tab h.pos (h.some h0)
  have hF := few_std h
  have hlt := k.lt
  have kk : Hol (fun _ => 0) (sb ls 0 0 0) 0 0 := by
    have hb := sb_box (s := ls) (i := 0) (j := 0) hlt 0
    have hne : ∀ {a b : Nat}, ¬ one 0 0 a b → box (sb ls 0 0 0) a b = box ls a b := fun {a b} q => by rw [hb]; exact if_neg q
    refine ⟨⟨⟨fun a ha => ?_, fun a => ?_⟩, k.sk.hm, fun a => Nat.zero_le _, fun a b q => by omega, fun a b q1 q2 q3 => ?_, fun a b c q1 q2 q3 q4 q5 => ?_, fun a c b q1 q2 q3 q4 q5 => ?_⟩, Nat.le_refl _, by rw [sb_len]; exact hlt⟩
    · rw [sb_len]; exact k.sk.shp.1 a (by rw [sb_length] at ha; exact ha)
    · rw [sb_len, sb_len, sb_length]; exact k.sk.shp.2 a
    · rw [hne q3]; exact k.sk.pos a b q1 (by rw [sb_len] at q2; exact q2) q3
    · rw [hne q4, hne q5]; exact k.sk.along a b c q1 q2 (by rw [sb_len] at q3; exact q3) q4 q5
    · rw [hne q4, hne q5]; exact k.sk.down a c b q1 q2 (by rw [sb_len] at q3; exact q3) q4 q5
  have hl : left (sb ls 0 0 0) 0 0 = left ls 0 0 := left_sb _ _ _ _ _ _
  have m1 := mv_first k 0 _ (Nat.le_refl _)
  have e := mv_ends _ _ ls 0 0 k (Nat.le_refl _)
  obtain ⟨c1, c2⟩ := e.corner
  have fS : Few (sb ls 0 0 0) := hF.sb 0 0 (by omega)
  have hC : (rpC ls).1 = tk (mv (left ls 0 0) ls 0 0).1 (mv (left ls 0 0) ls 0 0).2.1 := m1.2
  have hR : lng (rpC ls).1 (rpC ls).2 ((n : Int) + 1) = sb (mv (left ls 0 0) ls 0 0).1 (mv (left ls 0 0) ls 0 0).2.1 (mv (left ls 0 0) ls 0 0).2.2 ((n : Int) + 1) := by
    rw [hC]; exact lng_cut e.hol.sk.shp c1 c2 _
  have fR : Few (lng (rpC ls).1 (rpC ls).2 ((n : Int) + 1)) := by rw [hR]; exact (few_mv _ _ _ _ hF).sb _ _ (by omega)
  have hP : rais (-1) (lng (rpC ls).1 (rpC ls).2 ((n : Int) + 1)) = pr n ls := pr_ref h h0
  have hpr : proT ls = pr n ls := by unfold proT; rw [h.flat, if_neg (by omega)]
  have hS := (pr_ok h h0).1
  refine ⟨kk, fS, ?_, ?_, ?_, ?_, fR, fun r hr z hz => ?_, by rw [hP, hpr]⟩
  · rw [hl, m1.1]; rfl
  · rw [hl, m1.1]; rfl
  · rw [hC]
    show (mv (left ls 0 0) ls 0 0).2.1 ≤ (tk (mv (left ls 0 0) ls 0 0).1 (mv (left ls 0 0) ls 0 0).2.1).length
    have hr := e.hol.row
    unfold tk
    split
    · rw [List.length_take]; omega
    · rw [List.length_set]; omega
  · rw [hC]; exact (few_mv _ _ _ _ hF).tk _
  · obtain ⟨a, ha, rfl⟩ := mem_row hr
    obtain ⟨b, hb, rfl⟩ : ∃ b, b < (row (lng (rpC ls).1 (rpC ls).2 ((n : Int) + 1)) a).length ∧ (row (lng (rpC ls).1 (rpC ls).2 ((n : Int) + 1)) a).getD b 0 = z := by
      obtain ⟨b, hb, rfl⟩ := List.mem_iff_getElem.1 hz
      exact ⟨b, hb, by simp [List.getD, List.getElem?_eq_getElem hb]⟩
    have := hS.box (a := a) (b := b) (by rw [← hP, rais_len]; exact hb)
    rw [← hP, rais_box hb] at this
    have h3 : box (lng (rpC ls).1 (rpC ls).2 ((n : Int) + 1)) a b = (row (lng (rpC ls).1 (rpC ls).2 ((n : Int) + 1)) a).getD b 0 := rfl
    rw [← h3]; omega

set_option maxHeartbeats 16000000 in
set_option maxRecDepth 100000 in
theorem RPromoted_ok (a : Option Addr) (n cap : Nat) (ls : List (List Int)) (w : World) (hs : Table w a ls) (hn : n = ls.length) (hc : scode ls = 0) :
    Calls Try.prog 34 #[.slice a n cap] w fun e w' => ∃ v, e = .returned v ∧ Tbl w' w.heap.size v (proT ls) ∧ Below w.heap.size w w' := by
  subst hn
  have HS : Hid (Table w a ls) := hs
  obtain ⟨hS, h40⟩ := scode_ok.1 hc
  clear hs hc
  by_cases h0 : ls.flatten.length = 0
  · have hnil := std_nil hS h0
    subst hnil
    go_enter Try.func34, Try.ntmps34
    go_wp2
    go_ret
    have e : proT [] = [] := rfl
    exact ⟨_, rfl, by rw [e]; exact Tbl.nil _ _, Below.refl _ _⟩
  · obtain ⟨N, HN⟩ : ∃ N, Hid (N = ls.flatten.length) := ⟨_, rfl⟩
    have hN40 : N ≤ 40 := by rw [HN.out]; exact h40
    have HA : Hid (RpF N ls) := by rw [HN.out]; exact rp_all hS (by omega) h40
    have HFew : Hid (Few ls) := few_std hS
    have hlen0 : 0 < ls.length := hS.some (by omega)
    have hlen := HFew.out.len
    have hne' : ¬ (ls.length : Int) = 0 := by omega
    have hne : ((ls.length : Int) == 0) = false := beq_false_of_ne hne'
    clear hne'
    have HFl : Hid (ls.flatten.length ≤ 40) := h40
    have HR0 : Hid (0 < (row ls 0).length) := (HFew.out.one _ (row_mem hlen0)).1
    clear hS h40 h0
    go_enter Try.func34, Try.ntmps34
    go_wp2_with fail
    refine (RCount_at a ls.length cap ls w HS.out rfl (by omega) (by have := HFl.out; omega)).mono ?_
    rintro e w1 ⟨rfl, hb1⟩
    rw [← HN.out]
    have HB1 : Hid (Below w.heap.size w w1) := hb1
    clear hb1
    go_wp2_with fail
    refine (Twin_i a ls.length cap ls w1 (HS.out.below HB1.out) rfl (by omega) (fun l hl => by have := (HFew.out.one l hl).2; omega)).mono ?_
    rintro e w2 ⟨v2, rfl, hT2, hb2⟩
    obtain ⟨vs, hI2⟩ := TIn.of_tbl hT2
    obtain ⟨va, vc, hv⟩ := hI2.t.shape
    subst hv
    have HT2 : Hid (TblIn w2 w.heap.size (fun k => w1.heap.size ≤ k ∧ k < w2.heap.size) (.slice va ls.length vc) vs ls) := hI2.mono HB1.out.size
    have HB2 : Hid (Below w.heap.size w w2) := HB1.out.trans (hb2.mono HB1.out.size)
    clear hT2 hb2 hI2
    obtain ⟨g, hb, ch, m, rfl, hnl, HRv, HMm, hqm, hm1, hcg, hcb, hfb, HSh, hgl, hhl⟩ := HT2.out.open HFew.out (i := 0) (j := 0) HR0.out
    have hpn : (0 : Int) < (ls.length : Int) := by omega
    have hqm' : (0 : Int) < (m : Int) := by omega
    have HT3 : Hid (TblIn (w2.setCell ⟨hb, 0, none⟩ (.int .i64 0)) w.heap.size (fun k => w1.heap.size ≤ k ∧ k < w2.heap.size) (.slice (some ⟨g, 0, none⟩) ls.length vc) vs (sb ls 0 0 0)) := HT2.out.sbox hlen0 HRv.out HMm.out 0
    have HB3 : Hid (Below w.heap.size w (w2.setCell ⟨hb, 0, none⟩ (.int .i64 0))) := HB2.out.setCell (p := ⟨hb, 0, none⟩) (by have := HSh.out.1; have := HB1.out.size; show w.heap.size ≤ hb; omega) _
    obtain ⟨w3, HW3⟩ : ∃ w3, Hid (w3 = w2.setCell ⟨hb, 0, none⟩ (.int .i64 0)) := ⟨_, rfl⟩
    rw [← HW3.out] at HT3 HB3
    obtain ⟨ga, gn, gc, hga, hGT, HGN⟩ := (TIn.tbl ⟨_, HT3.out⟩).table HA.out.few.bd
    simp only [Value.slice.injEq] at hga
    obtain ⟨rfl, rfl, rfl⟩ := hga
    have HGT : Hid (Table w3 (some ⟨g, 0, none⟩) (sb ls 0 0 0)) := hGT
    clear hnl hGT
    go_wp2_with fail
    rw [← HW3.out]
    refine (RSlid_at _ _ _ (sb ls 0 0 0) 0 0 w3 HGT.out HGN.out HA.out.few HA.out.hol).mono ?_
    rintro e w4 ⟨v4, rfl, hT4, hb4⟩
    rw [HA.out.rows] at hT4
    rw [HA.out.at2]
    obtain ⟨q2, hq2⟩ : ∃ q2, q2 = (mv (left (sb ls 0 0 0) 0 0) (sb ls 0 0 0) 0 0).2.2 := ⟨_, rfl⟩
    rw [← hq2]
    obtain ⟨C, HC⟩ : ∃ C, Hid (C = (rpC ls).1) := ⟨_, rfl⟩
    obtain ⟨p, HP⟩ : ∃ p, Hid (p = (rpC ls).2) := ⟨_, rfl⟩
    rw [← HC.out] at hT4
    rw [← HP.out]
    have HFC : Hid (Few C) := by rw [HC.out]; exact HA.out.fewC
    have HPl : Hid (p ≤ C.length) := by rw [HC.out, HP.out]; exact HA.out.le
    have HFR : Hid (Few (lng C p ((N : Int) + 1)) ∧ (∀ r ∈ lng C p ((N : Int) + 1), ∀ z ∈ r, -500 ≤ z ∧ z ≤ 500) ∧ rais (-1) (lng C p ((N : Int) + 1)) = proT ls) := by rw [HC.out, HP.out]; exact ⟨HA.out.fewR, HA.out.bdR, HA.out.is⟩
    obtain ⟨us0, hI4⟩ := TIn.of_tbl hT4
    obtain ⟨ua, uc, hv4⟩ := hI4.t.shape
    subst hv4
    have HT4 : Hid (TblIn w4 w.heap.size (fun k => w3.heap.size ≤ k ∧ k < w4.heap.size) (.slice ua C.length uc) us0 C) := hI4.mono HB3.out.size
    have HB4 : Hid (Below w.heap.size w w4) := HB3.out.trans (hb4.mono HB3.out.size)
    have HZ34 : Hid (w3.heap.size ≤ w4.heap.size) := hb4.size
    clear hT4 hb4 hI4 hq2
    obtain ⟨R, HR⟩ : ∃ R : List (List Int), Hid (R = if p = C.length then C ++ [([] : List Int)] else C) := ⟨_, rfl⟩
    have HRp : Hid (p < R.length ∧ (row R p).length ≤ 1000 ∧ R.set p (row R p ++ [(N : Int) + 1]) = lng C p ((N : Int) + 1)) := by
      rw [HR.out]
      by_cases c : p = C.length
      · rw [if_pos c]
        subst c
        have e : row (C ++ [[]]) C.length = [] := by unfold row; simp
        exact ⟨by simp, by rw [e]; simp, by rw [e]; exact lng_two C _⟩
      · rw [if_neg c]
        have hp : p < C.length := by have := HPl.out; omega
        exact ⟨hp, (HFC.out.one _ (row_mem hp)).2, by unfold lng; rw [if_neg c]⟩
    have hCl := HFC.out.len
    have hA0 : (w4.alloc (.cells #[.int .i64 p, .int .i64 q2] 51)).cell? ⟨w4.heap.size, 0, none⟩ = some (.int .i64 p) := by rw [World.cell?_alloc_at _ _ _ _ rfl]; rfl
    have HA0 : Hid ((w4.alloc (.cells #[.int .i64 p, .int .i64 q2] 51)).cell? ⟨w4.heap.size, 0, none⟩ = some (.int .i64 p)) := hA0
    have HB5 : Hid (Below w.heap.size w (w4.alloc (.cells #[.int .i64 p, .int .i64 q2] 51))) := HB4.out.alloc HB4.out.size _
    have HV5 : Hid (TblIn (w4.alloc (.cells #[.int .i64 p, .int .i64 q2] 51)) w.heap.size (fun k => w3.heap.size ≤ k ∧ k < w4.heap.size) (.slice ua C.length uc) us0 C) :=
      HT4.out.same (fun k hk => (((Below.refl w4.heap.size w4).alloc (Nat.le_refl _) _).block k hk.2))
    have HZ5 : Hid ((w4.alloc (.cells #[.int .i64 p, .int .i64 q2] 51)).heap.size = w4.heap.size + 1) := by show _ = _; simp
    clear hA0
    go_upto_if 28 with fail
    go_cut [4] (fun s4 wc => Hid (TIn wc w.heap.size (fun k => w3.heap.size ≤ k ∧ k < wc.heap.size ∧ k ≠ w4.heap.size) s4 R) ∧ Hid (Below w.heap.size w wc) ∧ Hid (w4.heap.size < wc.heap.size ∧ wc.cell? ⟨w4.heap.size, 0, none⟩ = some (.int .i64 p)))
    case first =>
      by_cases c : p = C.length
      · have hie : ((p : Int) == (C.length : Int)) = true := by rw [c]; simp
        have HRe : Hid (R = C ++ [[]]) := by show _ = _; rw [HR.out, if_pos c]
        have HLv : Hid (us0.length = C.length) := HT4.out.t.len
        have HS5 : Hid (InS (fun k => w3.heap.size ≤ k ∧ k < w4.heap.size) w.heap.size (w4.alloc (.cells #[.int .i64 p, .int .i64 q2] 51))) := fun j hj => by
          have := HB3.out.size; have := HZ5.out; omega
        clear c
        go_wp2_with (at_builtin; refine append_one elem_row (x := .slice none 0 0) rfl _ _ rfl rfl rfl (by simp) HV5.out.t.own rfl ?c1 ?c2 ?c3 ?_)
        case c1 => have := HLv.out; unfold maxLen; omega
        case c2 => have := HLv.out; omega
        case c3 => exact HB5.out.size
        intro v6 w6 hO6 hb6 hk6
        have hO6' : w6.ownsRow w.heap.size 27 1 v6 (us0 ++ [Value.slice none 0 0]).length (us0 ++ [Value.slice none 0 0]) := by simpa using hO6
        obtain ⟨p1, p2⟩ := HV5.out.push (zs := []) HS5.out HB5.out.size (Below.refl _ _) (World.ownsRow_nil _ _ _ _) hO6' hk6
        have hz6 := hk6.size
        have HF1 : Hid (TIn w6 w.heap.size (fun k => w3.heap.size ≤ k ∧ k < w6.heap.size ∧ k ≠ w4.heap.size) v6 R) := by
          rw [HRe.out]
          refine TIn.grow ⟨_, p1⟩ (fun k hk => ?_)
          have hz := HZ5.out
          have hz3 := HZ34.out
          rcases hk with g | g
          · have := g; omega
          · omega
        have HF2 : Hid (Below w.heap.size w w6) := HB5.out.trans hb6
        have HF3 : Hid (w4.heap.size < w6.heap.size ∧ w6.cell? ⟨w4.heap.size, 0, none⟩ = some (.int .i64 p)) := by
          have hz := HZ5.out
          refine ⟨by omega, ?_⟩
          rw [World.cell?_of_block (p2 w4.heap.size (by omega) (fun q => by omega))]
          exact HA0.out
        clear hO6 hO6' hb6 hk6 p1 p2 hz6
        go_wp2_with fail
        go_meet
        exact ⟨HF1, HF2, HF3⟩
      · have hie : ((p : Int) == (C.length : Int)) = false := beq_false_of_ne (by omega)
        have HF1 : Hid (TIn (w4.alloc (.cells #[.int .i64 p, .int .i64 q2] 51)) w.heap.size (fun k => w3.heap.size ≤ k ∧ k < (w4.alloc (.cells #[.int .i64 p, .int .i64 q2] 51)).heap.size ∧ k ≠ w4.heap.size) (.slice ua C.length uc) R) := by
          rw [HR.out, if_neg c]
          exact TIn.grow ⟨_, HV5.out⟩ (fun k hk => by have := HZ5.out; omega)
        have HF3 : Hid (w4.heap.size < (w4.alloc (.cells #[.int .i64 p, .int .i64 q2] 51)).heap.size ∧ (w4.alloc (.cells #[.int .i64 p, .int .i64 q2] 51)).cell? ⟨w4.heap.size, 0, none⟩ = some (.int .i64 p)) := ⟨by have := HZ5.out; omega, HA0.out⟩
        clear c
        go_wp2_with fail
        go_meet
        exact ⟨HF1, HB5, HF3⟩
    case rest =>
      obtain ⟨HT6, HB6, HC6⟩ := hcut
      obtain ⟨us, hV6⟩ := HT6.out
      have HV6 : Hid (TblIn wc w.heap.size (fun k => w3.heap.size ≤ k ∧ k < wc.heap.size ∧ k ≠ w4.heap.size) u4 us R) := hV6
      obtain ⟨ga6, gc6, hv6⟩ := hV6.t.shape
      obtain ⟨nR, HnR⟩ : ∃ nR, Hid (nR = R.length) := ⟨_, rfl⟩
      rw [← HnR.out] at hv6
      subst hv6
      clear hV6 HT6
      obtain ⟨g6, n6, c6, hsl, HN6, hg1, hg2, hfg, hcells⟩ := HV6.out.t.head (by have := HRp.out.1; omega)
      simp only [Value.slice.injEq] at hsl
      obtain ⟨rfl, rfl, rfl⟩ := hsl
      have hci := hcells p HRp.out.1
      have hfgi := hfg p
      have hrow := HV6.out.t.rows p HRp.out.1
      obtain ⟨rr, HRr⟩ : ∃ rr, Hid (rr = R.getD p []) := ⟨_, rfl⟩
      rw [← HRr.out] at hrow
      have HRow : Hid (wc.drew.ownsRow w.heap.size 3 1 (rowv us p) (rr.map (Value.int .i64)).length (rr.map (Value.int .i64))) := vals_of_owns (hrow.below (below_drewN (Below.refl _ _) 1))
      have HLn : Hid (rr.length ≤ 1000) := by rw [HRr.out]; exact HRp.out.2.1
      obtain ⟨uu, HU⟩ : ∃ uu, Hid (uu = rowv us p) := ⟨_, rfl⟩
      rw [← HU.out] at hci HRow
      obtain ⟨ai, ni, ci, hsu⟩ : ∃ ai ni ci, uu = .slice ai ni ci := by
        rw [HU.out]; obtain ⟨a1, c1, e1⟩ := hrow.shape; exact ⟨_, _, _, e1⟩
      subst hsu
      have hin : (p : Int) < (nR : Int) := by rw [HN6.out]; have := HRp.out.1; omega
      have hcat := HC6.out.2
      have hA1 := HC6.out.1
      have hadd : IntKind.i64.wrap ((N : Int) + 1) = (N : Int) + 1 := by rw [IntWalk.i64_left, IntWalk.wrap64_in _ (by omega)]
      have HEnd : Hid (∀ v4 w7, w7.ownsRow w.heap.size 3 1 v4 (rr.map (Value.int .i64) ++ [Value.int .i64 ((N : Int) + 1)]).length (rr.map (Value.int .i64) ++ [Value.int .i64 ((N : Int) + 1)]) → Below w.heap.size wc.drew w7 → KeepB (.slice ai ni ci) v4 wc.drew w7 →
          w7.frozen? ⟨g6, p, none⟩ = false ∧ w7.cell? ⟨g6, p, none⟩ = some (.slice ai ni ci) ∧ w7.cell? ⟨w4.heap.size, 0, none⟩ = some (.int .i64 p) ∧ TIn (w7.setCell ⟨g6, p, none⟩ v4) w.heap.size (fun k => w.heap.size ≤ k ∧ k < (w7.setCell ⟨g6, p, none⟩ v4).heap.size) (.slice (some ⟨g6, 0, none⟩) nR gc6) (lng C p ((N : Int) + 1)) ∧ Below w.heap.size w (w7.setCell ⟨g6, p, none⟩ v4) ∧ ∃ a4 m4 c4, v4 = .slice a4 m4 c4) := fun v4 w7 hO4 hb4 hk4 => by
        have hO5 : Owns w7 w.heap.size v4 (rr ++ [(N : Int) + 1]) := by unfold Owns; simpa using hO4
        rw [HU.out] at hk4
        have hk5 : KeepB (rowv us p) v4 wc w7 := ⟨hk4.size, hk4.block, hk4.lies⟩
        obtain ⟨p1, p2⟩ := HV6.out.setRow HRp.out.1 hO5 hk5
        have hne : (rowv us p).ownBlock ≠ some g6 := fun e => HV6.out.t.off p HRp.out.1 _ rfl e
        have hne2 : (rowv us p).ownBlock ≠ some w4.heap.size := fun e => (HV6.out.rs p HRp.out.1 _ e).2.2 rfl
        refine ⟨by rw [World.frozen?_of_block (hk5.block g6 hg2 hne)]; exact hfgi, by rw [World.cell?_of_block (hk5.block g6 hg2 hne)]; exact hci, by rw [World.cell?_of_block (hk5.block w4.heap.size HC6.out.1 hne2)]; exact hcat, ?_, ?_, ?_⟩
        · rw [HRr.out] at p1
          have e : R.set p (R.getD p [] ++ [(N : Int) + 1]) = lng C p ((N : Int) + 1) := HRp.out.2.2
          rw [e] at p1
          refine TIn.grow ⟨_, p1⟩ (fun k hk => ?_)
          have z3 := HB3.out.size
          have z5 := HB6.out.size
          have z6 : wc.heap.size ≤ w7.heap.size := hk5.size
          rcases hk with g | g
          · have := g; simp; omega
          · simp; omega
        · exact ((below_drewN HB6.out 1).trans hb4).setCell (p := ⟨g6, p, none⟩) hg1 _
        · obtain ⟨a4, c4, e4⟩ := hO5.shape
          exact ⟨_, _, _, e4⟩
      clear hrow hcells hfg
      go_upto_region 9 with fail
      go_cut [] (fun wx => Hid (TIn wx w.heap.size (fun k => w.heap.size ≤ k ∧ k < wx.heap.size) (.slice (some ⟨g6, 0, none⟩) nR gc6) (lng C p ((N : Int) + 1))) ∧ Hid (Below w.heap.size w wx))
      case first =>
        go_region_law (refine step_one elem_int (w := wc.drew) (N := wc.heap.size) (x := .int .i64 ((N : Int) + 1)) rfl (.tmp 39) (.tmp 42) rfl (by first | (simp [Act.eval]; done) | (simp [Act.eval, Act.put]; done)) (by first | (simp [Act.eval]; done) | (simp [Act.eval, Act.put]; done)) rfl HRow.out rfl (by have := HLn.out; unfold maxLen; rw [List.length_map]; omega) (by have := HLn.out; rw [List.length_map]; omega) HB6.out.size ?_; intro v4 w7 hO4 hb4 hk4; obtain ⟨e1, e2, e3, e4, e5, a4, m4, c4, rfl⟩ := HEnd.out v4 w7 hO4 hb4 hk4; clear hO4 hb4 hk4)
        all_goals (
          have HF4 : Hid (TIn (w7.setCell ⟨g6, p, none⟩ (.slice a4 m4 c4)) w.heap.size (fun k => w.heap.size ≤ k ∧ k < (w7.setCell ⟨g6, p, none⟩ (.slice a4 m4 c4)).heap.size) (.slice (some ⟨g6, 0, none⟩) nR gc6) (lng C p ((N : Int) + 1))) := e4
          have HF5 : Hid (Below w.heap.size w (w7.setCell ⟨g6, p, none⟩ (.slice a4 m4 c4))) := e5
          clear e4 e5
          go_wp2_with fail
          go_meet
          exact ⟨HF4, HF5⟩)
      case rest =>
        obtain ⟨HT8, HB8⟩ := hcut
        obtain ⟨L, HL⟩ : ∃ L, Hid (L = lng C p ((N : Int) + 1)) := ⟨_, rfl⟩
        rw [← HL.out] at HT8
        rw [← HL.out] at HFR
        obtain ⟨ls8, hV8⟩ := HT8.out
        obtain ⟨S8, HS8⟩ : ∃ S8 : Nat → Prop, Hid (S8 = fun k => w.heap.size ≤ k ∧ k < wc.heap.size) := ⟨_, rfl⟩
        rw [← HS8.out] at hV8
        have hnL : nR = L.length := by
          obtain ⟨q1, q2, hq⟩ := hV8.t.shape
          simp only [Value.slice.injEq] at hq
          exact hq.2.1
        subst hnL
        have HT0 : Hid (TblIn wc w.heap.size S8 (.slice (some ⟨g6, 0, none⟩) L.length gc6) ls8 (tab2 L (raiF L (-1) 0 0))) := by show TblIn _ _ _ _ _ _; rw [raiF_zero]; exact hV8
        have HF : Hid (∀ i j, Few (tab2 L (raiF L (-1) i j))) := fun i j => raiF_few HFR.out.1 HFR.out.2.1 (by omega) i j
        have HZ : Hid (∀ r ∈ L, ∀ z ∈ r, -500 ≤ z ∧ z ≤ 500) := HFR.out.2.1
        have HPr : Hid (rais (-1) L = proT ls) := HFR.out.2.2
        have hlenL := HFR.out.1.len
        have HSge : Hid (∀ k, S8 k → w.heap.size ≤ k) := fun k hk => by rw [HS8.out] at hk; exact hk.1
        clear hV8 HT8 HFR HnR HN6
        clear hin hcat hA1 hadd hci hfgi hg1 hg2 HEnd HRow HC6 HU HV6 hne hpn hqm' hcb hfb hcg hgl hhl HSh HRv HMm HT3 HGT
        go_wp2
        go_loopw [6] (fun q wr => ∃ i : Nat, i ≤ L.length ∧ q = .int .i64 i ∧ Hid (TblIn wr w.heap.size S8 (.slice (some ⟨g6, 0, none⟩) L.length gc6) ls8 (tab2 L (raiF L (-1) i 0))) ∧ Hid (Below w.heap.size w wr)) (fun q _ => L.length - (intOf q).toNat)
        case atStart => exact ⟨0, Nat.zero_le _, rfl, HT0, HB8⟩
        case round =>
          obtain ⟨i, hi, rfl, HT, HO⟩ := hrel
          by_cases hil : i < L.length
          · have hil' : (i : Int) < (L.length : Int) := by omega
            have HIl : Hid (i < L.length) := hil
            have hpos : 0 < (row (tab2 L (raiF L (-1) i 0)) i).length := ((HF.out i 0).one _ (row_mem (by rw [tab2_length]; exact hil))).1
            obtain ⟨g', hb, ch, m, hg', -, HRv, HMm, -, hm1, -, -, -, HSh, -, -⟩ := HT.out.open (HF.out i 0) hpos
            simp only [Option.some.injEq, Addr.mk.injEq, and_true] at hg'
            subst hg'
            have HM2 : Hid (m = (row L i).length) := by show _ = _; rw [HMm.out, tab2_len]
            have HPos : Hid (0 < (row L i).length) := by have := hpos; rw [tab2_len] at this; exact this
            clear hpos HMm
            go_wp2
            go_loopw [7] (fun q wr => ∃ j : Nat, j ≤ m ∧ q = .int .i64 j ∧ Hid (TblIn wr w.heap.size S8 (.slice (some ⟨g6, 0, none⟩) L.length gc6) ls8 (tab2 L (raiF L (-1) i j))) ∧ Hid (Below w.heap.size w wr)) (fun q _ => m - (intOf q).toNat)
            case atStart => exact ⟨0, Nat.zero_le _, rfl, HT, HO⟩
            case round =>
              obtain ⟨j, hj, rfl, HTj, HOj⟩ := hrel
              obtain ⟨g', hb', ch', m', hg', -, HRv', HMm', -, -, hcg, -, -, -, -, -⟩ := HTj.out.open (HF.out i j) (i := i) (j := 0) (by rw [tab2_len]; exact HPos.out)
              simp only [Option.some.injEq, Addr.mk.injEq, and_true] at hg'
              subst hg'
              have e1 := HRv'.out
              rw [HRv.out] at e1
              simp only [Value.slice.injEq, Option.some.injEq, Addr.mk.injEq, and_true] at e1
              obtain ⟨rfl, rfl, rfl⟩ := e1
              clear HRv'
              by_cases hjm : j < m
              · have hjm' : (j : Int) < (m : Int) := by omega
                have hjr : j < (row (tab2 L (raiF L (-1) i j)) i).length := by rw [tab2_len, ← HM2.out]; exact hjm
                obtain ⟨g', hb', ch', m', hg', -, HRv', -, -, -, -, hcb, hfb, -, -, -⟩ := HTj.out.open (HF.out i j) hjr
                have e1 := HRv'.out
                rw [HRv.out] at e1
                simp only [Value.slice.injEq, Option.some.injEq, Addr.mk.injEq, and_true] at e1
                obtain ⟨rfl, rfl, rfl⟩ := e1
                have hbx : box (tab2 L (raiF L (-1) i j)) i j = box L i j := by
                  rw [tab2_box HIl.out (by rw [← HM2.out]; exact hjm)]
                  unfold raiF; rw [if_neg (by omega)]
                rw [hbx] at hcb
                obtain ⟨z, HZz⟩ : ∃ z, Hid (z = box L i j) := ⟨_, rfl⟩
                rw [← HZz.out] at hcb
                have hzb : -500 ≤ z ∧ z ≤ 500 := by
                  rw [HZz.out]; exact HZ.out _ (row_mem HIl.out) _ (getD_mem (by rw [← HM2.out]; exact hjm))
                have hzd : IntKind.i64.wrap (z - 1) = z - 1 := by rw [IntWalk.i64_left, IntWalk.wrap64_in _ (by omega)]
                have HT2 : Hid (TblIn (wr.setCell ⟨hb, j, none⟩ (.int .i64 (z - 1))) w.heap.size S8 (.slice (some ⟨g6, 0, none⟩) L.length gc6) ls8 (tab2 L (raiF L (-1) i (j + 1)))) := by
                  have := HTj.out.sbox (j := j) (by rw [tab2_length]; exact HIl.out) HRv.out HMm'.out (z - 1)
                  have e2 : z - 1 = box L i j + -1 := by rw [HZz.out]; omega
                  rw [e2, raiF_step] at this
                  rw [e2]; exact this
                have HO2 : Hid (Below w.heap.size w (wr.setCell ⟨hb, j, none⟩ (.int .i64 (z - 1)))) := HOj.out.setCell (p := ⟨hb, j, none⟩) (HSge.out _ HSh.out) _
                clear hbx hjr hg' HRv' HMm'
                go_wp2
                go_roundw
                case rel => exact ⟨j + 1, by omega, by go_num, HT2, HO2⟩
                case measure => simp [intOf]; omega
              · obtain rfl : j = m := by omega
                have hjm' : ¬ (j : Int) < (j : Int) := by omega
                have HT2 : Hid (TblIn wr w.heap.size S8 (.slice (some ⟨g6, 0, none⟩) L.length gc6) ls8 (tab2 L (raiF L (-1) (i + 1) 0))) := by
                  have := HTj.out
                  rw [HM2.out, raiF_row] at this; exact this
                clear HMm'
                go_wp2
                go_roundw
                case rel => exact ⟨i + 1, by omega, by go_num, HT2, HOj⟩
                case measure => simp [intOf]; omega
          · obtain rfl : i = L.length := by omega
            have hil' : ¬ (L.length : Int) < (L.length : Int) := by omega
            have HE : Hid (TblIn wr w.heap.size S8 (.slice (some ⟨g6, 0, none⟩) L.length gc6) ls8 (proT ls)) := by have := HT.out; rw [raiF_end, HPr.out] at this; exact this
            go_wp2
            go_ret
            exact ⟨_, rfl, TIn.tbl ⟨_, HE.out⟩, HO.out⟩
set_option maxHeartbeats 4000000 in
theorem RDemoted_ok (a : Option Addr) (n cap : Nat) (ls : List (List Int)) (w : World) (hs : Table w a ls) (hn : n = ls.length) (hc : scode ls = 0) :
    Calls Try.prog 35 #[.slice a n cap] w fun e w' => ∃ v, e = .returned v ∧ Tbl w' w.heap.size v (demT ls) ∧ Below w.heap.size w w' := by
  subst hn
  have HS : Hid (Table w a ls) := hs
  have HC : Hid (scode ls = 0) := hc
  have HC1 : Hid (scode (evaT ls) = 0) := (evaT_twice hc).1
  have HC2 : Hid (scode (proT (evaT ls)) = 0) := (dem_pro HC1.out).1
  have HE : Hid (evaT (proT (evaT ls)) = demT ls) := by
    show _ = _
    have hS := (scode_ok.1 hc).1
    have h1 := evaT_std hc
    have h2 := (proT_std HC1.out).1
    have f1 := h1.flat
    rw [f1] at h2
    have f2 := h2.flat
    unfold demT
    by_cases c : ls.flatten.length = 0
    · rw [if_pos c]
      have e0 := std_nil hS c
      have e1 : evaT (proT (evaT ls)) = [] := by
        have := (evaT_std HC2.out).flat
        rw [f2] at this
        exact std_nil (by rw [this]; have q := evaT_std HC2.out; rw [f2] at q; exact q) (by rw [this]; exact c)
      exact e1
    · rw [if_neg c]
      have ep : proT (evaT ls) = pr ls.flatten.length (evT ls.flatten.length ls) := by
        unfold proT
        rw [f1, if_neg c]
        rfl
      rw [ep] at f2 ⊢
      unfold evaT
      rw [f2]
  clear hs hc
  go_enter Try.func35, Try.ntmps35
  go_wp2_with fail
  refine (Evacuated_at _ _ _ ls w HS.out rfl HC.out).mono ?_
  rintro e w1 ⟨v1, rfl, hT1, hb1⟩
  have HB1 : Hid (Below w.heap.size w w1) := hb1
  obtain ⟨b1, n1, k1, rfl, hR1, HN1⟩ := hT1.table (std_bd HC1.out)
  have HR1 : Hid (Table w1 b1 (evaT ls)) := hR1
  clear hT1 hb1 hR1
  go_wp2_with fail
  refine (RPromoted_ok _ _ _ (evaT ls) w1 HR1.out HN1.out HC1.out).mono ?_
  rintro e w2 ⟨v2, rfl, hT2, hb2⟩
  have HB2 : Hid (Below w.heap.size w w2) := HB1.out.trans (hb2.mono HB1.out.size)
  obtain ⟨b2, n2, k2, rfl, hR2, HN2⟩ := hT2.table (std_bd HC2.out)
  have HR2 : Hid (Table w2 b2 (proT (evaT ls))) := hR2
  clear hT2 hb2 hR2
  go_wp2_with fail
  refine (Evacuated_at _ _ _ (proT (evaT ls)) w2 HR2.out HN2.out HC2.out).mono ?_
  rintro e w3 ⟨v3, rfl, hT3, hb3⟩
  have HB3 : Hid (Below w.heap.size w w3) := HB2.out.trans (hb3.mono HB2.out.size)
  rw [HE.out] at hT3
  have HT3 : Hid (Tbl w3 w.heap.size v3 (demT ls)) := hT3.mono HB2.out.size
  clear hT3 hb3
  go_wp2
  go_ret
  exact ⟨_, rfl, HT3.out, HB3.out⟩

end Go.Proofs.Ytjciandmpfcfjaa
