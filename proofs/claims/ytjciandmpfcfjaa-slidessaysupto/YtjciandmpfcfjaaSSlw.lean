/-
  The law ferlaw.SlidesSays.
-/
import Derived.Test.YtjciandmpfcfjaaSRst
import Derived.Test.YtjciandmpfcfjaaSRsk
import Derived.Test.YtjciandmpfcfjaaSRsl
import Derived.Test.YtjciandmpfcfjaaSRby
import Derived.Test.YtjciandmpfcfjaaVChk
import Derived.Test.YtjciandmpfcfjaaIEq
import Derived.Deep.DeepCutAuto
namespace Go.Proofs.Ytjciandmpfcfjaa
open Go.RowKit

theorem Tbl.none1 {w : World} {lo : Nat} {v : Value} (h : Tbl w lo v []) : ∃ a c, v = .slice a 0 c := by obtain ⟨vs, h⟩ := h; exact h.shape
theorem recT_isTab {ls : List (List Int)} (h : IsSk ls) : IsTab (recT ls) := by
  obtain ⟨h1, h2⟩ := h.wordS
  have hp := insW_perm (sword (H ls) ls) []
  rw [List.flatten_nil, List.append_nil] at hp
  exact (insW_T _ [] trivial).isTab (by rw [hp.length_eq]; exact h1) (fun z hz => h2 z (hp.mem_iff.1 hz))
theorem few_mvs : ∀ (n : Nat) (s : List (List Int)) (i j : Nat), Few s → Few (mv n s i j).1 := by
  intro n
  induction n with
  | zero => intro s i j h; exact h
  | succ n ih =>
    intro s i j h
    rw [mv_step]
    split
    · exact ih _ _ _ (h.sb i j (h.box _ _))
    · split
      · exact ih _ _ _ (h.sb i j (h.box _ _))
      · exact h
theorem shp_small {ls : List (List Int)} (h : IsTab ls) : (shapeL ls).length ≤ 1000 ∧ ∀ z ∈ shapeL ls, 0 ≤ z ∧ z ≤ 1000 := by
  refine ⟨by unfold shapeL; rw [tab_length]; have := h.rows; omega, fun z hz => ?_⟩
  obtain ⟨j, hj, rfl⟩ := tab_mem hz
  have := h.width hj
  show 0 ≤ (((row ls j).length : Nat) : Int) ∧ (((row ls j).length : Nat) : Int) ≤ 1000
  omega
theorem few_slR {ls : List (List Int)} (h : Few ls) (i : Nat) : Few (slR ls i).1 := (few_mvs _ _ _ _ h).tk _
theorem Word_any {c : Int} {W : List Int} (a : Option Addr) (n cap : Nat) (ls : List (List Int)) (w : World) (hs : TableX w a ls) (hn : n = ls.length) (hl : ls.length ≤ 17592186044416) (E1 : Hid (schk ls = c)) (E2 : Hid (W = if c = 0 then sword (H ls) ls else [])) :
    Calls Try.prog 14 #[.slice a n cap] w fun e w' => ∃ v, e = .returned (.tuple #[v, .int .i64 c]) ∧ Owns w' w.heap.size v W ∧ Below w.heap.size w w' := by
  by_cases h : schk ls = 0
  · have hc : c = 0 := by rw [← E1.out]; exact h
    subst hc
    refine (Word_ok a n cap ls w hs hn hl h).mono ?_
    rintro e w' ⟨v, rfl, h1, h2⟩
    rw [swF_is] at h1
    refine ⟨v, rfl, ?_, h2⟩
    rw [E2.out, if_pos rfl]; exact h1
  · refine (Word_err a n cap ls w hs hn hl h).mono ?_
    rintro e w' ⟨rfl, h2⟩
    rw [E1.out] at h ⊢
    refine ⟨_, rfl, ?_, h2⟩
    rw [E2.out, if_neg h]; exact World.ownsRow_nil _ _ _ _
theorem Rectify_any {c : Int} {Q : List (List Int)} (a : Option Addr) (n cap : Nat) (ls : List (List Int)) (w : World) (hs : TableX w a ls) (hn : n = ls.length) (hl : ls.length ≤ 17592186044416) (E1 : Hid (schk ls = c)) (E2 : Hid (Q = if c = 0 then recT ls else [])) :
    Calls Try.prog 16 #[.slice a n cap] w fun e w' => ∃ v, e = .returned (.tuple #[v, .int .i64 c]) ∧ Tbl w' w.heap.size v Q ∧ Below w.heap.size w w' := by
  refine (Rectify_at a n cap ls w hs hn hl).mono ?_
  rintro e w' ⟨v, rfl, h1, h2⟩
  rw [E1.out] at h1 ⊢
  exact ⟨v, rfl, by rw [E2.out]; exact h1, h2⟩

set_option maxHeartbeats 8000000 in
set_option maxRecDepth 100000 in
theorem ssays_err (a b : Option Addr) (ca cb : Nat) (ls o : List (List Int)) (r : Int) (w : World) (hs : TableX w a ls) (ht : Table w b o) (hl : ls.length ≤ 2000000) (hf : ls.flatten.length ≤ 2000000) (hlo : o.length ≤ 2000000)
    (c : Int) (hc : (c != 0) = true) (E : Hid (schk ls = c)) :
    Calls Try.prog 4 #[.slice a ls.length ca, .int .i64 r, .slice b o.length cb] w fun e w' => e = .returned (.bool true) ∧ Below w.heap.size w w' := by
  have HS : Hid (TableX w a ls) := hs
  have HT : Hid (Table w b o) := ht
  have HFl : Hid (ls.flatten.length ≤ 2000000) := hf
  have hcc : (c == c) = true := by simp
  have HC0 : Hid (c ≠ 0) := bne_iff_ne.1 hc
  have HW : Hid (([] : List Int) = if c = 0 then sword (H ls) ls else []) := by show _ = _; rw [if_neg HC0.out]
  have HQ : Hid (([] : List (List Int)) = if c = 0 then recT ls else []) := by show _ = _; rw [if_neg HC0.out]
  have HS1 : Hid (slC ls r = c) := by show _ = _; unfold slC; rw [E.out, if_pos HC0.out]
  have HS2 : Hid (([] : List (List Int)) = if slC ls r = 0 then (slR ls r.toNat).1 else []) := by show _ = _; rw [HS1.out, if_neg HC0.out]
  have HS3 : Hid ((0 : Int) = if slC ls r = 0 then ((slR ls r.toNat).2 : Int) else 0) := by show _ = _; rw [HS1.out, if_neg HC0.out]
  have HR1 : Hid (rbC ls o = c) := by show _ = _; unfold rbC; rw [E.out, if_pos HC0.out]
  have HR2 : Hid (([] : List (List Int)) = if rbC ls o = 0 then recT ls else []) := by show _ = _; rw [HR1.out, if_neg HC0.out]
  clear hs ht hf
  go_enter Try.func4, Try.ntmps4
  go_wp2_with fail
  refine (Skew_is a _ ca ls w HS.out.table rfl hl HFl.out E).mono ?_
  rintro e w1 ⟨rfl, hb1⟩
  have HB1 : Hid (Below w.heap.size w w1) := hb1
  clear hb1
  go_wp2_with fail
  refine (Word_any a _ ca ls w1 (HS.out.below HB1.out) rfl (by omega) E HW).mono ?_
  rintro e w2 ⟨v2, rfl, hO2, hb2⟩
  have HB2 : Hid (Below w.heap.size w w2) := HB1.out.trans (hb2.mono HB1.out.size)
  obtain ⟨a2, n2, c2, rfl, -, hn2, -⟩ := hO2.opened (by simp) (by simp)
  obtain rfl : n2 = 0 := hn2
  clear hO2 hb2
  go_wp2_with fail
  refine (Slide_full a _ ca ls r w2 (HS.out.below HB2.out) rfl (by omega) HS1 HS2 HS3).mono ?_
  rintro e w3 ⟨v3, rfl, hT3, hb3⟩
  have HB3 : Hid (Below w.heap.size w w3) := HB2.out.trans (hb3.mono HB2.out.size)
  obtain ⟨a3, c3, rfl⟩ := hT3.none1
  clear hT3 hb3
  go_wp2_with fail
  refine (Rectify_any a _ ca ls w3 (HS.out.below HB3.out) rfl (by omega) E HQ).mono ?_
  rintro e w4 ⟨v4, rfl, hT4, hb4⟩
  have HB4 : Hid (Below w.heap.size w w4) := HB3.out.trans (hb4.mono HB3.out.size)
  obtain ⟨a4, c4, rfl⟩ := hT4.none1
  clear hT4 hb4
  go_wp2_with fail
  refine (RectifyBy_at a b _ _ ca cb ls o w4 (HS.out.below HB4.out) (HT.out.below HB4.out) rfl rfl (by omega) (by omega) HR1 HR2).mono ?_
  rintro e w5 ⟨v5, rfl, hT5, hb5⟩
  have HB5 : Hid (Below w.heap.size w w5) := HB4.out.trans (hb5.mono HB4.out.size)
  obtain ⟨a5, c5, rfl⟩ := hT5.none1
  clear hT5 hb5
  go_wp2_with fail
  refine (SkCheck_is a _ ca ls w5 (HS.out.below HB5.out) (by omega) rfl E).mono ?_
  rintro e w6 ⟨rfl, d6, hw6⟩
  have HB6 : Hid (Below w.heap.size w w6) := by rw [hw6]; exact below_drewN HB5.out d6
  clear hw6
  go_wp2
  go_ret
  exact ⟨rfl, HB6.out⟩

set_option maxHeartbeats 16000000 in
set_option maxRecDepth 100000 in
theorem ssays_ok (a b : Option Addr) (ca cb : Nat) (ls o : List (List Int)) (r : Int) (w : World) (hs : TableX w a ls) (ht : Table w b o) (hl : ls.length ≤ 2000000) (hf : ls.flatten.length ≤ 2000000) (hlo : o.length ≤ 2000000) (hfo : o.flatten.length ≤ 2000000)
    (E : Hid (schk ls = 0)) :
    Calls Try.prog 4 #[.slice a ls.length ca, .int .i64 r, .slice b o.length cb] w fun e w' => e = .returned (.bool true) ∧ Below w.heap.size w w' := by
  have HS : Hid (TableX w a ls) := hs
  have HT : Hid (Table w b o) := ht
  have HFl : Hid (ls.flatten.length ≤ 2000000) := hf
  have HFo : Hid (o.flatten.length ≤ 2000000) := hfo
  have HI : Hid (IsSk ls) := schk_ok.1 E.out
  have HF : Hid (Few ls) := HI.out.fews
  have hl2 : ls.length ≤ 1000 := HF.out.len
  obtain ⟨W, HWd⟩ : ∃ W, Hid (W = sword (H ls) ls) := ⟨_, rfl⟩
  have HW : Hid (W = if (0 : Int) = 0 then sword (H ls) ls else []) := by show _ = _; rw [if_pos rfl]; exact HWd.out
  have HWl : Hid (W.length ≤ 40) := by rw [HWd.out]; exact HI.out.wordS.1
  have HWb : Hid (∀ z ∈ W, 0 ≤ z ∧ z ≤ 1000) := fun z hz => by rw [HWd.out] at hz; have := HI.out.wordS.2 z hz; omega
  obtain ⟨P, HPd⟩ : ∃ P, Hid (P = recT ls) := ⟨_, rfl⟩
  have HQ : Hid (P = if (0 : Int) = 0 then recT ls else []) := by show _ = _; rw [if_pos rfl]; exact HPd.out
  have HPt : Hid (IsTab P) := by rw [HPd.out]; exact recT_isTab HI.out
  have HPb : Hid (∀ l ∈ P, l.length ≤ 17592186044416 ∧ ∀ z ∈ l, -9223372036854775808 ≤ z ∧ z ≤ 9223372036854775807) := HPt.out.few'.bd
  have HPl : Hid (P.length ≤ 17592186044416) := by have := HPt.out.rows; show _ ≤ _; omega
  obtain ⟨c1, HS1⟩ : ∃ c1, Hid (slC ls r = c1) := ⟨_, rfl⟩
  obtain ⟨Q, HS2⟩ : ∃ Q, Hid (Q = if slC ls r = 0 then (slR ls r.toNat).1 else []) := ⟨_, rfl⟩
  have HQf : Hid (Few Q) := by
    rw [HS2.out]
    by_cases c : slC ls r = 0
    · rw [if_pos c]; exact few_slR HF.out _
    · rw [if_neg c]; exact ⟨by simp, by simp, by simp⟩
  obtain ⟨i3, HI3⟩ : ∃ i3, Hid (i3 = if slC ls r = 0 then ((slR ls r.toNat).2 : Int) else 0) := ⟨_, rfl⟩
  obtain ⟨c2, HR1⟩ : ∃ c2, Hid (rbC ls o = c2) := ⟨_, rfl⟩
  obtain ⟨B, HR2⟩ : ∃ B, Hid (B = if rbC ls o = 0 then recT ls else []) := ⟨_, rfl⟩
  have HBb : Hid (∀ l ∈ B, l.length ≤ 17592186044416 ∧ ∀ z ∈ l, -9223372036854775808 ≤ z ∧ z ≤ 9223372036854775807) := by
    rw [HR2.out]
    by_cases c : rbC ls o = 0
    · rw [if_pos c, ← HPd.out]; exact HPb.out
    · rw [if_neg c]; show ∀ l ∈ [], _; simp
  clear hs ht hf hfo
  go_enter Try.func4, Try.ntmps4
  go_wp2_with fail
  refine (Skew_is a _ ca ls w HS.out.table rfl hl HFl.out E).mono ?_
  rintro e w1 ⟨rfl, hb1⟩
  have HB1 : Hid (Below w.heap.size w w1) := hb1
  clear hb1
  go_wp2_with fail
  refine (Word_any a _ ca ls w1 (HS.out.below HB1.out) rfl (by omega) E HW).mono ?_
  rintro e w2 ⟨v2, rfl, hO2, hb2⟩
  have HB2 : Hid (Below w.heap.size w w2) := HB1.out.trans (hb2.mono HB1.out.size)
  obtain ⟨a2, n2, cp2, rfl, hS2, hn2, -⟩ := hO2.opened (by have := HWl.out; omega) (small_wf HWb.out)
  have HN2 : Hid (n2 = W.length) := hn2
  have HA2 : Hid (Shows w2 a2 W) := hS2
  clear hO2 hb2 hn2 hS2
  go_wp2_with fail
  refine (Slide_full a _ ca ls r w2 (HS.out.below HB2.out) rfl (by omega) HS1 HS2 HI3).mono ?_
  rintro e w3 ⟨v3, rfl, hT3, hb3⟩
  have HB3 : Hid (Below w.heap.size w w3) := HB2.out.trans (hb3.mono HB2.out.size)
  have HA3 : Hid (Shows w3 a2 W) := HA2.out.below hb3
  obtain ⟨a3, n3, cp3, rfl, hR3, HN3⟩ := hT3.table HQf.out.bd
  have HQ3 : Hid (Table w3 a3 Q) := hR3
  clear hT3 hb3 hR3
  go_wp2_with fail
  refine (Rectify_any a _ ca ls w3 (HS.out.below HB3.out) rfl (by omega) E HQ).mono ?_
  rintro e w4 ⟨v4, rfl, hT4, hb4⟩
  have HB4 : Hid (Below w.heap.size w w4) := HB3.out.trans (hb4.mono HB3.out.size)
  have HA4 : Hid (Shows w4 a2 W) := HA3.out.below hb4
  have HQ4 : Hid (Table w4 a3 Q) := HQ3.out.below hb4
  obtain ⟨a4, n4, cp4, rfl, hR4, HN4⟩ := hT4.table HPb.out
  have HP4 : Hid (Table w4 a4 P) := hR4
  clear hT4 hb4 hR4
  go_wp2_with fail
  refine (RectifyBy_at a b _ _ ca cb ls o w4 (HS.out.below HB4.out) (HT.out.below HB4.out) rfl rfl (by omega) (by omega) HR1 HR2).mono ?_
  rintro e w5 ⟨v5, rfl, hT5, hb5⟩
  have HB5 : Hid (Below w.heap.size w w5) := HB4.out.trans (hb5.mono HB4.out.size)
  have HA5 : Hid (Shows w5 a2 W) := HA4.out.below hb5
  have HQ5 : Hid (Table w5 a3 Q) := HQ4.out.below hb5
  have HP5 : Hid (Table w5 a4 P) := HP4.out.below hb5
  obtain ⟨a5, n5, cp5, rfl, hR5, HN5⟩ := hT5.table HBb.out
  have HD5 : Hid (Table w5 a5 B) := hR5
  clear hT5 hb5 hR5
  have hsub : IntKind.i64.wrap ((ls.length : Int) - 1) = (ls.length : Int) - 1 := by rw [IntWalk.i64_left, IntWalk.wrap64_in _ (by omega)]
  go_wp2
  go_loopw [17, 18] (fun v iv wr => ∃ k : Nat, k ≤ ls.length ∧ iv = .int .i64 ((ls.length : Int) - 1 - (k : Int)) ∧ Hid (Owns wr w5.heap.size v (swF ls k) ∧ (swF ls k).length ≤ 1000 * k) ∧ Hid (Below w5.heap.size w5 wr)) (fun _ iv _ => ((intOf iv) + 1).toNat)
  case atStart => exact ⟨0, Nat.zero_le _, by simp, ⟨World.ownsRow_nil _ _ _ _, by simp [swF]⟩, Below.refl _ _⟩
  case round =>
    obtain ⟨k, hk, rfl, HO, HB⟩ := hrel
    by_cases hlt : k < ls.length
    · obtain ⟨m, HM⟩ : ∃ m, Hid (m = ls.length - 1 - k) := ⟨_, rfl⟩
      have hm : (ls.length : Int) - 1 - (k : Int) = (m : Int) := by rw [HM.out]; omega
      rw [hm]
      have hge : (m : Int) ≥ 0 := by omega
      have hml : (m : Int) < (ls.length : Int) := by rw [HM.out]; omega
      have HMl : Hid (m < ls.length) := by show _ < _; rw [HM.out]; omega
      have hms : IntKind.i64.wrap ((m : Int) - 1) = (m : Int) - 1 := by rw [IntWalk.i64_left, IntWalk.wrap64_in _ (by omega)]
      have HMe : Hid ((m : Int) - 1 = (ls.length : Int) - 1 - ((k + 1 : Nat) : Int)) := by show _ = _; rw [HM.out]; omega
      have HBw : Hid (Below w.heap.size w wr) := HB5.out.trans (HB.out.mono HB5.out.size)
      obtain ⟨b, off, ai, q, ci, rfl, hcr, HQ, HSk, hqc, hqb⟩ := (HS.out.below HBw.out).elem HMl.out
      have hrp := HF.out.one _ (row_mem HMl.out)
      obtain ⟨b2, off2, hai, -, -⟩ := HSk.out.cells (fun e => by have := hrp.1; rw [e] at this; simp at this)
      subst hai
      obtain ⟨h, HH⟩ : ∃ h, Hid (hol (row ls m) = h) := ⟨_, rfl⟩
      have hhq : h ≤ q := by rw [← HH.out, HQ.out]; exact hol_le _
      have hhq' : (h : Int) ≤ (q : Int) := by omega
      have hqc' : (q : Int) ≤ (ci : Int) := by omega
      have HCall : Hid (Calls Try.prog 19 #[.slice (some ⟨b2, off2, none⟩) q ci] wr.drew fun e w' => e = .returned (.int .i64 h) ∧ w' = wr.drew) := RHoles_is _ _ _ (row ls m) _ (HSk.out.below (below_drewN (Below.refl _ _) 1)) HQ.out HSk.out.len HH
      have HNx : Hid (swF ls (k + 1) = swF ls k ++ (row ls m).drop h) := by show _ = _; simp only [swF]; unfold H; rw [← HM.out, HH.out]
      have HLd : Hid (q - h = ((row ls m).drop h).length) := by show _ = _; rw [List.length_drop, HQ.out]
      have HLen : Hid ((swF ls k).length + ((row ls m).drop h).length ≤ 17592186044414) := by have := HO.out.2; have := (HF.out.one _ (row_mem HMl.out)).2; show _ ≤ _; rw [List.length_drop]; omega
      have HLx : Hid ((swF ls (k + 1)).length ≤ 1000 * (k + 1)) := by rw [HNx.out]; have := HO.out.2; have := (HF.out.one _ (row_mem HMl.out)).2; show _ ≤ _; rw [List.length_append, List.length_drop]; omega
      clear hm hrp
      by_cases hch : ci = h
      · subst hch
        have HSd : Hid (Shows wr.drew (some ⟨b2, off2, none⟩) ((row ls m).drop ci)) := by
          show Shows _ _ _
          rw [List.drop_eq_nil_of_le (by have := HQ.out; omega)]
          exact ⟨by simp, fun z hz => by simp at hz, fun hne => absurd rfl hne⟩
        have HOd := HO.out.1.below (below_drewN (Below.refl _ _) 1)
        have hqe : q - ci = 0 := by omega
        have HLd0 : Hid (0 = ((row ls m).drop ci).length) := by rw [← HLd.out]; exact hqe.symm
        go_wp2_with fail
        go_region_law (first | (refine step_rholes rfl (.tmp 106) rfl (by first | (simp [Act.eval]; done) | (simp [Act.eval, Act.put]; done)) HCall.out ?_) | (refine step_src rfl (.tmp 98) (.tmp 108) rfl (by first | (simp [Act.eval]; done) | (simp [Act.eval, Act.put]; done)) (show _ = Value.slice (some ⟨b2, off2, none⟩) 0 0 from (by first | (simp [Act.eval]; done) | (simp [Act.eval, Act.put]; done))) HOd HSd.out HLd0.out (fun z => by cases z) HLen.out HB.out.size ?_; intro v' w2 hO' hb' _; clear HOd))
        all_goals (
          have HO2 : Hid (Owns w2 w5.heap.size v' (swF ls (k + 1)) ∧ (swF ls (k + 1)).length ≤ 1000 * (k + 1)) := ⟨by rw [HNx.out]; exact hO', HLx.out⟩
          have HB2 : Hid (Below w5.heap.size w5 w2) := (below_drewN HB.out 1).trans hb'
          clear hO' hb'
          go_wp2
          go_roundw
          case rel => exact ⟨k + 1, by omega, by rw [HMe.out], HO2, HB2⟩
          case measure => simp [intOf])
      · have HSd : Hid (Shows wr.drew (some ⟨b2, off2 + h, none⟩) ((row ls m).drop h)) := (HSk.out.dropO h).below (below_drewN (Below.refl _ _) 1)
        have HOd := HO.out.1.below (below_drewN (Below.refl _ _) 1)
        go_wp2_with fail
        go_region_law (first | (refine step_rholes rfl (.tmp 106) rfl (by first | (simp [Act.eval]; done) | (simp [Act.eval, Act.put]; done)) HCall.out ?_) | (refine step_src rfl (.tmp 98) (.tmp 108) rfl (by first | (simp [Act.eval]; done) | (simp [Act.eval, Act.put]; done)) (show _ = Value.slice (some ⟨b2, off2 + h, none⟩) (q - h) (ci - h) from (by first | (simp [Act.eval]; done) | (simp [Act.eval, Act.put]; done))) HOd HSd.out HLd.out (fun z => by cases z) HLen.out HB.out.size ?_; intro v' w2 hO' hb' _; clear HOd))
        all_goals (
          have HO2 : Hid (Owns w2 w5.heap.size v' (swF ls (k + 1)) ∧ (swF ls (k + 1)).length ≤ 1000 * (k + 1)) := ⟨by rw [HNx.out]; exact hO', HLx.out⟩
          have HB2 : Hid (Below w5.heap.size w5 w2) := (below_drewN HB.out 1).trans hb'
          clear hO' hb'
          go_wp2
          go_roundw
          case rel => exact ⟨k + 1, by omega, by rw [HMe.out], HO2, HB2⟩
          case measure => simp [intOf])
    · obtain rfl : k = ls.length := by omega
      have hm : (ls.length : Int) - 1 - (ls.length : Int) = -1 := by omega
      rw [hm]
      have hge : ¬ (-1 : Int) ≥ 0 := by omega
      clear hm
      have hO := HO.out.1
      rw [swF_is, ← HWd.out] at hO
      obtain ⟨a6, n6, cp6, rfl, hS6, hn6, -⟩ := hO.opened (by have := HWl.out; omega) (small_wf HWb.out)
      have HN6 : Hid (n6 = W.length) := hn6
      have HA6 : Hid (Shows wr a6 W) := hS6
      have HB6 : Hid (Below w.heap.size w wr) := HB5.out.trans (HB.out.mono HB5.out.size)
      clear hO hS6 hn6 HO
      go_wp2_with fail
      refine (SkCheck_is a _ ca ls wr (HS.out.below HB6.out) (by omega) rfl E).mono ?_
      rintro e w7 ⟨rfl, d7, hw7⟩
      have HB67 : Hid (Below wr.heap.size wr w7) := by rw [hw7]; exact below_drewN (Below.refl _ _) d7
      have HB57 : Hid (Below w5.heap.size w5 w7) := HB.out.trans (HB67.out.mono HB.out.size)
      clear hw7
      go_wp2_with fail
      refine (listi_ok _ _ _ _ _ _ w7 W (HA5.out.below HB57.out) (HA6.out.below HB67.out) HN2 HN6).mono ?_
      rintro e w8 ⟨rfl, d8, hw8⟩
      have HB58 : Hid (Below w5.heap.size w5 w8) := by rw [hw8]; exact below_drewN HB57.out d8
      have HB8 : Hid (Below w.heap.size w w8) := HB5.out.trans (HB58.out.mono HB5.out.size)
      clear hw8
      go_wp2_with fail
      refine (Straight_at a _ ca ls w8 (HS.out.below HB8.out) rfl E.out).mono ?_
      rintro e w9 ⟨v9, rfl, hT9, hb9⟩
      rw [← HPd.out] at hT9
      have HB59 : Hid (Below w5.heap.size w5 w9) := HB58.out.trans (hb9.mono HB58.out.size)
      obtain ⟨a9, n9, cp9, rfl, hR9, HN9⟩ := hT9.table HPb.out
      have HP9 : Hid (Table w9 a9 P) := hR9
      clear hT9 hb9 hR9
      go_wp2_with fail
      refine (tabi_ok _ _ _ _ _ _ w9 P (HP5.out.below HB59.out) HP9.out HN4 HN9 HPl.out).mono ?_
      rintro e w10 ⟨rfl, d10, hw10⟩
      have HB510 : Hid (Below w5.heap.size w5 w10) := by rw [hw10]; exact below_drewN HB59.out d10
      have HB10 : Hid (Below w.heap.size w w10) := HB5.out.trans (HB510.out.mono HB5.out.size)
      clear hw10
      obtain ⟨t, HTc⟩ : ∃ t, Hid (corB ls r = t) := ⟨_, rfl⟩
      go_wp2_with fail
      refine (IsCorner_is a _ ca ls r w10 (HS.out.below HB10.out).table rfl hl2 HTc).mono ?_
      rintro e w11 ⟨rfl, d11, hw11⟩
      have HB511 : Hid (Below w5.heap.size w5 w11) := by rw [hw11]; exact below_drewN HB510.out d11
      have HB11 : Hid (Below w.heap.size w w11) := HB5.out.trans (HB511.out.mono HB5.out.size)
      clear hw11
      go_upto_if 134 with fail
      go_cut [] (fun wc => Hid (Below w5.heap.size w5 wc))
      case first =>
        cases t with
        | false =>
          have hcor : ¬ (0 ≤ r ∧ r < (ls.length : Int) ∧ H ls (r.toNat + 1) < H ls r.toNat) := of_decide_eq_false HTc.out
          have hc1 : c1 = 5 := by rw [← HS1.out]; unfold slC; rw [if_neg (by rw [E.out]; simp), if_neg hcor]
          subst hc1
          have hQ0 : Q = [] := by rw [HS2.out, HS1.out]; rfl
          have hn3 : n3 = 0 := by rw [HN3.out, hQ0]; rfl
          subst hn3
          have hi3 : i3 = 0 := by rw [HI3.out, HS1.out]; rfl
          subst hi3
          clear hcor hQ0
          go_wp2_with fail
          go_meet
          exact HB511
        | true =>
          have hcor : 0 ≤ r ∧ r < (ls.length : Int) ∧ H ls (r.toNat + 1) < H ls r.toNat := of_decide_eq_true HTc.out
          have hc1 : c1 = 0 := by rw [← HS1.out]; unfold slC; rw [if_neg (by rw [E.out]; simp), if_pos hcor]
          subst hc1
          have hQ0 : Q = (slR ls r.toNat).1 := by rw [HS2.out, if_pos HS1.out]
          have hi3 : i3 = ((slR ls r.toNat).2 : Int) := by rw [HI3.out, if_pos HS1.out]
          obtain ⟨i, HIi⟩ : ∃ i : Nat, Hid (r = (i : Int)) := ⟨r.toNat, by show _ = _; omega⟩
          have e1 := HIi.out
          subst e1
          rw [Int.toNat_natCast] at hQ0 hcor hi3
          have HQd : Hid (Q = (slR ls i).1) := hQ0
          have HCo : Hid (H ls (i + 1) < H ls i) := hcor.2.2
          have hil : i < ls.length := by omega
          have hil' : (i : Int) < (ls.length : Int) := by omega
          obtain ⟨bb, off, ai, m, ci, hab, hcr, HM, HSk, -, hmb⟩ := (HS.out.below HB11.out).table.elem hil
          subst hab
          obtain ⟨h, HH⟩ : ∃ h, Hid (hol (row ls i) = h) := ⟨_, rfl⟩
          have hh1 : 1 ≤ h := by rw [← HH.out]; have : H ls (i + 1) < H ls i := HCo.out; unfold H at this; omega
          have hhb : h ≤ 1000 := by rw [← HH.out]; have := hol_le (row ls i); have := (HF.out.one _ (row_mem hil)).2; omega
          obtain ⟨g, HG⟩ : ∃ g, Hid (h = g + 1) := ⟨h - 1, by show _ = _; omega⟩
          have hsubh : IntKind.i64.wrap ((h : Int) - 1) = (g : Int) := by rw [IntWalk.i64_left, IntWalk.wrap64_in _ (by omega)]; rw [HG.out]; omega
          have HHol : Hid (Hol (less (H ls) i) ls i g) := by
            have := (corner_hol HI.out.sk HCo.out).1
            have e2 : H ls i - 1 = g := by unfold H; rw [HH.out, HG.out]; omega
            rw [e2] at this; exact this
          have HQm : Hid ((slR ls i).1 = tk (mv (left ls i g) ls i g).1 (mv (left ls i g) ls i g).2.1 ∧ (slR ls i).2 = (mv (left ls i g) ls i g).2.1) := by
            have e2 : hol (row ls i) - 1 = g := by rw [HH.out, HG.out]; omega
            unfold slR
            rw [e2]; exact ⟨rfl, rfl⟩
          obtain ⟨y, HY⟩ : ∃ y, Hid (y = (slR ls i).2) := ⟨_, rfl⟩
          rw [← HY.out] at hi3
          have hyy : (i3 != (y : Int)) = false := by rw [hi3]; simp
          clear hQ0 hcor hi3
          go_wp2_with fail
          refine (RHoles_is _ _ _ (row ls i) w11 HSk.out HM.out HSk.out.len HH).mono ?_
          rintro e w12 ⟨rfl, hw12⟩
          obtain rfl : w11 = w12 := hw12.symm
          clear hw12
          go_wp2_with fail
          refine (RSlid_at _ _ _ ls i g w11 (HS.out.below HB11.out).table rfl HF.out HHol.out).mono ?_
          rintro e w13 ⟨v13, rfl, hT13, hb13⟩
          rw [← HQm.out.1, ← HQd.out] at hT13
          rw [← HQm.out.2, ← HY.out]
          obtain ⟨y2, HY2⟩ : ∃ y2, Hid (y2 = (mv (left ls i g) ls i g).2.2) := ⟨_, rfl⟩
          rw [← HY2.out]
          have HB513 : Hid (Below w5.heap.size w5 w13) := HB511.out.trans (hb13.mono HB511.out.size)
          obtain ⟨a13, n13, cp13, rfl, hR13, HN13⟩ := hT13.table HQf.out.bd
          have HQ13 : Hid (Table (w13.alloc (.cells #[.int .i64 y, .int .i64 y2] 51)) a13 Q) := hR13.below ((Below.refl _ _).alloc (Nat.le_refl _) _)
          have HB514 : Hid (Below w5.heap.size w5 (w13.alloc (.cells #[.int .i64 y, .int .i64 y2] 51))) := HB513.out.alloc HB513.out.size _
          obtain ⟨w14, HW14⟩ : ∃ w14, Hid (w14 = w13.alloc (.cells #[.int .i64 y, .int .i64 y2] 51)) := ⟨_, rfl⟩
          have hat : w14.cell? ⟨w13.heap.size, 0, none⟩ = some (.int .i64 y) := by rw [HW14.out, World.cell?_alloc_at _ _ _ _ rfl]; rfl
          have HAt : Hid (w14.cell? ⟨w13.heap.size, 0, none⟩ = some (.int .i64 y)) := hat
          rw [← HW14.out] at HQ13 HB514
          have HQl : Hid (Q.length ≤ 17592186044416) := by have := HQf.out.len; show _ ≤ _; omega
          clear hT13 hb13 hR13 hat
          go_wp2_with fail
          rw [← HW14.out]
          refine (RowsL_i _ _ _ _ _ _ Q w14 (HQ5.out.below HB514.out) HQ13.out HN3.out HN13.out HQl.out).mono ?_
          rintro e w15 ⟨rfl, d15, hw15⟩
          have HB515 : Hid (Below w5.heap.size w5 w15) := by rw [hw15]; exact below_drewN HB514.out d15
          have hat : w15.cell? ⟨w13.heap.size, 0, none⟩ = some (.int .i64 y) := by rw [hw15]; exact HAt.out
          clear hw15
          go_wp2_with fail
          go_meet
          exact HB515
      case rest =>
        have HB5c : Hid (Below w5.heap.size w5 wc) := hcut
        have HBc : Hid (Below w.heap.size w wc) := HB5.out.trans (HB5c.out.mono HB5.out.size)
        clear hcut
        obtain ⟨d, HD⟩ : ∃ d, Hid (tchk o = d) := ⟨_, rfl⟩
        go_wp2_with fail
        refine (RTab_is b _ cb o wc (HT.out.below HBc.out) rfl hlo HFo.out HD).mono ?_
        rintro e w16 ⟨rfl, hb16⟩
        have HB516 : Hid (Below w5.heap.size w5 w16) := HB5c.out.trans (hb16.mono HB5c.out.size)
        have HB16 : Hid (Below w.heap.size w w16) := HB5.out.trans (HB516.out.mono HB5.out.size)
        clear hb16
        have HRb : Hid (c2 = if scode o ≠ 0 then scode o else if shapeL o = hsF ls ls.length then 0 else 3) := by
          show _ = _; rw [← HR1.out]; unfold rbC; rw [if_neg (by rw [E.out]; simp)]
        by_cases hd : d = 0
        · subst hd
          have HTo : Hid (IsTab o) := tchk_ok.1 HD.out
          obtain ⟨s, HSd⟩ : ∃ s, Hid (stdB o = s) := ⟨_, rfl⟩
          go_wp2_with fail
          refine (Plain_at b _ cb o w16 (HT.out.below HB16.out) rfl HTo.out HSd.out).mono ?_
          rintro e w17 ⟨rfl, hb17⟩
          have HB517 : Hid (Below w5.heap.size w5 w17) := HB516.out.trans (hb17.mono HB516.out.size)
          have HB17 : Hid (Below w.heap.size w w17) := HB5.out.trans (HB517.out.mono HB5.out.size)
          clear hb17
          cases s with
          | false =>
            have hsc : scode o = 3 := by unfold scode; rw [if_pos HD.out, HSd.out]; rfl
            have hc2 : c2 = 3 := by rw [HRb.out, hsc]; rfl
            subst hc2
            have hB0 : B = [] := by rw [HR2.out, HR1.out, if_neg (by simp)]
            have hn5 : n5 = 0 := by rw [HN5.out, hB0]; rfl
            subst hn5
            clear hB0 hsc
            go_wp2_with fail
            refine (Straight_at a _ ca ls w17 (HS.out.below HB17.out) rfl E.out).mono ?_
            rintro e w21 ⟨v21, rfl, hT21, hb21⟩
            have HB21 : Hid (Below w.heap.size w w21) := HB17.out.trans (hb21.mono HB17.out.size)
            obtain ⟨a21, n21, cp21, hv21⟩ : ∃ a21 n21 cp21, v21 = .slice a21 n21 cp21 := by obtain ⟨vs, h⟩ := hT21; obtain ⟨x, y, e⟩ := h.shape; exact ⟨_, _, _, e⟩
            subst hv21
            clear hT21 hb21
            go_wp2_with fail
            refine (tabi_err _ _ _ _ _ w21 3 (by decide)).mono ?_
            rintro e w22 ⟨rfl, d22, hw22⟩
            have HB22 : Hid (Below w.heap.size w w22) := by rw [hw22]; exact below_drewN HB21.out d22
            clear hw22
            go_wp2
            go_ret
            exact ⟨rfl, HB22.out⟩
          | true =>
            have hsc : scode o = 0 := by unfold scode; rw [if_pos HD.out, HSd.out]; rfl
            have HSc : Hid (scode o = 0) := hsc
            clear hsc
            go_wp2_with fail
            refine (RRows_at b _ cb o w17 (HT.out.below HB17.out) rfl (by have := HTo.out.rows; omega)).mono ?_
            rintro e w18 ⟨v18, rfl, hO18, hb18⟩
            have HB518 : Hid (Below w5.heap.size w5 w18) := HB517.out.trans (hb18.mono HB517.out.size)
            have HB18 : Hid (Below w.heap.size w w18) := HB5.out.trans (HB518.out.mono HB5.out.size)
            obtain ⟨a18, n18, cp18, rfl, hS18, hn18, -⟩ := hO18.opened (by have := (shp_small HTo.out).1; omega) (small_wf (shp_small HTo.out).2)
            have HA18 : Hid (Shows w18 a18 (shapeL o)) := hS18
            obtain rfl : n18 = (shapeL o).length := hn18
            clear hO18 hb18 hS18
            go_wp2_with fail
            refine (HoleShape_at a _ ca ls w18 (HS.out.below HB18.out).table rfl hl2).mono ?_
            rintro e w19 ⟨v19, rfl, hO19, hb19⟩
            have HB519 : Hid (Below w5.heap.size w5 w19) := HB518.out.trans (hb19.mono HB518.out.size)
            have HB19 : Hid (Below w.heap.size w w19) := HB5.out.trans (HB519.out.mono HB5.out.size)
            obtain ⟨a19, n19, cp19, rfl, hS19, hn19, -⟩ := hO19.opened (by have := hsF_len ls ls.length; omega) (fun z hz => by have := hs_bd HI.out z hz; omega)
            have HA19 : Hid (Shows w19 a19 (hsF ls ls.length)) := hS19
            have HA18b : Hid (Shows w19 a18 (shapeL o)) := HA18.out.below hb19
            obtain rfl : n19 = (hsF ls ls.length).length := hn19
            clear hO19 hb19 hS19
            obtain ⟨q, HQq⟩ : ∃ q, Hid (decide (shapeL o = hsF ls ls.length) = q) := ⟨_, rfl⟩
            go_wp2_with fail
            refine (SEqual_any a18 a19 _ _ (shapeL o) (hsF ls ls.length) w19 HA18b.out HA19.out).mono ?_
            rintro e w20 ⟨rfl, d20, hw20⟩
            rw [HQq.out]
            have HB520 : Hid (Below w5.heap.size w5 w20) := by rw [hw20]; exact below_drewN HB519.out d20
            have HB20 : Hid (Below w.heap.size w w20) := HB5.out.trans (HB520.out.mono HB5.out.size)
            clear hw20
            cases q with
            | false =>
              have hc2 : c2 = 3 := by rw [HRb.out, if_neg (by rw [HSc.out]; simp), if_neg (of_decide_eq_false HQq.out)]
              subst hc2
              have hB0 : B = [] := by rw [HR2.out, HR1.out, if_neg (by simp)]
              have hn5 : n5 = 0 := by rw [HN5.out, hB0]; rfl
              subst hn5
              clear hB0
              go_wp2_with fail
              refine (Straight_at a _ ca ls w20 (HS.out.below HB20.out) rfl E.out).mono ?_
              rintro e w21 ⟨v21, rfl, hT21, hb21⟩
              have HB21 : Hid (Below w.heap.size w w21) := HB20.out.trans (hb21.mono HB20.out.size)
              obtain ⟨a21, n21, cp21, hv21⟩ : ∃ a21 n21 cp21, v21 = .slice a21 n21 cp21 := by obtain ⟨vs, h⟩ := hT21; obtain ⟨x, y, e⟩ := h.shape; exact ⟨_, _, _, e⟩
              subst hv21
              clear hT21 hb21
              go_wp2_with fail
              refine (tabi_err _ _ _ _ _ w21 3 (by decide)).mono ?_
              rintro e w22 ⟨rfl, d22, hw22⟩
              have HB22 : Hid (Below w.heap.size w w22) := by rw [hw22]; exact below_drewN HB21.out d22
              clear hw22
              go_wp2
              go_ret
              exact ⟨rfl, HB22.out⟩
            | true =>
              have hc2 : c2 = 0 := by rw [HRb.out, if_neg (by rw [HSc.out]; simp), if_pos (of_decide_eq_true HQq.out)]
              subst hc2
              have hB0 : B = P := by rw [HR2.out, if_pos HR1.out, HPd.out]
              have HD5P : Hid (Table w5 a5 P) := by rw [← hB0]; exact HD5.out
              have HN5P : Hid (n5 = P.length) := by rw [← hB0]; exact HN5.out
              clear hB0
              go_wp2_with fail
              refine (Straight_at a _ ca ls w20 (HS.out.below HB20.out) rfl E.out).mono ?_
              rintro e w21 ⟨v21, rfl, hT21, hb21⟩
              rw [← HPd.out] at hT21
              have HB521 : Hid (Below w5.heap.size w5 w21) := HB520.out.trans (hb21.mono HB520.out.size)
              have HB21 : Hid (Below w.heap.size w w21) := HB5.out.trans (HB521.out.mono HB5.out.size)
              obtain ⟨a21, n21, cp21, rfl, hR21, HN21⟩ := hT21.table HPb.out
              have HP21 : Hid (Table w21 a21 P) := hR21
              clear hT21 hb21 hR21
              go_wp2_with fail
              refine (tabi_ok _ _ _ _ _ _ w21 P (HD5P.out.below HB521.out) HP21.out HN5P HN21 HPl.out).mono ?_
              rintro e w22 ⟨rfl, d22, hw22⟩
              have HB22 : Hid (Below w.heap.size w w22) := by rw [hw22]; exact below_drewN HB21.out d22
              clear hw22
              go_wp2
              go_ret
              exact ⟨rfl, HB22.out⟩
        · have hdb : (d == 0) = false := beq_false_of_ne hd
          have hdn : (d != 0) = true := bne_iff_ne.2 hd
          have hsc : scode o = d := by unfold scode; rw [if_neg (by rw [HD.out]; exact hd), HD.out]
          have hc2 : c2 = d := by rw [HRb.out, hsc, if_pos hd]
          subst hc2
          have hB0 : B = [] := by rw [HR2.out, HR1.out, if_neg hd]
          have hn5 : n5 = 0 := by rw [HN5.out, hB0]; rfl
          subst hn5
          clear hB0 hsc hd
          go_wp2_with fail
          refine (Straight_at a _ ca ls w16 (HS.out.below HB16.out) rfl E.out).mono ?_
          rintro e w21 ⟨v21, rfl, hT21, hb21⟩
          have HB21 : Hid (Below w.heap.size w w21) := HB16.out.trans (hb21.mono HB16.out.size)
          obtain ⟨a21, n21, cp21, hv21⟩ : ∃ a21 n21 cp21, v21 = .slice a21 n21 cp21 := by obtain ⟨vs, h⟩ := hT21; obtain ⟨x, y, e⟩ := h.shape; exact ⟨_, _, _, e⟩
          subst hv21
          clear hT21 hb21
          go_wp2_with fail
          refine (tabi_err _ _ _ _ _ w21 c2 hdn).mono ?_
          rintro e w22 ⟨rfl, d22, hw22⟩
          have HB22 : Hid (Below w.heap.size w w22) := by rw [hw22]; exact below_drewN HB21.out d22
          clear hw22
          go_wp2
          go_ret
          exact ⟨rfl, HB22.out⟩
theorem ssays_at (a b : Option Addr) (ca cb : Nat) (ls o : List (List Int)) (r : Int) (w : World) (hs : TableX w a ls) (ht : Table w b o) (hl : ls.length ≤ 2000000) (hf : ls.flatten.length ≤ 2000000) (hlo : o.length ≤ 2000000) (hfo : o.flatten.length ≤ 2000000) :
    Calls Try.prog 4 #[.slice a ls.length ca, .int .i64 r, .slice b o.length cb] w fun e w' => e = .returned (.bool true) ∧ Below w.heap.size w w' := by
  by_cases c : schk ls = 0
  · exact ssays_ok a b ca cb ls o r w hs ht hl hf hlo hfo c
  · exact ssays_err a b ca cb ls o r w hs ht hl hf hlo (schk ls) (bne_iff_ne.2 c) rfl

end Go.Proofs.Ytjciandmpfcfjaa
