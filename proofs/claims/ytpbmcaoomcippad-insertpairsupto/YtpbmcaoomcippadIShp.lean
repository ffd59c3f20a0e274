/-
  The contract of ferlaw.shapes.
-/
import Derived.Test.YtpbmcaoomcippadIBk2
import Derived.Test.YtpbmcaoomcippadVChk
namespace Go.Proofs.Ytpbmcaoomcippad
open Go.RowKit

set_option maxHeartbeats 4000000 in
theorem shapes_at {p q : List (List Int)} {c : Int} (a b : Option Addr) (n m ca cb : Nat) (w : World) (hp : Table w a p) (hq : Table w b q) (hn : n = p.length) (hm : m = q.length) (hlp : p.length ≤ 2000000 ∧ p.flatten.length ≤ 2000000) (hlq : q.length ≤ 2000000 ∧ q.flatten.length ≤ 2000000) (hc : Hid (bothC p q = c)) :
    Calls Try.prog 15 #[.slice a n ca, .slice b m cb] w fun e w' => e = .returned (.int .i64 c) ∧ Below w.heap.size w w' := by
  subst hn; subst hm
  have HP : Hid (Table w a p) := hp
  have HQ : Hid (Table w b q) := hq
  have HLp : Hid (p.length ≤ 2000000 ∧ p.flatten.length ≤ 2000000) := hlp
  have HLq : Hid (q.length ≤ 2000000 ∧ q.flatten.length ≤ 2000000) := hlq
  clear hp hq hlp hlq
  obtain ⟨d, hd⟩ : ∃ d, tchk p = d := ⟨_, rfl⟩
  obtain ⟨e, he⟩ : ∃ e, tchk q = e := ⟨_, rfl⟩
  have ED : Hid (tchk p = d) := hd
  have EE : Hid (tchk q = e) := he
  go_enter Try.func15, Try.ntmps15
  go_wp2_with fail
  refine (RTab_is _ _ _ p _ HP.out rfl HLp.out.1 HLp.out.2 ED).mono ?_
  rintro e1 w1 ⟨rfl, hb1⟩
  have HB1 : Hid (Below w.heap.size w w1) := hb1
  clear hb1
  go_wp2_with fail
  refine (RTab_is _ _ _ q _ (HQ.out.below HB1.out) rfl HLq.out.1 HLq.out.2 EE).mono ?_
  rintro e2 w2 ⟨rfl, hb2⟩
  have HB2 : Hid (Below w.heap.size w w2) := HB1.out.trans (hb2.mono HB1.out.size)
  clear hb2
  by_cases hd0 : d = 0
  · by_cases he0 : e = 0
    · subst hd0; subst he0
      have hTp := tchk_ok.1 hd
      have hTq := tchk_ok.1 he
      have HTs : Hid (p.length ≤ 1000 ∧ q.length ≤ 1000) := ⟨by have := hTp.rows; omega, by have := hTq.rows; omega⟩
      have HS1 : Hid ((shapeL p).length ≤ 40 ∧ ∀ z ∈ shapeL p, 0 ≤ z ∧ z ≤ 1000) := shape_small hTp
      have HS2 : Hid ((shapeL q).length ≤ 40 ∧ ∀ z ∈ shapeL q, 0 ≤ z ∧ z ≤ 1000) := shape_small hTq
      obtain ⟨t, ht⟩ : ∃ t, decide (shapeL p = shapeL q) = t := ⟨_, rfl⟩
      have HD : Hid (decide (shapeL p = shapeL q) = t) := ht
      have HC : Hid (c = if t = true then 0 else 3) := by
        rw [← hc.out]; unfold bothC
        rw [if_neg (by rw [hd]; simp), if_neg (by rw [he]; simp), ← ht]
        show _ = _
        by_cases h : shapeL p = shapeL q
        · rw [if_pos h, if_pos (decide_eq_true h)]
        · rw [if_neg h, if_neg (by simpa using h)]
      clear hd he hTp hTq ht
      go_wp2_with fail
      refine (RRows_at _ _ _ p _ (HP.out.below HB2.out) rfl HTs.out.1).mono ?_
      rintro e3 w3 ⟨v3, rfl, hO3, hb3⟩
      have HO3 : Hid (Owns w3 w2.heap.size v3 (shapeL p)) := hO3
      have HB3 : Hid (Below w.heap.size w w3) := HB2.out.trans (hb3.mono HB2.out.size)
      clear hO3 hb3
      go_wp2_with fail
      refine (RRows_at _ _ _ q _ (HQ.out.below HB3.out) rfl HTs.out.2).mono ?_
      rintro e4 w4 ⟨v4, rfl, hO4, hb4⟩
      have HB4 : Hid (Below w.heap.size w w4) := HB3.out.trans (hb4.mono HB3.out.size)
      obtain ⟨a1, c1, rfl, hS1⟩ := (HO3.out.below hb4).shows (by have := HS1.out.1; omega) (small_wf HS1.out.2)
      obtain ⟨a2, c2, rfl, hS2⟩ := hO4.shows (by have := HS2.out.1; omega) (small_wf HS2.out.2)
      have HE1 : Hid (Shows w4 a1 (shapeL p)) := hS1
      have HE2 : Hid (Shows w4 a2 (shapeL q)) := hS2
      clear hO4 hb4 hS1 hS2
      go_wp2_with fail
      refine (Same_any _ _ _ _ _ _ _ HE1.out HE2.out).mono ?_
      rintro e5 w5 ⟨rfl, d5, rfl⟩
      rw [HD.out]
      cases t with
      | true =>
        go_wp2
        go_ret
        exact ⟨by rw [HC.out]; rfl, below_drewN HB4.out d5⟩
      | false =>
        go_wp2
        go_ret
        exact ⟨by rw [HC.out]; rfl, below_drewN HB4.out d5⟩
    · subst hd0
      have heb : (e != 0) = true := bne_iff_ne.2 he0
      have HC : Hid (c = e) := by
        rw [← hc.out]; unfold bothC
        rw [if_neg (by rw [hd]; simp), if_pos (by rw [he]; exact he0), he]; rfl
      clear hd he
      go_wp2
      go_ret
      exact ⟨by rw [HC.out]; rfl, HB2.out⟩
  · have hdb : (d != 0) = true := bne_iff_ne.2 hd0
    have HC : Hid (c = d) := by
      rw [← hc.out]; unfold bothC
      rw [if_pos (by rw [hd]; exact hd0), hd]; rfl
    clear hd he
    go_wp2
    go_ret
    exact ⟨by rw [HC.out]; rfl, HB2.out⟩

end Go.Proofs.Ytpbmcaoomcippad
