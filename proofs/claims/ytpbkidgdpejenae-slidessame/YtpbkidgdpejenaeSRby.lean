/-
  The contract of slides.RectifyBy.
-/
import Derived.Test.YtpbkidgdpejenaeSNum
import Derived.Test.YtpbkidgdpejenaeSEql
namespace Go.Proofs.Ytpbkidgdpejenae
open Go.RowKit

/-- What RectifyBy says. -/
def rbC (ls o : List (List Int)) : Int := if schk ls ≠ 0 then schk ls else if scode o ≠ 0 then scode o else if shapeL o = hsF ls ls.length then 0 else 3
theorem hs_shape {ls o : List (List Int)} (hI : IsSk ls) (he : shapeL o = hsF ls ls.length) : ∀ a, H ls a = (row o a).length := by
  obtain ⟨j, h1, h2, h3, h4⟩ := hsF_tab hI.sk ls.length
  rw [h2] at he
  have hl : o.length = j := by
    have := congrArg List.length he
    unfold shapeL at this
    rw [tab_length, tab_length] at this; exact this
  intro a
  by_cases c : a < j
  · have this : (shapeL o).getD a 0 = (tab j (fun a => (H ls a : Int))).getD a 0 := by rw [he]
    unfold shapeL at this
    rw [tab_getD _ _ _ (by omega), tab_getD _ _ _ c] at this
    omega
  · rw [row_out (ls := o) (by omega)]
    rcases h3 with q | q
    · unfold H; rw [row_out (by omega)]; rfl
    · have := hI.sk.mono (a := j) (c := a) (by omega)
      simp; omega

set_option maxHeartbeats 8000000 in
theorem RectifyBy_at {cc : Int} {Qq : List (List Int)} (a b : Option Addr) (n m ca cb : Nat) (ls o : List (List Int)) (w : World) (hs : TableX w a ls) (ht : Table w b o) (hn : n = ls.length) (hm : m = o.length) (hl : ls.length ≤ 17592186044416) (hlo : o.length ≤ 17592186044416) (E1 : Hid (rbC ls o = cc)) (E2 : Hid (Qq = if rbC ls o = 0 then recT ls else [])) :
    Calls Try.prog 21 #[.slice a n ca, .slice b m cb] w fun e w' => ∃ v, e = .returned (.tuple #[v, .int .i64 cc]) ∧ Tbl w' w.heap.size v Qq ∧ Below w.heap.size w w' := by
  subst hn; subst hm
  have HS : Hid (TableX w a ls) := hs
  have HT : Hid (Table w b o) := ht
  clear hs ht
  obtain ⟨c1, HC1⟩ : ∃ c1, Hid (schk ls = c1) := ⟨_, rfl⟩
  by_cases h1 : c1 = 0
  · subst h1
    have HI : Hid (IsSk ls) := schk_ok.1 HC1.out
    have HF : Hid (Few ls) := HI.out.fews
    have hl2 := HF.out.len
    have HR : Hid (rbC ls o = if scode o ≠ 0 then scode o else if shapeL o = hsF ls ls.length then 0 else 3) := by show _ = _; unfold rbC; rw [if_neg (by rw [HC1.out]; simp)]
    go_enter Try.func21, Try.ntmps21
    go_wp2_with fail
    refine (SkCheck_is a _ ca ls w HS.out hl rfl HC1).mono ?_
    rintro e w1 ⟨rfl, d1, hw1⟩
    have HB1 : Hid (Below w.heap.size w w1) := by rw [hw1]; exact below_drewN (Below.refl _ _) d1
    clear hw1
    go_wp2_with fail
    refine (checkStandard_at b _ cb o w1 (HT.out.below HB1.out) hlo rfl).mono ?_
    rintro e w2 ⟨rfl, hb2⟩
    have HB2 : Hid (Below w.heap.size w w2) := HB1.out.trans (hb2.mono HB1.out.size)
    clear hb2
    by_cases h2 : scode o = 0
    · rw [h2]
      obtain ⟨hSt, h40⟩ := scode_ok.1 h2
      have HSt : Hid (Std o.flatten.length o) := hSt
      have HTb : Hid (IsTab o) := hSt.tabs
      have HSl : Hid ((shapeL o).length ≤ 40 ∧ ∀ z ∈ shapeL o, 0 ≤ z ∧ z ≤ 1000) := by
        refine ⟨by unfold shapeL; rw [tab_length]; exact hSt.tabs.rows, fun z hz => ?_⟩
        obtain ⟨j, hj, rfl⟩ := tab_mem hz
        have := hSt.tabs.width hj
        omega
      have HR2 : Hid (rbC ls o = if shapeL o = hsF ls ls.length then 0 else 3) := by show _ = _; rw [HR.out, if_neg (by rw [h2]; simp)]
      clear hSt h40 h2
      go_wp2_with fail
      refine (Shape_at b _ cb w2 (HT.out.below HB2.out) hlo rfl (TabL.ok HTb.out)).mono ?_
      rintro e w3 ⟨v3, rfl, hO3, hb3⟩
      have HB3 : Hid (Below w.heap.size w w3) := HB2.out.trans (hb3.mono HB2.out.size)
      have HO3 : Hid (Owns w3 w2.heap.size v3 (shapeL o)) := hO3
      clear hO3 hb3
      obtain ⟨x3, y3, hv3⟩ := HO3.out.shape
      subst hv3
      go_wp2_with fail
      refine (shapeOfHoles_at a _ ca ls w3 (HS.out.below HB3.out).table rfl hl2).mono ?_
      rintro e w4 ⟨v4, rfl, hO4, hb4⟩
      have HB4 : Hid (Below w.heap.size w w4) := HB3.out.trans (hb4.mono HB3.out.size)
      obtain ⟨a3, c3, hv3, hS3⟩ := (HO3.out.below hb4).shows (by have := HSl.out.1; omega) (small_wf HSl.out.2)
      simp only [Value.slice.injEq, true_and] at hv3
      obtain ⟨rfl, rfl⟩ := hv3
      obtain ⟨a4, c4, rfl, hS4⟩ := hO4.shows (by have := hsF_len ls ls.length; omega) (fun z hz => by have := hs_bd HI.out z hz; omega)
      have HS3 : Hid (Shows w4 x3 (shapeL o)) := hS3
      have HS4 : Hid (Shows w4 a4 (hsF ls ls.length)) := hS4
      obtain ⟨t, HTt⟩ : ∃ t, Hid (decide (shapeL o = hsF ls ls.length) = t) := ⟨_, rfl⟩
      clear hO4 hb4 hS3 hS4
      go_wp2_with fail
      refine (SEqual_any _ _ _ _ _ _ w4 HS3.out HS4.out).mono ?_
      rintro e w5 ⟨rfl, d5, hw5⟩
      rw [HTt.out]
      have HB5 : Hid (Below w.heap.size w w5) := by rw [hw5]; exact below_drewN HB4.out d5
      clear hw5
      cases t with
      | false =>
        have HE : Hid (cc = 3 ∧ Qq = []) := by
          have e0 : rbC ls o = 3 := by rw [HR2.out, if_neg (of_decide_eq_false HTt.out)]
          rw [← E1.out, E2.out, e0]; exact ⟨rfl, by simp⟩
        go_wp2
        go_ret2
        exact ⟨_, by rw [HE.out.1]; rfl, by rw [HE.out.2]; exact Tbl.nil _ _, HB5.out⟩
      | true =>
        have heq := of_decide_eq_true HTt.out
        have HE : Hid (cc = 0 ∧ Qq = recT ls) := by
          have e0 : rbC ls o = 0 := by rw [HR2.out, if_pos heq]
          rw [← E1.out, E2.out, e0]; exact ⟨rfl, by simp⟩
        have HSh : Hid (∀ a, H ls a = (row o a).length) := hs_shape HI.out heq
        have h40 : o.flatten.length ≤ 40 := HTb.out.few
        clear heq
        go_wp2_with fail
        refine (rowsOfNumbers_at b _ cb o o.flatten.length w5 (HT.out.below HB5.out) rfl HSt.out).mono ?_
        rintro e w6 ⟨v6, rows, rfl, hO6, hro, hb6⟩
        have HB6 : Hid (Below w.heap.size w w6) := HB5.out.trans (hb6.mono HB5.out.size)
        obtain ⟨hL, hcnt⟩ := hro.lat HSt.out
        have hrl : rows.length ≤ 40 := by rw [hro.len]; exact h40
        obtain ⟨a6, c6, rfl, hS6⟩ := hO6.shows (by rw [List.length_map]; omega) (fun z hz => by
          obtain ⟨y, hy, rfl⟩ := List.mem_map.1 hz
          have := List.count_pos_iff.2 hy
          rw [hcnt] at this
          have := row_lt (c := 0) this
          have := HTb.out.rows
          omega)
        have HS6 : Hid (Shows w6 a6 (rows.map (fun k : Nat => (k : Int)))) := hS6
        have HLt : Hid (Lat rows ∧ ∀ a, H ls a = rows.count a) := ⟨hL, fun a => by rw [HSh.out, hcnt]⟩
        have HRl : Hid (rows.length ≤ 1000) := by show _ ≤ _; omega
        have HRe : Hid (recS rows.reverse ls = recT ls) := rec_is HLt.out.1 HI.out.sk HLt.out.2
        clear hO6 hro hb6 hS6 hL hcnt hrl
        go_wp2_with fail
        refine (rectified_at a a6 _ _ ca c6 ls rows w6 (HS.out.below HB6.out).table HS6.out rfl (by simp) HRl.out HF.out HI.out.sk HLt.out.2 HLt.out.1).mono ?_
        rintro e w7 ⟨v7, rfl, hT7, hb7⟩
        rw [HRe.out] at hT7
        have HB7 : Hid (Below w.heap.size w w7) := HB6.out.trans (hb7.mono HB6.out.size)
        have HT7 : Hid (Tbl w7 w.heap.size v7 (recT ls)) := hT7.mono HB6.out.size
        obtain ⟨a7, n7, c7, hv7⟩ : ∃ a7 n7 c7, v7 = .slice a7 n7 c7 := by obtain ⟨q, hq⟩ := hT7; obtain ⟨x, y, e⟩ := hq.shape; exact ⟨_, _, _, e⟩
        subst hv7
        clear hT7 hb7
        go_wp2
        go_ret2
        exact ⟨_, by rw [HE.out.1]; rfl, by rw [HE.out.2]; exact HT7.out, HB7.out⟩
    · obtain ⟨c2, HC2⟩ : ∃ c2, Hid (c2 = scode o) := ⟨_, rfl⟩
      have hc2 : (c2 != 0) = true := by rw [HC2.out]; exact bne_iff_ne.2 h2
      have HE : Hid (cc = c2 ∧ Qq = []) := by
        have e0 : rbC ls o = c2 := by rw [HR.out, if_pos h2, HC2.out]
        rw [← E1.out, E2.out, e0]; exact ⟨rfl, by rw [if_neg (by rw [HC2.out]; exact h2)]⟩
      rw [← HC2.out]
      clear h2
      go_wp2
      go_ret2
      exact ⟨_, by rw [HE.out.1]; rfl, by rw [HE.out.2]; exact Tbl.nil _ _, HB2.out⟩
  · have hc1 : (c1 != 0) = true := bne_iff_ne.2 h1
    have HE : Hid (cc = c1 ∧ Qq = []) := by
      have e0 : rbC ls o = c1 := by unfold rbC; rw [if_pos (by rw [HC1.out]; exact h1), HC1.out]
      rw [← E1.out, E2.out, e0]; exact ⟨rfl, by rw [if_neg h1]⟩
    clear h1
    go_enter Try.func21, Try.ntmps21
    go_wp2_with fail
    refine (SkCheck_is a _ ca ls w HS.out hl rfl HC1).mono ?_
    rintro e w1 ⟨rfl, d1, hw1⟩
    have HB1 : Hid (Below w.heap.size w w1) := by rw [hw1]; exact below_drewN (Below.refl _ _) d1
    clear hw1
    go_wp2
    go_ret2
    exact ⟨_, by rw [HE.out.1]; rfl, by rw [HE.out.2]; exact Tbl.nil _ _, HB1.out⟩

end Go.Proofs.Ytpbkidgdpejenae
