/-
  The law ferlaw.SlidesTurns.
-/
import Derived.Test.YtjciandmpfcfjaaSRpr
namespace Go.Proofs.Ytjciandmpfcfjaa
open Go.RowKit

theorem Tbl.none0 {w : World} {lo : Nat} {v : Value} (h : Tbl w lo v []) : ∃ a c, v = .slice a 0 c := by obtain ⟨vs, h⟩ := h; exact h.shape
set_option maxHeartbeats 4000000 in
set_option maxRecDepth 100000 in
theorem sturns_err (a : Option Addr) (ca : Nat) (ls : List (List Int)) (w : World) (ht : Table w a ls) (hl : ls.length ≤ 2000000) (hf : ls.flatten.length ≤ 2000000) (c : Int) (hc : (c != 0) = true) (hc0 : (c == 0) = false) (E : Hid (tchk ls = c)) (HC : Hid (scode ls = c)) :
    Calls Try.prog 5 #[.slice a ls.length ca] w fun e w' => e = .returned (.bool true) ∧ Below w.heap.size w w' := by
  have HS : Hid (Table w a ls) := ht
  have HF : Hid (ls.flatten.length ≤ 2000000) := hf
  clear ht hf
  have hcc : (c == c) = true := by simp
  have HC0 : Hid (¬ scode ls = 0) := by rw [HC.out]; exact bne_iff_ne.1 hc
  go_enter Try.func5, Try.ntmps5
  go_wp2_with fail
  refine (Evacuate_at _ _ _ ls w HS.out rfl (by omega)).mono ?_
  rintro e w1 ⟨v1, rfl, hT1, hb1⟩
  rw [if_neg HC0.out] at hT1
  rw [HC.out]
  obtain ⟨a1, c1, rfl⟩ := hT1.none0
  have HB1 : Hid (Below w.heap.size w w1) := hb1
  clear hT1 hb1
  go_wp2_with fail
  refine (Promote_at _ _ _ ls w1 (HS.out.below HB1.out) rfl (by omega)).mono ?_
  rintro e w2 ⟨v2, rfl, hT2, hb2⟩
  rw [if_neg HC0.out] at hT2
  rw [HC.out]
  obtain ⟨a2, c2, rfl⟩ := hT2.none0
  have HB2 : Hid (Below w.heap.size w w2) := HB1.out.trans (hb2.mono HB1.out.size)
  clear hT2 hb2
  go_wp2_with fail
  refine (Demote_at _ _ _ ls w2 (HS.out.below HB2.out) rfl (by omega)).mono ?_
  rintro e w3 ⟨v3, rfl, hT3, hb3⟩
  rw [if_neg HC0.out] at hT3
  rw [HC.out]
  obtain ⟨a3, c3, rfl⟩ := hT3.none0
  have HB3 : Hid (Below w.heap.size w w3) := HB2.out.trans (hb3.mono HB2.out.size)
  clear hT3 hb3
  go_wp2_with fail
  refine (RTab_is _ _ _ ls _ (HS.out.below HB3.out) rfl hl HF.out E).mono ?_
  rintro e w4 ⟨rfl, hb4⟩
  have HB4 : Hid (Below w.heap.size w w4) := HB3.out.trans (hb4.mono HB3.out.size)
  clear hb4
  go_wp2
  go_ret
  exact ⟨rfl, HB4.out⟩
set_option maxHeartbeats 4000000 in
set_option maxRecDepth 100000 in
theorem sturns_shape (a : Option Addr) (ca : Nat) (ls : List (List Int)) (w : World) (ht : Table w a ls) (hl : ls.length ≤ 2000000) (hf : ls.flatten.length ≤ 2000000) (E : Hid (tchk ls = 0)) (E2 : Hid (stdB ls = false)) (HC : Hid (scode ls = 3)) :
    Calls Try.prog 5 #[.slice a ls.length ca] w fun e w' => e = .returned (.bool true) ∧ Below w.heap.size w w' := by
  have HS : Hid (Table w a ls) := ht
  have HF : Hid (ls.flatten.length ≤ 2000000) := hf
  clear ht hf
  have HC0 : Hid (¬ scode ls = 0) := by rw [HC.out]; show ¬ (3 : Int) = 0; omega
  have HTT : Hid (IsTab ls) := tchk_ok.1 E.out
  go_enter Try.func5, Try.ntmps5
  go_wp2_with fail
  refine (Evacuate_at _ _ _ ls w HS.out rfl (by omega)).mono ?_
  rintro e w1 ⟨v1, rfl, hT1, hb1⟩
  rw [if_neg HC0.out] at hT1
  rw [HC.out]
  obtain ⟨a1, c1, rfl⟩ := hT1.none0
  have HB1 : Hid (Below w.heap.size w w1) := hb1
  clear hT1 hb1
  go_wp2_with fail
  refine (Promote_at _ _ _ ls w1 (HS.out.below HB1.out) rfl (by omega)).mono ?_
  rintro e w2 ⟨v2, rfl, hT2, hb2⟩
  rw [if_neg HC0.out] at hT2
  rw [HC.out]
  obtain ⟨a2, c2, rfl⟩ := hT2.none0
  have HB2 : Hid (Below w.heap.size w w2) := HB1.out.trans (hb2.mono HB1.out.size)
  clear hT2 hb2
  go_wp2_with fail
  refine (Demote_at _ _ _ ls w2 (HS.out.below HB2.out) rfl (by omega)).mono ?_
  rintro e w3 ⟨v3, rfl, hT3, hb3⟩
  rw [if_neg HC0.out] at hT3
  rw [HC.out]
  obtain ⟨a3, c3, rfl⟩ := hT3.none0
  have HB3 : Hid (Below w.heap.size w w3) := HB2.out.trans (hb3.mono HB2.out.size)
  clear hT3 hb3
  go_wp2_with fail
  refine (RTab_is _ _ _ ls _ (HS.out.below HB3.out) rfl hl HF.out E).mono ?_
  rintro e w4 ⟨rfl, hb4⟩
  have HB4 : Hid (Below w.heap.size w w4) := HB3.out.trans (hb4.mono HB3.out.size)
  clear hb4
  go_wp2_with fail
  refine (Plain_at _ _ _ _ _ (HS.out.below HB4.out) rfl HTT.out E2.out).mono ?_
  rintro e w5 ⟨rfl, hb5⟩
  have HB5 : Hid (Below w.heap.size w w5) := HB4.out.trans (hb5.mono HB4.out.size)
  clear hb5
  go_wp2
  go_ret
  exact ⟨rfl, HB5.out⟩
set_option maxHeartbeats 4000000 in
set_option maxRecDepth 100000 in
theorem sturns_fine (a : Option Addr) (ca : Nat) (ls : List (List Int)) (w : World) (ht : Table w a ls) (hl : ls.length ≤ 2000000) (hf : ls.flatten.length ≤ 2000000) (E : Hid (tchk ls = 0)) (E2 : Hid (stdB ls = true)) (HC : Hid (scode ls = 0)) :
    Calls Try.prog 5 #[.slice a ls.length ca] w fun e w' => e = .returned (.bool true) ∧ Below w.heap.size w w' := by
  have HS : Hid (Table w a ls) := ht
  have HF : Hid (ls.flatten.length ≤ 2000000) := hf
  clear ht hf
  have HTT : Hid (IsTab ls) := tchk_ok.1 E.out
  have HL : Hid ((evaT ls).length ≤ 17592186044416 ∧ (proT ls).length ≤ 17592186044416 ∧ (demT ls).length ≤ 17592186044416) := by
    have h1 := (few_std (evaT_std HC.out)).len
    have h2 := (few_std (proT_std HC.out).1).len
    have h3 := (few_std (demT_std HC.out).1).len
    exact ⟨by omega, by omega, by omega⟩
  have HE1 : Hid (∀ l ∈ evaT ls, l.length ≤ 17592186044416 ∧ ∀ z ∈ l, -9223372036854775808 ≤ z ∧ z ≤ 9223372036854775807) := std_bd (evaT_twice HC.out).1
  have HE2 : Hid (∀ l ∈ proT ls, l.length ≤ 17592186044416 ∧ ∀ z ∈ l, -9223372036854775808 ≤ z ∧ z ≤ 9223372036854775807) := std_bd (dem_pro HC.out).1
  have HE3 : Hid (∀ l ∈ demT ls, l.length ≤ 17592186044416 ∧ ∀ z ∈ l, -9223372036854775808 ≤ z ∧ z ≤ 9223372036854775807) := std_bd (pro_dem HC.out).1
  go_enter Try.func5, Try.ntmps5
  go_wp2_with fail
  refine (Evacuate_at _ _ _ ls w HS.out rfl (by omega)).mono ?_
  rintro e w1 ⟨v1, rfl, hT1, hb1⟩
  rw [if_pos HC.out] at hT1
  rw [HC.out]
  have HT1 : Hid (Tbl w1 w.heap.size v1 (evaT ls)) := hT1
  have HB1 : Hid (Below w.heap.size w w1) := hb1
  clear hT1 hb1
  go_wp2_with fail
  refine (Promote_at _ _ _ ls w1 (HS.out.below HB1.out) rfl (by omega)).mono ?_
  rintro e w2 ⟨v2, rfl, hT2, hb2⟩
  rw [if_pos HC.out] at hT2
  rw [HC.out]
  have HT2 : Hid (Tbl w2 w1.heap.size v2 (proT ls)) := hT2
  have HB2 : Hid (Below w.heap.size w w2) := HB1.out.trans (hb2.mono HB1.out.size)
  have HT1b : Hid (Tbl w2 _ v1 (evaT ls)) := HT1.out.below hb2
  clear hT2 hb2
  go_wp2_with fail
  refine (Demote_at _ _ _ ls w2 (HS.out.below HB2.out) rfl (by omega)).mono ?_
  rintro e w3 ⟨v3, rfl, hT3, hb3⟩
  rw [if_pos HC.out] at hT3
  rw [HC.out]
  have HT3 : Hid (Tbl w3 w2.heap.size v3 (demT ls)) := hT3
  have HB3 : Hid (Below w.heap.size w w3) := HB2.out.trans (hb3.mono HB2.out.size)
  have HT1c : Hid (Tbl w3 _ v1 (evaT ls)) := HT1b.out.below hb3
  have HT2c : Hid (Tbl w3 _ v2 (proT ls)) := HT2.out.below hb3
  clear hT3 hb3
  obtain ⟨b1, n1, k1, rfl, hR1, HN1⟩ := HT1c.out.table HE1.out
  obtain ⟨b2, n2, k2, rfl, hR2, HN2⟩ := HT2c.out.table HE2.out
  obtain ⟨b3, n3, k3, rfl, hR3, HN3⟩ := HT3.out.table HE3.out
  have HR1 : Hid (Table w3 b1 (evaT ls)) := hR1
  have HR2 : Hid (Table w3 b2 (proT ls)) := hR2
  have HR3 : Hid (Table w3 b3 (demT ls)) := hR3
  clear hR1 hR2 hR3
  go_wp2_with fail
  refine (RTab_is _ _ _ ls _ (HS.out.below HB3.out) rfl hl HF.out E).mono ?_
  rintro e w4 ⟨rfl, hb4⟩
  have HB4 : Hid (Below w.heap.size w w4) := HB3.out.trans (hb4.mono HB3.out.size)
  have HB34 : Hid (Below w3.heap.size w3 w4) := hb4
  clear hb4
  go_wp2_with fail
  refine (Plain_at _ _ _ _ _ (HS.out.below HB4.out) rfl HTT.out E2.out).mono ?_
  rintro e w5 ⟨rfl, hb5⟩
  have HB5 : Hid (Below w.heap.size w w5) := HB4.out.trans (hb5.mono HB4.out.size)
  have HB35 : Hid (Below w3.heap.size w3 w5) := HB34.out.trans (hb5.mono HB34.out.size)
  clear hb5
  go_wp2_with fail
  refine (Evacuated_at _ _ _ ls w5 (HS.out.below HB5.out) rfl HC.out).mono ?_
  rintro e w6 ⟨v6, rfl, hT6, hb6⟩
  have HB6 : Hid (Below w.heap.size w w6) := HB5.out.trans (hb6.mono HB5.out.size)
  have HB36 : Hid (Below w3.heap.size w3 w6) := HB35.out.trans (hb6.mono HB35.out.size)
  obtain ⟨b6, n6, k6, rfl, hR6, HN6⟩ := hT6.table HE1.out
  have HR6 : Hid (Table w6 b6 (evaT ls)) := hR6
  clear hT6 hb6 hR6
  go_wp2_with fail
  refine (tabi_ok _ _ _ _ _ _ _ (evaT ls) (HR1.out.below HB36.out) HR6.out HN1 HN6 HL.out.1).mono ?_
  rintro e w7 ⟨rfl, d7, hw7⟩
  have HB7 : Hid (Below w.heap.size w w7) := by rw [hw7]; exact below_drewN HB6.out d7
  have HB37 : Hid (Below w3.heap.size w3 w7) := by rw [hw7]; exact below_drewN HB36.out d7
  clear hw7
  go_wp2_with fail
  refine (RPromoted_ok _ _ _ ls w7 (HS.out.below HB7.out) rfl HC.out).mono ?_
  rintro e w8 ⟨v8, rfl, hT8, hb8⟩
  have HB8 : Hid (Below w.heap.size w w8) := HB7.out.trans (hb8.mono HB7.out.size)
  have HB38 : Hid (Below w3.heap.size w3 w8) := HB37.out.trans (hb8.mono HB37.out.size)
  obtain ⟨b8, n8, k8, rfl, hR8, HN8⟩ := hT8.table HE2.out
  have HR8 : Hid (Table w8 b8 (proT ls)) := hR8
  clear hT8 hb8 hR8
  go_wp2_with fail
  refine (tabi_ok _ _ _ _ _ _ _ (proT ls) (HR2.out.below HB38.out) HR8.out HN2 HN8 HL.out.2.1).mono ?_
  rintro e w9 ⟨rfl, d9, hw9⟩
  have HB9 : Hid (Below w.heap.size w w9) := by rw [hw9]; exact below_drewN HB8.out d9
  have HB39 : Hid (Below w3.heap.size w3 w9) := by rw [hw9]; exact below_drewN HB38.out d9
  clear hw9
  go_wp2_with fail
  refine (RDemoted_ok _ _ _ ls w9 (HS.out.below HB9.out) rfl HC.out).mono ?_
  rintro e w10 ⟨v10, rfl, hT10, hb10⟩
  have HB10 : Hid (Below w.heap.size w w10) := HB9.out.trans (hb10.mono HB9.out.size)
  have HB310 : Hid (Below w3.heap.size w3 w10) := HB39.out.trans (hb10.mono HB39.out.size)
  obtain ⟨b10, n10, k10, rfl, hR10, HN10⟩ := hT10.table HE3.out
  have HR10 : Hid (Table w10 b10 (demT ls)) := hR10
  clear hT10 hb10 hR10
  go_wp2_with fail
  refine (tabi_ok _ _ _ _ _ _ _ (demT ls) (HR3.out.below HB310.out) HR10.out HN3 HN10 HL.out.2.2).mono ?_
  rintro e w11 ⟨rfl, d11, hw11⟩
  have HB11 : Hid (Below w.heap.size w w11) := by rw [hw11]; exact below_drewN HB10.out d11
  have HB311 : Hid (Below w3.heap.size w3 w11) := by rw [hw11]; exact below_drewN HB310.out d11
  clear hw11
  go_wp2
  go_ret
  exact ⟨rfl, HB11.out⟩
theorem sturns_at (a : Option Addr) (ca : Nat) (ls : List (List Int)) (w : World) (ht : Table w a ls) (hl : ls.length ≤ 2000000) (hf : ls.flatten.length ≤ 2000000) :
    Calls Try.prog 5 #[.slice a ls.length ca] w fun e w' => e = .returned (.bool true) ∧ Below w.heap.size w w' := by
  by_cases c : tchk ls = 0
  · cases c2 : stdB ls with
    | true => exact sturns_fine a ca ls w ht hl hf c c2 (by show scode ls = 0; unfold scode; rw [if_pos c, if_pos c2])
    | false => exact sturns_shape a ca ls w ht hl hf c c2 (by show scode ls = 3; unfold scode; rw [if_pos c, c2]; rfl)
  · exact sturns_err a ca ls w ht hl hf (tchk ls) (bne_iff_ne.2 c) (beq_false_of_ne c) rfl (by show scode ls = tchk ls; unfold scode; rw [if_neg c])

end Go.Proofs.Ytjciandmpfcfjaa
