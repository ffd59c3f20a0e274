/-
  The walk of the law FillSays: for every table that can be read, and is of bounded bulk, it returns true; nothing old has turned.
-/
import Derived.Test.YtgcagoalnhgljacVNum
import Derived.Test.YtgcagoalnhgljacVEq
namespace Go.Proofs.Ytgcagoalnhgljac
open Go.RowKit

/-- A list of small numbers. -/
def SmL (l : List Int) : Prop := l.length ≤ 1600 ∧ ∀ z ∈ l, 0 ≤ z ∧ z ≤ 1000
theorem SmL.len {l : List Int} (h : SmL l) : l.length ≤ 17592186044416 := by have := h.1; omega
theorem SmL.wf {l : List Int} (h : SmL l) : ∀ z ∈ l, -9223372036854775808 ≤ z ∧ z ≤ 9223372036854775807 := small_wf h.2
theorem SmL.nil : SmL [] := ⟨by simp, by simp⟩
theorem SmT.nil : SmT [] := ⟨by simp, by simp⟩
theorem shape_Sm {ls : List (List Int)} (h : IsTab ls) : SmL (shapeL ls) := by
  refine ⟨by unfold shapeL; rw [tab_length]; have := h.rows; omega, fun z hz => ?_⟩
  obtain ⟨j, hj, rfl⟩ := tab_mem hz
  have := h.width hj
  show 0 ≤ (((row ls j).length : Nat) : Int) ∧ (((row ls j).length : Nat) : Int) ≤ 1000
  omega
theorem cont_Sm {ls : List (List Int)} (h : IsTab ls) : SmL (contL ls) := ⟨by have := (cont_small h).1; omega, (cont_small h).2⟩
theorem word_Sm {ls : List (List Int)} (h : IsTab ls) : SmL (wordL ls) := by
  refine ⟨by unfold wordL; rw [flat_rev_len]; have := h.few; omega, fun z hz => ?_⟩
  obtain ⟨r, hr, hz⟩ := List.mem_flatten.1 hz
  have := h.mem (List.mem_flatten.2 ⟨r, List.mem_reverse.1 hr, hz⟩)
  omega
theorem flat_Sm {ls : List (List Int)} (h : IsTab ls) : SmL ls.flatten := ⟨by have := h.few; omega, fun z hz => by have := h.mem hz; omega⟩

set_option maxHeartbeats 4000000 in
set_option maxRecDepth 100000 in
theorem says_err (a : Option Addr) (ca : Nat) (ls : List (List Int)) (w : World) (ht : Table w a ls) (hl : ls.length ≤ 2000000) (hf : ls.flatten.length ≤ 2000000) (c : Int) (hc : (c != 0) = true) (E : Hid (tchk ls = c)) :
    Calls Try.prog 4 #[.slice a ls.length ca] w fun e w' => e = .returned (.bool true) ∧ Below w.heap.size w w' := by
  have hc0 : Hid (c ≠ 0) := bne_iff_ne.1 hc
  have hl2 : Hid (ls.length ≤ 17592186044416) := by show _ ≤ _; omega
  have HF : Hid (ls.flatten.length ≤ 2000000) := hf
  clear hf
  have hcc : (c == c) = true := by simp
  go_enter Try.func4, Try.ntmps4
  go_wp2_with fail
  refine (RTab_is _ _ _ ls _ ht rfl hl HF.out E).mono ?_
  rintro e w1 ⟨rfl, hb⟩
  have HB1 : Hid (Below w.heap.size w w1) := hb
  replace ht := ht.below hb
  clear hb
  go_wp2_with fail
  refine (Shape_at _ _ _ _ ht hl2.out rfl (TabL.err (F := shapeL) E.out hc0.out)).mono ?_
  rintro e w2 ⟨v, rfl, hown, hb⟩
  have HB2 : Hid (Below w.heap.size w w2) := HB1.out.trans (hb.mono HB1.out.size)
  replace ht := ht.below hb
  obtain ⟨a2, n2, c2, rfl, S2, hn2, hc2⟩ := hown.opened SmL.nil.len SmL.nil.wf
  have HN2 : Hid (n2 = ([] : List Int).length) := hn2
  have HC2 : Hid (n2 ≤ c2) := hc2
  clear hown hn2 hc2
  clear hb
  obtain rfl : n2 = 0 := HN2.out
  go_wp2_with fail
  refine (Content_at _ _ _ _ ht hl2.out rfl (TabL.err (F := contL) E.out hc0.out)).mono ?_
  rintro e w3 ⟨v, rfl, hown, hb⟩
  have HB3 : Hid (Below w.heap.size w w3) := HB2.out.trans (hb.mono HB2.out.size)
  replace ht := ht.below hb
  replace S2 := S2.below hb
  obtain ⟨a3, n3, c3, rfl, S3, hn3, hc3⟩ := hown.opened SmL.nil.len SmL.nil.wf
  have HN3 : Hid (n3 = ([] : List Int).length) := hn3
  have HC3 : Hid (n3 ≤ c3) := hc3
  clear hown hn3 hc3
  clear hb
  obtain rfl : n3 = 0 := HN3.out
  go_wp2_with fail
  refine (TWord_at _ _ _ _ ht hl2.out rfl (TabL.err (F := wordL) E.out hc0.out)).mono ?_
  rintro e w4 ⟨v, rfl, hown, hb⟩
  have HB4 : Hid (Below w.heap.size w w4) := HB3.out.trans (hb.mono HB3.out.size)
  replace ht := ht.below hb
  replace S2 := S2.below hb
  replace S3 := S3.below hb
  obtain ⟨a4, n4, c4, rfl, S4, hn4, hc4⟩ := hown.opened SmL.nil.len SmL.nil.wf
  have HN4 : Hid (n4 = ([] : List Int).length) := hn4
  have HC4 : Hid (n4 ≤ c4) := hc4
  clear hown hn4 hc4
  clear hb
  obtain rfl : n4 = 0 := HN4.out
  go_wp2_with fail
  refine (IsStd_at (t := false) _ _ _ _ ht hl2.out rfl ⟨E.out, by rw [if_neg hc0.out]⟩).mono ?_
  rintro e w5 ⟨rfl, hb⟩
  have HB5 : Hid (Below w.heap.size w w5) := HB4.out.trans (hb.mono HB4.out.size)
  replace ht := ht.below hb
  replace S2 := S2.below hb
  replace S3 := S3.below hb
  replace S4 := S4.below hb
  clear hb
  go_wp2_with fail
  refine (Std_at _ _ _ _ ht hl2.out rfl (TabT.err (F := numbered) E.out hc0.out)).mono ?_
  rintro e w6 ⟨v, rfl, hT, hb⟩
  have HB6 : Hid (Below w.heap.size w w6) := HB5.out.trans (hb.mono HB5.out.size)
  replace ht := ht.below hb
  replace S2 := S2.below hb
  replace S3 := S3.below hb
  replace S4 := S4.below hb
  obtain ⟨a6, n6, c6, rfl, T6, HN6⟩ := hT.table SmT.nil.all
  clear hb hT
  obtain rfl : n6 = 0 := HN6.out
  go_wp2_with fail
  refine (Turned_at (q := []) (c := c) _ _ _ _ ht hl2.out rfl ⟨fun h => absurd (E.out.symm.trans h) hc0.out, fun _ => ⟨E.out.symm, rfl⟩⟩).mono ?_
  rintro e w7 ⟨v, rfl, hT, hb⟩
  have HB7 : Hid (Below w.heap.size w w7) := HB6.out.trans (hb.mono HB6.out.size)
  replace ht := ht.below hb
  replace S2 := S2.below hb
  replace S3 := S3.below hb
  replace S4 := S4.below hb
  replace T6 := T6.below hb
  obtain ⟨a7, n7, c7, rfl, T7, HN7⟩ := hT.table SmT.nil.all
  clear hb hT
  obtain rfl : n7 = 0 := HN7.out
  go_wp2_with fail
  refine (TCheck_is _ _ _ _ _ ht hl2.out rfl E).mono ?_
  rintro e w8 ⟨rfl, hd⟩
  have hb : Below w7.heap.size w7 w8 := by
    obtain ⟨n, rfl⟩ := hd
    exact below_drewN (Below.refl _ _) n
  have HB8 : Hid (Below w.heap.size w w8) := HB7.out.trans (hb.mono HB7.out.size)
  replace ht := ht.below hb
  replace S2 := S2.below hb
  replace S3 := S3.below hb
  replace S4 := S4.below hb
  replace T6 := T6.below hb
  replace T7 := T7.below hb
  clear hb hd
  go_wp2
  go_ret
  exact ⟨rfl, HB8.out⟩

set_option maxHeartbeats 8000000 in
set_option maxRecDepth 100000 in
theorem says_ok0 (a : Option Addr) (ca : Nat) (ls : List (List Int)) (w : World) (ht : Table w a ls) (hl : ls.length ≤ 2000000) (hf : ls.flatten.length ≤ 2000000) (HT : Hid (IsTab ls)) (E : Hid (tchk ls = 0)) (E2 : Hid (tchk (cols ls) = 0)) :
    Calls Try.prog 4 #[.slice a ls.length ca] w fun e w' => e = .returned (.bool true) ∧ Below w.heap.size w w' := by
  have hl2 : Hid (ls.length ≤ 17592186044416) := by show _ ≤ _; omega
  have HF : Hid (ls.flatten.length ≤ 2000000) := hf
  clear hf
  have HC : Hid (SmT (cols ls)) := cols_SmT HT.out
  have HNm : Hid (SmT (numbered ls)) := numbered_SmT HT.out
  obtain ⟨sb, Hsb⟩ : ∃ sb, Hid (stdB ls = sb) := ⟨_, rfl⟩
  have hsb : (sb == sb) = true := by simp
  go_enter Try.func4, Try.ntmps4
  go_wp2_with fail
  refine (RTab_is _ _ _ ls _ ht rfl hl HF.out E).mono ?_
  rintro e w1 ⟨rfl, hb⟩
  have HB1 : Hid (Below w.heap.size w w1) := hb
  replace ht := ht.below hb
  clear hb
  go_wp2_with fail
  refine (Shape_at _ _ _ _ ht hl2.out rfl (TabL.ok (F := shapeL) HT.out)).mono ?_
  rintro e w2 ⟨v, rfl, hown, hb⟩
  have HB2 : Hid (Below w.heap.size w w2) := HB1.out.trans (hb.mono HB1.out.size)
  replace ht := ht.below hb
  obtain ⟨a2, n2, c2, rfl, S2, hn2, hc2⟩ := hown.opened (shape_Sm HT.out).len (shape_Sm HT.out).wf
  have HN2 : Hid (n2 = (shapeL ls).length) := hn2
  have HC2 : Hid (n2 ≤ c2) := hc2
  clear hown hn2 hc2
  clear hb
  go_wp2_with fail
  refine (Content_at _ _ _ _ ht hl2.out rfl (TabL.ok (F := contL) HT.out)).mono ?_
  rintro e w3 ⟨v, rfl, hown, hb⟩
  have HB3 : Hid (Below w.heap.size w w3) := HB2.out.trans (hb.mono HB2.out.size)
  replace ht := ht.below hb
  replace S2 := S2.below hb
  obtain ⟨a3, n3, c3, rfl, S3, hn3, hc3⟩ := hown.opened (cont_Sm HT.out).len (cont_Sm HT.out).wf
  have HN3 : Hid (n3 = (contL ls).length) := hn3
  have HC3 : Hid (n3 ≤ c3) := hc3
  clear hown hn3 hc3
  clear hb
  go_wp2_with fail
  refine (TWord_at _ _ _ _ ht hl2.out rfl (TabL.ok (F := wordL) HT.out)).mono ?_
  rintro e w4 ⟨v, rfl, hown, hb⟩
  have HB4 : Hid (Below w.heap.size w w4) := HB3.out.trans (hb.mono HB3.out.size)
  replace ht := ht.below hb
  replace S2 := S2.below hb
  replace S3 := S3.below hb
  obtain ⟨a4, n4, c4, rfl, S4, hn4, hc4⟩ := hown.opened (word_Sm HT.out).len (word_Sm HT.out).wf
  have HN4 : Hid (n4 = (wordL ls).length) := hn4
  have HC4 : Hid (n4 ≤ c4) := hc4
  clear hown hn4 hc4
  clear hb
  go_wp2_with fail
  refine (IsStd_at (t := sb) _ _ _ _ ht hl2.out rfl ⟨E.out, by rw [if_pos rfl]; exact Hsb.out.symm⟩).mono ?_
  rintro e w5 ⟨rfl, hb⟩
  have HB5 : Hid (Below w.heap.size w w5) := HB4.out.trans (hb.mono HB4.out.size)
  replace ht := ht.below hb
  replace S2 := S2.below hb
  replace S3 := S3.below hb
  replace S4 := S4.below hb
  clear hb
  go_wp2_with fail
  refine (Std_at _ _ _ _ ht hl2.out rfl (TabT.ok (F := numbered) HT.out)).mono ?_
  rintro e w6 ⟨v, rfl, hT, hb⟩
  have HB6 : Hid (Below w.heap.size w w6) := HB5.out.trans (hb.mono HB5.out.size)
  replace ht := ht.below hb
  replace S2 := S2.below hb
  replace S3 := S3.below hb
  replace S4 := S4.below hb
  obtain ⟨a6, n6, c6, rfl, T6, HN6⟩ := hT.table HNm.out.all
  clear hb hT
  go_wp2_with fail
  refine (Turned_at (q := cols ls) (c := 0) _ _ _ _ ht hl2.out rfl ⟨fun _ => ⟨fun _ => ⟨rfl, rfl⟩, fun h => absurd E2.out h⟩, fun h => absurd E.out h⟩).mono ?_
  rintro e w7 ⟨v, rfl, hT, hb⟩
  have HB7 : Hid (Below w.heap.size w w7) := HB6.out.trans (hb.mono HB6.out.size)
  replace ht := ht.below hb
  replace S2 := S2.below hb
  replace S3 := S3.below hb
  replace S4 := S4.below hb
  replace T6 := T6.below hb
  obtain ⟨a7, n7, c7, rfl, T7, HN7⟩ := hT.table HC.out.all
  clear hb hT
  go_wp2_with fail
  refine (Across_at _ _ _ ls _ ht rfl HT.out).mono ?_
  rintro e w8 ⟨v, rfl, hT, hb⟩
  have HB8 : Hid (Below w.heap.size w w8) := HB7.out.trans (hb.mono HB7.out.size)
  replace ht := ht.below hb
  replace S2 := S2.below hb
  replace S3 := S3.below hb
  replace S4 := S4.below hb
  replace T6 := T6.below hb
  replace T7 := T7.below hb
  obtain ⟨a8, n8, c8, rfl, T8, HN8⟩ := hT.table HC.out.all
  clear hb hT
  go_wp2_with fail
  refine (RTab_is _ _ _ (cols ls) _ T8 HN8.out (by have := HC.out.1; omega) (by have := cols_flat HT.out; omega) E2).mono ?_
  rintro e w9 ⟨rfl, hb⟩
  have HB9 : Hid (Below w.heap.size w w9) := HB8.out.trans (hb.mono HB8.out.size)
  replace ht := ht.below hb
  replace S2 := S2.below hb
  replace S3 := S3.below hb
  replace S4 := S4.below hb
  replace T6 := T6.below hb
  replace T7 := T7.below hb
  replace T8 := T8.below hb
  clear hb
  go_wp2_with fail
  refine (TCheck_is _ _ _ _ _ ht hl2.out rfl E).mono ?_
  rintro e w10 ⟨rfl, hd⟩
  have hb : Below w9.heap.size w9 w10 := by
    obtain ⟨n, rfl⟩ := hd
    exact below_drewN (Below.refl _ _) n
  have HB10 : Hid (Below w.heap.size w w10) := HB9.out.trans (hb.mono HB9.out.size)
  replace ht := ht.below hb
  replace S2 := S2.below hb
  replace S3 := S3.below hb
  replace S4 := S4.below hb
  replace T6 := T6.below hb
  replace T7 := T7.below hb
  replace T8 := T8.below hb
  clear hb hd
  go_wp2_with fail
  refine (RRows_at _ _ _ ls _ ht rfl (by have := HT.out.rows; omega)).mono ?_
  rintro e w11 ⟨v, rfl, hown, hb⟩
  have HB11 : Hid (Below w.heap.size w w11) := HB10.out.trans (hb.mono HB10.out.size)
  replace ht := ht.below hb
  replace S2 := S2.below hb
  replace S3 := S3.below hb
  replace S4 := S4.below hb
  replace T6 := T6.below hb
  replace T7 := T7.below hb
  replace T8 := T8.below hb
  obtain ⟨a11, n11, c11, rfl, S11, hn11, hc11⟩ := hown.opened (shape_Sm HT.out).len (shape_Sm HT.out).wf
  have HN11 : Hid (n11 = (shapeL ls).length) := hn11
  have HC11 : Hid (n11 ≤ c11) := hc11
  clear hown hn11 hc11
  clear hb
  go_wp2_with fail
  refine (list_ok _ _ _ _ _ _ _ (shapeL ls) S2 S11 HN2 HN11).mono ?_
  rintro e w12 ⟨rfl, hd⟩
  have hb : Below w11.heap.size w11 w12 := by
    obtain ⟨n, rfl⟩ := hd
    exact below_drewN (Below.refl _ _) n
  have HB12 : Hid (Below w.heap.size w w12) := HB11.out.trans (hb.mono HB11.out.size)
  replace ht := ht.below hb
  replace S2 := S2.below hb
  replace S3 := S3.below hb
  replace S4 := S4.below hb
  replace T6 := T6.below hb
  replace T7 := T7.below hb
  replace T8 := T8.below hb
  replace S11 := S11.below hb
  clear hb hd
  go_wp2_with fail
  refine (Joined_is _ _ _ ls _ ht rfl hl HF.out).mono ?_
  rintro e w13 ⟨v, rfl, hown, hb⟩
  have HB13 : Hid (Below w.heap.size w w13) := HB12.out.trans (hb.mono HB12.out.size)
  replace ht := ht.below hb
  replace S2 := S2.below hb
  replace S3 := S3.below hb
  replace S4 := S4.below hb
  replace T6 := T6.below hb
  replace T7 := T7.below hb
  replace T8 := T8.below hb
  replace S11 := S11.below hb
  obtain ⟨a13, n13, c13, rfl, S13, hn13, hc13⟩ := hown.opened (flat_Sm HT.out).len (flat_Sm HT.out).wf
  have HN13 : Hid (n13 = ls.flatten.length) := hn13
  have HC13 : Hid (n13 ≤ c13) := hc13
  clear hown hn13 hc13
  clear hb
  go_wp2_with fail
  refine (Had_at _ _ _ ls.flatten _ S13 HN13.out HT.out.few (fun _ hz => HT.out.mem hz)).mono ?_
  rintro e w14 ⟨v, rfl, hown, hb⟩
  have HB14 : Hid (Below w.heap.size w w14) := HB13.out.trans (hb.mono HB13.out.size)
  replace ht := ht.below hb
  replace S2 := S2.below hb
  replace S3 := S3.below hb
  replace S4 := S4.below hb
  replace T6 := T6.below hb
  replace T7 := T7.below hb
  replace T8 := T8.below hb
  replace S11 := S11.below hb
  replace S13 := S13.below hb
  obtain ⟨a14, n14, c14, rfl, S14, hn14, hc14⟩ := hown.opened (cont_Sm HT.out).len (cont_Sm HT.out).wf
  have HN14 : Hid (n14 = (contL ls).length) := hn14
  have HC14 : Hid (n14 ≤ c14) := hc14
  clear hown hn14 hc14
  clear hb
  go_wp2_with fail
  refine (list_ok _ _ _ _ _ _ _ (contL ls) S3 S14 HN3 HN14).mono ?_
  rintro e w15 ⟨rfl, hd⟩
  have hb : Below w14.heap.size w14 w15 := by
    obtain ⟨n, rfl⟩ := hd
    exact below_drewN (Below.refl _ _) n
  have HB15 : Hid (Below w.heap.size w w15) := HB14.out.trans (hb.mono HB14.out.size)
  replace ht := ht.below hb
  replace S2 := S2.below hb
  replace S3 := S3.below hb
  replace S4 := S4.below hb
  replace T6 := T6.below hb
  replace T7 := T7.below hb
  replace T8 := T8.below hb
  replace S11 := S11.below hb
  replace S13 := S13.below hb
  replace S14 := S14.below hb
  clear hb hd
  go_wp2_with fail
  refine (Upward_at _ _ _ ls _ ht rfl HT.out).mono ?_
  rintro e w16 ⟨v, rfl, hown, hb⟩
  have HB16 : Hid (Below w.heap.size w w16) := HB15.out.trans (hb.mono HB15.out.size)
  replace ht := ht.below hb
  replace S2 := S2.below hb
  replace S3 := S3.below hb
  replace S4 := S4.below hb
  replace T6 := T6.below hb
  replace T7 := T7.below hb
  replace T8 := T8.below hb
  replace S11 := S11.below hb
  replace S13 := S13.below hb
  replace S14 := S14.below hb
  obtain ⟨a16, n16, c16, rfl, S16, hn16, hc16⟩ := hown.opened (word_Sm HT.out).len (word_Sm HT.out).wf
  have HN16 : Hid (n16 = (wordL ls).length) := hn16
  have HC16 : Hid (n16 ≤ c16) := hc16
  clear hown hn16 hc16
  clear hb
  go_wp2_with fail
  refine (list_ok _ _ _ _ _ _ _ (wordL ls) S4 S16 HN4 HN16).mono ?_
  rintro e w17 ⟨rfl, hd⟩
  have hb : Below w16.heap.size w16 w17 := by
    obtain ⟨n, rfl⟩ := hd
    exact below_drewN (Below.refl _ _) n
  have HB17 : Hid (Below w.heap.size w w17) := HB16.out.trans (hb.mono HB16.out.size)
  replace ht := ht.below hb
  replace S2 := S2.below hb
  replace S3 := S3.below hb
  replace S4 := S4.below hb
  replace T6 := T6.below hb
  replace T7 := T7.below hb
  replace T8 := T8.below hb
  replace S11 := S11.below hb
  replace S13 := S13.below hb
  replace S14 := S14.below hb
  replace S16 := S16.below hb
  clear hb hd
  go_wp2_with fail
  refine (Plain_at _ _ _ ls _ ht rfl HT.out Hsb.out).mono ?_
  rintro e w18 ⟨rfl, hb⟩
  have HB18 : Hid (Below w.heap.size w w18) := HB17.out.trans (hb.mono HB17.out.size)
  replace ht := ht.below hb
  replace S2 := S2.below hb
  replace S3 := S3.below hb
  replace S4 := S4.below hb
  replace T6 := T6.below hb
  replace T7 := T7.below hb
  replace T8 := T8.below hb
  replace S11 := S11.below hb
  replace S13 := S13.below hb
  replace S14 := S14.below hb
  replace S16 := S16.below hb
  clear hb
  go_wp2_with fail
  refine (Numbered_at _ _ _ ls _ ht rfl HT.out).mono ?_
  rintro e w19 ⟨v, rfl, hT, hb⟩
  have HB19 : Hid (Below w.heap.size w w19) := HB18.out.trans (hb.mono HB18.out.size)
  replace ht := ht.below hb
  replace S2 := S2.below hb
  replace S3 := S3.below hb
  replace S4 := S4.below hb
  replace T6 := T6.below hb
  replace T7 := T7.below hb
  replace T8 := T8.below hb
  replace S11 := S11.below hb
  replace S13 := S13.below hb
  replace S14 := S14.below hb
  replace S16 := S16.below hb
  obtain ⟨a19, n19, c19, rfl, T19, HN19⟩ := hT.table HNm.out.all
  clear hb hT
  go_wp2_with fail
  refine (table_ok _ _ _ _ _ _ _ (numbered ls) T6 T19 HN6 HN19 (by have := HNm.out.1; omega)).mono ?_
  rintro e w20 ⟨rfl, hd⟩
  have hb : Below w19.heap.size w19 w20 := by
    obtain ⟨n, rfl⟩ := hd
    exact below_drewN (Below.refl _ _) n
  have HB20 : Hid (Below w.heap.size w w20) := HB19.out.trans (hb.mono HB19.out.size)
  replace ht := ht.below hb
  replace S2 := S2.below hb
  replace S3 := S3.below hb
  replace S4 := S4.below hb
  replace T6 := T6.below hb
  replace T7 := T7.below hb
  replace T8 := T8.below hb
  replace S11 := S11.below hb
  replace S13 := S13.below hb
  replace S14 := S14.below hb
  replace S16 := S16.below hb
  replace T19 := T19.below hb
  clear hb hd
  go_wp2_with fail
  refine (table_ok _ _ _ _ _ _ _ (cols ls) T7 T8 HN7 HN8 (by have := HC.out.1; omega)).mono ?_
  rintro e w21 ⟨rfl, hd⟩
  have hb : Below w20.heap.size w20 w21 := by
    obtain ⟨n, rfl⟩ := hd
    exact below_drewN (Below.refl _ _) n
  have HB21 : Hid (Below w.heap.size w w21) := HB20.out.trans (hb.mono HB20.out.size)
  replace ht := ht.below hb
  replace S2 := S2.below hb
  replace S3 := S3.below hb
  replace S4 := S4.below hb
  replace T6 := T6.below hb
  replace T7 := T7.below hb
  replace T8 := T8.below hb
  replace S11 := S11.below hb
  replace S13 := S13.below hb
  replace S14 := S14.below hb
  replace S16 := S16.below hb
  replace T19 := T19.below hb
  clear hb hd
  go_wp2
  go_ret
  exact ⟨rfl, HB21.out⟩

set_option maxHeartbeats 8000000 in
set_option maxRecDepth 100000 in
theorem says_ok1 (a : Option Addr) (ca : Nat) (ls : List (List Int)) (w : World) (ht : Table w a ls) (hl : ls.length ≤ 2000000) (hf : ls.flatten.length ≤ 2000000) (HT : Hid (IsTab ls)) (E : Hid (tchk ls = 0)) (d : Int) (hd : (d != 0) = true) (E2 : Hid (tchk (cols ls) = d)) :
    Calls Try.prog 4 #[.slice a ls.length ca] w fun e w' => e = .returned (.bool true) ∧ Below w.heap.size w w' := by
  have hl2 : Hid (ls.length ≤ 17592186044416) := by show _ ≤ _; omega
  have HF : Hid (ls.flatten.length ≤ 2000000) := hf
  clear hf
  have HC : Hid (SmT (cols ls)) := cols_SmT HT.out
  have HNm : Hid (SmT (numbered ls)) := numbered_SmT HT.out
  obtain ⟨sb, Hsb⟩ : ∃ sb, Hid (stdB ls = sb) := ⟨_, rfl⟩
  have hsb : (sb == sb) = true := by simp
  have hd0 : Hid (d ≠ 0) := bne_iff_ne.1 hd
  go_enter Try.func4, Try.ntmps4
  go_wp2_with fail
  refine (RTab_is _ _ _ ls _ ht rfl hl HF.out E).mono ?_
  rintro e w1 ⟨rfl, hb⟩
  have HB1 : Hid (Below w.heap.size w w1) := hb
  replace ht := ht.below hb
  clear hb
  go_wp2_with fail
  refine (Shape_at _ _ _ _ ht hl2.out rfl (TabL.ok (F := shapeL) HT.out)).mono ?_
  rintro e w2 ⟨v, rfl, hown, hb⟩
  have HB2 : Hid (Below w.heap.size w w2) := HB1.out.trans (hb.mono HB1.out.size)
  replace ht := ht.below hb
  obtain ⟨a2, n2, c2, rfl, S2, hn2, hc2⟩ := hown.opened (shape_Sm HT.out).len (shape_Sm HT.out).wf
  have HN2 : Hid (n2 = (shapeL ls).length) := hn2
  have HC2 : Hid (n2 ≤ c2) := hc2
  clear hown hn2 hc2
  clear hb
  go_wp2_with fail
  refine (Content_at _ _ _ _ ht hl2.out rfl (TabL.ok (F := contL) HT.out)).mono ?_
  rintro e w3 ⟨v, rfl, hown, hb⟩
  have HB3 : Hid (Below w.heap.size w w3) := HB2.out.trans (hb.mono HB2.out.size)
  replace ht := ht.below hb
  replace S2 := S2.below hb
  obtain ⟨a3, n3, c3, rfl, S3, hn3, hc3⟩ := hown.opened (cont_Sm HT.out).len (cont_Sm HT.out).wf
  have HN3 : Hid (n3 = (contL ls).length) := hn3
  have HC3 : Hid (n3 ≤ c3) := hc3
  clear hown hn3 hc3
  clear hb
  go_wp2_with fail
  refine (TWord_at _ _ _ _ ht hl2.out rfl (TabL.ok (F := wordL) HT.out)).mono ?_
  rintro e w4 ⟨v, rfl, hown, hb⟩
  have HB4 : Hid (Below w.heap.size w w4) := HB3.out.trans (hb.mono HB3.out.size)
  replace ht := ht.below hb
  replace S2 := S2.below hb
  replace S3 := S3.below hb
  obtain ⟨a4, n4, c4, rfl, S4, hn4, hc4⟩ := hown.opened (word_Sm HT.out).len (word_Sm HT.out).wf
  have HN4 : Hid (n4 = (wordL ls).length) := hn4
  have HC4 : Hid (n4 ≤ c4) := hc4
  clear hown hn4 hc4
  clear hb
  go_wp2_with fail
  refine (IsStd_at (t := sb) _ _ _ _ ht hl2.out rfl ⟨E.out, by rw [if_pos rfl]; exact Hsb.out.symm⟩).mono ?_
  rintro e w5 ⟨rfl, hb⟩
  have HB5 : Hid (Below w.heap.size w w5) := HB4.out.trans (hb.mono HB4.out.size)
  replace ht := ht.below hb
  replace S2 := S2.below hb
  replace S3 := S3.below hb
  replace S4 := S4.below hb
  clear hb
  go_wp2_with fail
  refine (Std_at _ _ _ _ ht hl2.out rfl (TabT.ok (F := numbered) HT.out)).mono ?_
  rintro e w6 ⟨v, rfl, hT, hb⟩
  have HB6 : Hid (Below w.heap.size w w6) := HB5.out.trans (hb.mono HB5.out.size)
  replace ht := ht.below hb
  replace S2 := S2.below hb
  replace S3 := S3.below hb
  replace S4 := S4.below hb
  obtain ⟨a6, n6, c6, rfl, T6, HN6⟩ := hT.table HNm.out.all
  clear hb hT
  go_wp2_with fail
  refine (Turned_at (q := []) (c := 3) _ _ _ _ ht hl2.out rfl ⟨fun _ => ⟨fun h => absurd (E2.out.symm.trans h) hd0.out, fun _ => ⟨rfl, rfl⟩⟩, fun h => absurd E.out h⟩).mono ?_
  rintro e w7 ⟨v, rfl, hT, hb⟩
  have HB7 : Hid (Below w.heap.size w w7) := HB6.out.trans (hb.mono HB6.out.size)
  replace ht := ht.below hb
  replace S2 := S2.below hb
  replace S3 := S3.below hb
  replace S4 := S4.below hb
  replace T6 := T6.below hb
  obtain ⟨a7, n7, c7, rfl, T7, HN7⟩ := hT.table SmT.nil.all
  clear hb hT
  obtain rfl : n7 = 0 := HN7.out
  go_wp2_with fail
  refine (Across_at _ _ _ ls _ ht rfl HT.out).mono ?_
  rintro e w8 ⟨v, rfl, hT, hb⟩
  have HB8 : Hid (Below w.heap.size w w8) := HB7.out.trans (hb.mono HB7.out.size)
  replace ht := ht.below hb
  replace S2 := S2.below hb
  replace S3 := S3.below hb
  replace S4 := S4.below hb
  replace T6 := T6.below hb
  replace T7 := T7.below hb
  obtain ⟨a8, n8, c8, rfl, T8, HN8⟩ := hT.table HC.out.all
  clear hb hT
  go_wp2_with fail
  refine (RTab_is _ _ _ (cols ls) _ T8 HN8.out (by have := HC.out.1; omega) (by have := cols_flat HT.out; omega) E2).mono ?_
  rintro e w9 ⟨rfl, hb⟩
  have HB9 : Hid (Below w.heap.size w w9) := HB8.out.trans (hb.mono HB8.out.size)
  replace ht := ht.below hb
  replace S2 := S2.below hb
  replace S3 := S3.below hb
  replace S4 := S4.below hb
  replace T6 := T6.below hb
  replace T7 := T7.below hb
  replace T8 := T8.below hb
  clear hb
  go_wp2_with fail
  refine (TCheck_is _ _ _ _ _ ht hl2.out rfl E).mono ?_
  rintro e w10 ⟨rfl, hd⟩
  have hb : Below w9.heap.size w9 w10 := by
    obtain ⟨n, rfl⟩ := hd
    exact below_drewN (Below.refl _ _) n
  have HB10 : Hid (Below w.heap.size w w10) := HB9.out.trans (hb.mono HB9.out.size)
  replace ht := ht.below hb
  replace S2 := S2.below hb
  replace S3 := S3.below hb
  replace S4 := S4.below hb
  replace T6 := T6.below hb
  replace T7 := T7.below hb
  replace T8 := T8.below hb
  clear hb hd
  go_wp2_with fail
  refine (RRows_at _ _ _ ls _ ht rfl (by have := HT.out.rows; omega)).mono ?_
  rintro e w11 ⟨v, rfl, hown, hb⟩
  have HB11 : Hid (Below w.heap.size w w11) := HB10.out.trans (hb.mono HB10.out.size)
  replace ht := ht.below hb
  replace S2 := S2.below hb
  replace S3 := S3.below hb
  replace S4 := S4.below hb
  replace T6 := T6.below hb
  replace T7 := T7.below hb
  replace T8 := T8.below hb
  obtain ⟨a11, n11, c11, rfl, S11, hn11, hc11⟩ := hown.opened (shape_Sm HT.out).len (shape_Sm HT.out).wf
  have HN11 : Hid (n11 = (shapeL ls).length) := hn11
  have HC11 : Hid (n11 ≤ c11) := hc11
  clear hown hn11 hc11
  clear hb
  go_wp2_with fail
  refine (list_ok _ _ _ _ _ _ _ (shapeL ls) S2 S11 HN2 HN11).mono ?_
  rintro e w12 ⟨rfl, hd⟩
  have hb : Below w11.heap.size w11 w12 := by
    obtain ⟨n, rfl⟩ := hd
    exact below_drewN (Below.refl _ _) n
  have HB12 : Hid (Below w.heap.size w w12) := HB11.out.trans (hb.mono HB11.out.size)
  replace ht := ht.below hb
  replace S2 := S2.below hb
  replace S3 := S3.below hb
  replace S4 := S4.below hb
  replace T6 := T6.below hb
  replace T7 := T7.below hb
  replace T8 := T8.below hb
  replace S11 := S11.below hb
  clear hb hd
  go_wp2_with fail
  refine (Joined_is _ _ _ ls _ ht rfl hl HF.out).mono ?_
  rintro e w13 ⟨v, rfl, hown, hb⟩
  have HB13 : Hid (Below w.heap.size w w13) := HB12.out.trans (hb.mono HB12.out.size)
  replace ht := ht.below hb
  replace S2 := S2.below hb
  replace S3 := S3.below hb
  replace S4 := S4.below hb
  replace T6 := T6.below hb
  replace T7 := T7.below hb
  replace T8 := T8.below hb
  replace S11 := S11.below hb
  obtain ⟨a13, n13, c13, rfl, S13, hn13, hc13⟩ := hown.opened (flat_Sm HT.out).len (flat_Sm HT.out).wf
  have HN13 : Hid (n13 = ls.flatten.length) := hn13
  have HC13 : Hid (n13 ≤ c13) := hc13
  clear hown hn13 hc13
  clear hb
  go_wp2_with fail
  refine (Had_at _ _ _ ls.flatten _ S13 HN13.out HT.out.few (fun _ hz => HT.out.mem hz)).mono ?_
  rintro e w14 ⟨v, rfl, hown, hb⟩
  have HB14 : Hid (Below w.heap.size w w14) := HB13.out.trans (hb.mono HB13.out.size)
  replace ht := ht.below hb
  replace S2 := S2.below hb
  replace S3 := S3.below hb
  replace S4 := S4.below hb
  replace T6 := T6.below hb
  replace T7 := T7.below hb
  replace T8 := T8.below hb
  replace S11 := S11.below hb
  replace S13 := S13.below hb
  obtain ⟨a14, n14, c14, rfl, S14, hn14, hc14⟩ := hown.opened (cont_Sm HT.out).len (cont_Sm HT.out).wf
  have HN14 : Hid (n14 = (contL ls).length) := hn14
  have HC14 : Hid (n14 ≤ c14) := hc14
  clear hown hn14 hc14
  clear hb
  go_wp2_with fail
  refine (list_ok _ _ _ _ _ _ _ (contL ls) S3 S14 HN3 HN14).mono ?_
  rintro e w15 ⟨rfl, hd⟩
  have hb : Below w14.heap.size w14 w15 := by
    obtain ⟨n, rfl⟩ := hd
    exact below_drewN (Below.refl _ _) n
  have HB15 : Hid (Below w.heap.size w w15) := HB14.out.trans (hb.mono HB14.out.size)
  replace ht := ht.below hb
  replace S2 := S2.below hb
  replace S3 := S3.below hb
  replace S4 := S4.below hb
  replace T6 := T6.below hb
  replace T7 := T7.below hb
  replace T8 := T8.below hb
  replace S11 := S11.below hb
  replace S13 := S13.below hb
  replace S14 := S14.below hb
  clear hb hd
  go_wp2_with fail
  refine (Upward_at _ _ _ ls _ ht rfl HT.out).mono ?_
  rintro e w16 ⟨v, rfl, hown, hb⟩
  have HB16 : Hid (Below w.heap.size w w16) := HB15.out.trans (hb.mono HB15.out.size)
  replace ht := ht.below hb
  replace S2 := S2.below hb
  replace S3 := S3.below hb
  replace S4 := S4.below hb
  replace T6 := T6.below hb
  replace T7 := T7.below hb
  replace T8 := T8.below hb
  replace S11 := S11.below hb
  replace S13 := S13.below hb
  replace S14 := S14.below hb
  obtain ⟨a16, n16, c16, rfl, S16, hn16, hc16⟩ := hown.opened (word_Sm HT.out).len (word_Sm HT.out).wf
  have HN16 : Hid (n16 = (wordL ls).length) := hn16
  have HC16 : Hid (n16 ≤ c16) := hc16
  clear hown hn16 hc16
  clear hb
  go_wp2_with fail
  refine (list_ok _ _ _ _ _ _ _ (wordL ls) S4 S16 HN4 HN16).mono ?_
  rintro e w17 ⟨rfl, hd⟩
  have hb : Below w16.heap.size w16 w17 := by
    obtain ⟨n, rfl⟩ := hd
    exact below_drewN (Below.refl _ _) n
  have HB17 : Hid (Below w.heap.size w w17) := HB16.out.trans (hb.mono HB16.out.size)
  replace ht := ht.below hb
  replace S2 := S2.below hb
  replace S3 := S3.below hb
  replace S4 := S4.below hb
  replace T6 := T6.below hb
  replace T7 := T7.below hb
  replace T8 := T8.below hb
  replace S11 := S11.below hb
  replace S13 := S13.below hb
  replace S14 := S14.below hb
  replace S16 := S16.below hb
  clear hb hd
  go_wp2_with fail
  refine (Plain_at _ _ _ ls _ ht rfl HT.out Hsb.out).mono ?_
  rintro e w18 ⟨rfl, hb⟩
  have HB18 : Hid (Below w.heap.size w w18) := HB17.out.trans (hb.mono HB17.out.size)
  replace ht := ht.below hb
  replace S2 := S2.below hb
  replace S3 := S3.below hb
  replace S4 := S4.below hb
  replace T6 := T6.below hb
  replace T7 := T7.below hb
  replace T8 := T8.below hb
  replace S11 := S11.below hb
  replace S13 := S13.below hb
  replace S14 := S14.below hb
  replace S16 := S16.below hb
  clear hb
  go_wp2_with fail
  refine (Numbered_at _ _ _ ls _ ht rfl HT.out).mono ?_
  rintro e w19 ⟨v, rfl, hT, hb⟩
  have HB19 : Hid (Below w.heap.size w w19) := HB18.out.trans (hb.mono HB18.out.size)
  replace ht := ht.below hb
  replace S2 := S2.below hb
  replace S3 := S3.below hb
  replace S4 := S4.below hb
  replace T6 := T6.below hb
  replace T7 := T7.below hb
  replace T8 := T8.below hb
  replace S11 := S11.below hb
  replace S13 := S13.below hb
  replace S14 := S14.below hb
  replace S16 := S16.below hb
  obtain ⟨a19, n19, c19, rfl, T19, HN19⟩ := hT.table HNm.out.all
  clear hb hT
  go_wp2_with fail
  refine (table_ok _ _ _ _ _ _ _ (numbered ls) T6 T19 HN6 HN19 (by have := HNm.out.1; omega)).mono ?_
  rintro e w20 ⟨rfl, hd⟩
  have hb : Below w19.heap.size w19 w20 := by
    obtain ⟨n, rfl⟩ := hd
    exact below_drewN (Below.refl _ _) n
  have HB20 : Hid (Below w.heap.size w w20) := HB19.out.trans (hb.mono HB19.out.size)
  replace ht := ht.below hb
  replace S2 := S2.below hb
  replace S3 := S3.below hb
  replace S4 := S4.below hb
  replace T6 := T6.below hb
  replace T7 := T7.below hb
  replace T8 := T8.below hb
  replace S11 := S11.below hb
  replace S13 := S13.below hb
  replace S14 := S14.below hb
  replace S16 := S16.below hb
  replace T19 := T19.below hb
  clear hb hd
  go_wp2_with fail
  refine (table_err _ _ _ _ _ _ 3 (by decide)).mono ?_
  rintro e w21 ⟨rfl, hd⟩
  have hb : Below w20.heap.size w20 w21 := by
    obtain ⟨n, rfl⟩ := hd
    exact below_drewN (Below.refl _ _) n
  have HB21 : Hid (Below w.heap.size w w21) := HB20.out.trans (hb.mono HB20.out.size)
  replace ht := ht.below hb
  replace S2 := S2.below hb
  replace S3 := S3.below hb
  replace S4 := S4.below hb
  replace T6 := T6.below hb
  replace T7 := T7.below hb
  replace T8 := T8.below hb
  replace S11 := S11.below hb
  replace S13 := S13.below hb
  replace S14 := S14.below hb
  replace S16 := S16.below hb
  replace T19 := T19.below hb
  clear hb hd
  go_wp2
  go_ret
  exact ⟨rfl, HB21.out⟩

theorem says_any (a : Option Addr) (ca : Nat) (ls : List (List Int)) (w : World) (ht : Table w a ls) (hl : ls.length ≤ 2000000) (hf : ls.flatten.length ≤ 2000000) :
    Calls Try.prog 4 #[.slice a ls.length ca] w fun e w' => e = .returned (.bool true) ∧ Below w.heap.size w w' := by
  by_cases h0 : tchk ls = 0
  · have hT := tchk_ok.1 h0
    by_cases h1 : tchk (cols ls) = 0
    · exact says_ok0 a ca ls w ht hl hf hT h0 h1
    · exact says_ok1 a ca ls w ht hl hf hT h0 (tchk (cols ls)) (bne_iff_ne.2 h1) rfl
  · exact says_err a ca ls w ht hl hf (tchk ls) (bne_iff_ne.2 h0) rfl

end Go.Proofs.Ytgcagoalnhgljac
