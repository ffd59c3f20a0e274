/-
  The walk of the law FillBack: for every rows and every text that can be read it returns true; nothing old has turned.
-/
import Derived.Test.YtgcagoalnhgljacDoorXWr
import Derived.Test.YtgcagoalnhgljacDoorVEq
import Derived.Test.YtgcagoalnhgljacDoorYMath
namespace Go.Proofs.YtgcagoalnhgljacDoor
open Go.RowKit

theorem ltxt_n {a : Nat} (h : a < 10) {z : Int} (hz : z = (a : Int)) : ltxt z = [dg a] := by subst hz; exact ltxt_one h
theorem lit_text : ttxt [[1, 1, 2], [2, 3]] = [49, 32, 49, 32, 50, 47, 50, 32, 51] := by
  rw [ttxt_cons, Tl_cons, Tl_cons, Tl_row, Tl_cons, Tl_nil]
  rw [ltxt_n (a := 1) (by omega) (z := 1) rfl, ltxt_n (a := 2) (by omega) (z := 2) rfl, ltxt_n (a := 3) (by omega) (z := 3) rfl]
  rfl
theorem lit_tab : tchk [[1, 1, 2], [2, 3]] = 0 := by decide
theorem lit_read : ReadR (⟨#[49, 32, 49, 32, 50, 47, 50, 32, 51]⟩ : ByteArray).data.toList 0 0 [[1, 1, 2], [2, 3]] :=
  Or.inr (Or.inr ⟨[[1, 1, 2], [2, 3]], by simp, fun r hr => by
    simp at hr
    rcases hr with rfl | rfl
    · exact ⟨by simp, fun z hz => by simp at hz; unfold Lt; omega⟩
    · exact ⟨by simp, fun z hz => by simp at hz; unfold Lt; omega⟩, by rw [lit_text], Or.inl ⟨lit_tab, rfl, rfl, rfl⟩⟩)
theorem lit_sm : ∀ l ∈ ([[1, 1, 2], [2, 3]] : List (List Int)), l.length ≤ 17592186044416 ∧ ∀ z ∈ l, -9223372036854775808 ≤ z ∧ z ≤ 9223372036854775807 := by decide

/-- The first cell of block b holds v. -/
structure Cel (w : World) (b : Nat) (v : Value) : Prop where
  lt : b < w.heap.size
  eq : w.cell? ⟨b, 0, none⟩ = some v
theorem Cel.below {w w' : World} {b : Nat} {v : Value} (h : Cel w b v) (hb : Below w.heap.size w w') : Cel w' b v :=
  ⟨Nat.lt_of_lt_of_le h.lt hb.size, (hb.cell (p := ⟨b, 0, none⟩) h.lt).trans h.eq⟩
def SmL (l : List Int) : Prop := l.length ≤ 1600 ∧ ∀ z ∈ l, 0 ≤ z ∧ z ≤ 1000
theorem SmL.len {l : List Int} (h : SmL l) : l.length ≤ 17592186044416 := by have := h.1; omega
theorem SmL.wf {l : List Int} (h : SmL l) : ∀ z ∈ l, -9223372036854775808 ≤ z ∧ z ≤ 9223372036854775807 := small_wf h.2
theorem SmT.nil : SmT [] := ⟨by simp, by simp⟩
theorem shape_Sm {ls : List (List Int)} (h : IsTab ls) : SmL (shapeL ls) := by
  refine ⟨by unfold shapeL; rw [tab_length]; have := h.rows; omega, fun z hz => ?_⟩
  obtain ⟨j, hj, rfl⟩ := tab_mem hz
  have := h.width hj
  show 0 ≤ (((row ls j).length : Nat) : Int) ∧ (((row ls j).length : Nat) : Int) ≤ 1000
  omega
theorem shape_num (ls : List (List Int)) : shapeL (numbered ls) = shapeL ls := by
  unfold shapeL numbered
  rw [tab2_length]
  exact tab_congr (fun j hj => by rw [tab2_row hj, tab_length])
theorem read_text {ls : List (List Int)} (h : IsTab ls) : ReadR (ttxt ls) 0 0 ls := by
  cases ls with
  | nil => exact Or.inr (Or.inl ⟨rfl, rfl, rfl, rfl, rfl⟩)
  | cons r ls => exact Or.inr (Or.inr ⟨r :: ls, by simp, h.rowsOk, rfl, Or.inl ⟨tchk_ok.2 h, rfl, rfl, rfl⟩⟩)
theorem bytes_small {l : List UInt8} (h : l.length ≤ 1000) : (bytesOf l).size ≤ maxLen := by
  rw [Lib.size_eq, bytesOf_data]; unfold maxLen; omega
theorem bytes_empty : bytesOf [] = ⟨#[]⟩ := rfl

set_option maxHeartbeats 8000000 in
set_option maxRecDepth 100000 in
theorem back_00 (a : Option Addr) (ca : Nat) (ls : List (List Int)) (l : List UInt8) (m : Int) (w : World) (ht : Table w a ls) (hl : ls.length ≤ 17592186044416) (hs : (bytesOf l).size ≤ maxLen) (K0 : Cel w 0 (.int .i64 m)) (c p : Int) (hc : (c == 0) = false) (R : Hid (ReadR l c p [])) (d : Int) (hd : (d != 0) = true) (E : Hid (tchk ls = d)) :
    Calls Tryd.prog 4 #[.slice a ls.length ca, .string (bytesOf l)] w fun e w' => e = .returned (.bool true) ∧ Below w.heap.size w w' := by
  have HS : Hid ((bytesOf l).size ≤ maxLen) := hs
  clear hs
  have hd0 : Hid (d ≠ 0) := bne_iff_ne.1 hd
  go_enter Tryd.func4, Tryd.ntmps4
  go_wp2_with fail
  refine (Read_at _ m _ (by decide) K0.eq K0.lt lit_read).mono ?_
  rintro e w1 ⟨v, rfl, hT, hb⟩
  have HB1 : Hid (Below w.heap.size w w1) := hb
  replace ht := ht.below hb
  replace K0 := K0.below hb
  obtain ⟨a1, n1, c1, rfl, T1, HN1⟩ := hT.table lit_sm
  clear hb hT
  have hba : Below w1.heap.size w1 (w1.alloc (.cells #[.int .i64 0, .int .i64 0] 27)) := (Below.refl _ _).alloc (Nat.le_refl _) _
  have HB1x : Hid (Below w.heap.size w (w1.alloc (.cells #[.int .i64 0, .int .i64 0] 27))) := HB1.out.trans (hba.mono HB1.out.size)
  replace ht := ht.below hba
  replace K0 := K0.below hba
  replace T1 := T1.below hba
  have K1 : Cel (w1.alloc (.cells #[.int .i64 0, .int .i64 0] 27)) w1.heap.size (.int .i64 0) := ⟨by simp, by rw [World.cell?_alloc_at _ _ _ _ rfl]; rfl⟩
  clear hba
  obtain rfl : n1 = 2 := HN1.out
  go_wp2_with fail
  refine (Read_at _ m _ HS.out K0.eq K0.lt R.out).mono ?_
  rintro e w2 ⟨v, rfl, hT, hb⟩
  have HB2 : Hid (Below w.heap.size w w2) := HB1x.out.trans (hb.mono HB1x.out.size)
  replace ht := ht.below hb
  replace K0 := K0.below hb
  replace T1 := T1.below hb
  replace K1 := K1.below hb
  obtain ⟨a2, n2, c2, rfl, T2, HN2⟩ := hT.table SmT.nil.all
  clear hb hT
  have hba : Below w2.heap.size w2 (w2.alloc (.cells #[.int .i64 c, .int .i64 p] 27)) := (Below.refl _ _).alloc (Nat.le_refl _) _
  have HB2x : Hid (Below w.heap.size w (w2.alloc (.cells #[.int .i64 c, .int .i64 p] 27))) := HB2.out.trans (hba.mono HB2.out.size)
  replace ht := ht.below hba
  replace K0 := K0.below hba
  replace T1 := T1.below hba
  replace K1 := K1.below hba
  replace T2 := T2.below hba
  have K2 : Cel (w2.alloc (.cells #[.int .i64 c, .int .i64 p] 27)) w2.heap.size (.int .i64 c) := ⟨by simp, by rw [World.cell?_alloc_at _ _ _ _ rfl]; rfl⟩
  clear hba
  go_wp2_with fail
  refine (Write_at (t := []) _ _ _ _ ht hl rfl ⟨E.out, by rw [if_neg hd0.out]⟩).mono ?_
  rintro e w3 ⟨rfl, hb⟩
  have HB3 : Hid (Below w.heap.size w w3) := HB2x.out.trans (hb.mono HB2x.out.size)
  replace ht := ht.below hb
  replace K0 := K0.below hb
  replace T1 := T1.below hb
  replace K1 := K1.below hb
  replace T2 := T2.below hb
  replace K2 := K2.below hb
  clear hb
  rw [bytes_empty]
  go_wp2
  go_ret
  exact ⟨rfl, HB3.out⟩

set_option maxHeartbeats 8000000 in
set_option maxRecDepth 100000 in
theorem back_01 (a : Option Addr) (ca : Nat) (ls : List (List Int)) (l : List UInt8) (m : Int) (w : World) (ht : Table w a ls) (hl : ls.length ≤ 17592186044416) (hs : (bytesOf l).size ≤ maxLen) (K0 : Cel w 0 (.int .i64 m)) (c p : Int) (hc : (c == 0) = false) (R : Hid (ReadR l c p [])) (HT : Hid (IsTab ls)) (E : Hid (tchk ls = 0)) (d : Int) (hd : (d != 0) = true) (E2 : Hid (tchk (cols ls) = d)) :
    Calls Tryd.prog 4 #[.slice a ls.length ca, .string (bytesOf l)] w fun e w' => e = .returned (.bool true) ∧ Below w.heap.size w w' := by
  have HS : Hid ((bytesOf l).size ≤ maxLen) := hs
  clear hs
  have HNm : Hid (SmT (numbered ls)) := numbered_SmT HT.out
  have HNt : Hid (IsTab (numbered ls)) := numbered_tab HT.out
  have HTx : Hid ((bytesOf (ttxt ls)).size ≤ maxLen) := bytes_small (by have := ttxt_len HT.out.rowsOk; have := HT.out.few; omega)
  have hd0 : Hid (d ≠ 0) := bne_iff_ne.1 hd
  go_enter Tryd.func4, Tryd.ntmps4
  go_wp2_with fail
  refine (Read_at _ m _ (by decide) K0.eq K0.lt lit_read).mono ?_
  rintro e w1 ⟨v, rfl, hT, hb⟩
  have HB1 : Hid (Below w.heap.size w w1) := hb
  replace ht := ht.below hb
  replace K0 := K0.below hb
  obtain ⟨a1, n1, c1, rfl, T1, HN1⟩ := hT.table lit_sm
  clear hb hT
  have hba : Below w1.heap.size w1 (w1.alloc (.cells #[.int .i64 0, .int .i64 0] 27)) := (Below.refl _ _).alloc (Nat.le_refl _) _
  have HB1x : Hid (Below w.heap.size w (w1.alloc (.cells #[.int .i64 0, .int .i64 0] 27))) := HB1.out.trans (hba.mono HB1.out.size)
  replace ht := ht.below hba
  replace K0 := K0.below hba
  replace T1 := T1.below hba
  have K1 : Cel (w1.alloc (.cells #[.int .i64 0, .int .i64 0] 27)) w1.heap.size (.int .i64 0) := ⟨by simp, by rw [World.cell?_alloc_at _ _ _ _ rfl]; rfl⟩
  clear hba
  obtain rfl : n1 = 2 := HN1.out
  go_wp2_with fail
  refine (Read_at _ m _ HS.out K0.eq K0.lt R.out).mono ?_
  rintro e w2 ⟨v, rfl, hT, hb⟩
  have HB2 : Hid (Below w.heap.size w w2) := HB1x.out.trans (hb.mono HB1x.out.size)
  replace ht := ht.below hb
  replace K0 := K0.below hb
  replace T1 := T1.below hb
  replace K1 := K1.below hb
  obtain ⟨a2, n2, c2, rfl, T2, HN2⟩ := hT.table SmT.nil.all
  clear hb hT
  have hba : Below w2.heap.size w2 (w2.alloc (.cells #[.int .i64 c, .int .i64 p] 27)) := (Below.refl _ _).alloc (Nat.le_refl _) _
  have HB2x : Hid (Below w.heap.size w (w2.alloc (.cells #[.int .i64 c, .int .i64 p] 27))) := HB2.out.trans (hba.mono HB2.out.size)
  replace ht := ht.below hba
  replace K0 := K0.below hba
  replace T1 := T1.below hba
  replace K1 := K1.below hba
  replace T2 := T2.below hba
  have K2 : Cel (w2.alloc (.cells #[.int .i64 c, .int .i64 p] 27)) w2.heap.size (.int .i64 c) := ⟨by simp, by rw [World.cell?_alloc_at _ _ _ _ rfl]; rfl⟩
  clear hba
  go_wp2_with fail
  refine (Write_at (t := ttxt ls) _ _ _ _ ht hl rfl ⟨E.out, by rw [if_pos rfl]⟩).mono ?_
  rintro e w3 ⟨rfl, hb⟩
  have HB3 : Hid (Below w.heap.size w w3) := HB2x.out.trans (hb.mono HB2x.out.size)
  replace ht := ht.below hb
  replace K0 := K0.below hb
  replace T1 := T1.below hb
  replace K1 := K1.below hb
  replace T2 := T2.below hb
  replace K2 := K2.below hb
  clear hb
  go_wp2_with fail
  refine (Read_at _ m _ HTx.out K0.eq K0.lt (read_text HT.out)).mono ?_
  rintro e w4 ⟨v, rfl, hT, hb⟩
  have HB4 : Hid (Below w.heap.size w w4) := HB3.out.trans (hb.mono HB3.out.size)
  replace ht := ht.below hb
  replace K0 := K0.below hb
  replace T1 := T1.below hb
  replace K1 := K1.below hb
  replace T2 := T2.below hb
  replace K2 := K2.below hb
  obtain ⟨a4, n4, c4, rfl, T4, HN4⟩ := hT.table (tab_SmT HT.out).all
  clear hb hT
  have hba : Below w4.heap.size w4 (w4.alloc (.cells #[.int .i64 0, .int .i64 0] 27)) := (Below.refl _ _).alloc (Nat.le_refl _) _
  have HB4x : Hid (Below w.heap.size w (w4.alloc (.cells #[.int .i64 0, .int .i64 0] 27))) := HB4.out.trans (hba.mono HB4.out.size)
  replace ht := ht.below hba
  replace K0 := K0.below hba
  replace T1 := T1.below hba
  replace K1 := K1.below hba
  replace T2 := T2.below hba
  replace K2 := K2.below hba
  replace T4 := T4.below hba
  have K4 : Cel (w4.alloc (.cells #[.int .i64 0, .int .i64 0] 27)) w4.heap.size (.int .i64 0) := ⟨by simp, by rw [World.cell?_alloc_at _ _ _ _ rfl]; rfl⟩
  clear hba
  go_wp2_with fail
  refine (Std_at _ _ _ _ ht hl rfl (TabT.ok (F := numbered) HT.out)).mono ?_
  rintro e w5 ⟨v, rfl, hT, hb⟩
  have HB5 : Hid (Below w.heap.size w w5) := HB4x.out.trans (hb.mono HB4x.out.size)
  replace ht := ht.below hb
  replace K0 := K0.below hb
  replace T1 := T1.below hb
  replace K1 := K1.below hb
  replace T2 := T2.below hb
  replace K2 := K2.below hb
  replace T4 := T4.below hb
  replace K4 := K4.below hb
  obtain ⟨a5, n5, c5, rfl, T5, HN5⟩ := hT.table HNm.out.all
  clear hb hT
  go_wp2_with fail
  refine (Std_at (q := numbered ls) (c := 0) _ _ _ _ T5 (by have := HNm.out.1; omega) HN5.out ⟨tchk_ok.2 HNt.out, by rw [if_pos rfl, numbered_twice HT.out]⟩).mono ?_
  rintro e w6 ⟨v, rfl, hT, hb⟩
  have HB6 : Hid (Below w.heap.size w w6) := HB5.out.trans (hb.mono HB5.out.size)
  replace ht := ht.below hb
  replace K0 := K0.below hb
  replace T1 := T1.below hb
  replace K1 := K1.below hb
  replace T2 := T2.below hb
  replace K2 := K2.below hb
  replace T4 := T4.below hb
  replace K4 := K4.below hb
  replace T5 := T5.below hb
  obtain ⟨a6, n6, c6, rfl, T6, HN6⟩ := hT.table HNm.out.all
  clear hb hT
  go_wp2_with fail
  refine (IsStd_at (t := true) (c := 0) _ _ _ _ T5 (by have := HNm.out.1; omega) HN5.out ⟨tchk_ok.2 HNt.out, by rw [if_pos rfl]; exact (numbered_std HT.out).symm⟩).mono ?_
  rintro e w7 ⟨rfl, hb⟩
  have HB7 : Hid (Below w.heap.size w w7) := HB6.out.trans (hb.mono HB6.out.size)
  replace ht := ht.below hb
  replace K0 := K0.below hb
  replace T1 := T1.below hb
  replace K1 := K1.below hb
  replace T2 := T2.below hb
  replace K2 := K2.below hb
  replace T4 := T4.below hb
  replace K4 := K4.below hb
  replace T5 := T5.below hb
  replace T6 := T6.below hb
  clear hb
  go_wp2_with fail
  refine (Shape_at _ _ _ _ ht hl rfl (TabL.ok (F := shapeL) HT.out)).mono ?_
  rintro e w8 ⟨v, rfl, hown, hb⟩
  have HB8 : Hid (Below w.heap.size w w8) := HB7.out.trans (hb.mono HB7.out.size)
  replace ht := ht.below hb
  replace K0 := K0.below hb
  replace T1 := T1.below hb
  replace K1 := K1.below hb
  replace T2 := T2.below hb
  replace K2 := K2.below hb
  replace T4 := T4.below hb
  replace K4 := K4.below hb
  replace T5 := T5.below hb
  replace T6 := T6.below hb
  obtain ⟨a8, n8, c8, rfl, S8, hn8, hc8⟩ := hown.opened (shape_Sm HT.out).len (shape_Sm HT.out).wf
  have HN8 : Hid (n8 = (shapeL ls).length) := hn8
  have HC8 : Hid (n8 ≤ c8) := hc8
  clear hown hn8 hc8
  clear hb
  go_wp2_with fail
  refine (Shape_at (q := shapeL ls) (c := 0) _ _ _ _ T5 (by have := HNm.out.1; omega) HN5.out ⟨tchk_ok.2 HNt.out, by rw [if_pos rfl, shape_num]⟩).mono ?_
  rintro e w9 ⟨v, rfl, hown, hb⟩
  have HB9 : Hid (Below w.heap.size w w9) := HB8.out.trans (hb.mono HB8.out.size)
  replace ht := ht.below hb
  replace K0 := K0.below hb
  replace T1 := T1.below hb
  replace K1 := K1.below hb
  replace T2 := T2.below hb
  replace K2 := K2.below hb
  replace T4 := T4.below hb
  replace K4 := K4.below hb
  replace T5 := T5.below hb
  replace T6 := T6.below hb
  replace S8 := S8.below hb
  obtain ⟨a9, n9, c9, rfl, S9, hn9, hc9⟩ := hown.opened (shape_Sm HT.out).len (shape_Sm HT.out).wf
  have HN9 : Hid (n9 = (shapeL ls).length) := hn9
  have HC9 : Hid (n9 ≤ c9) := hc9
  clear hown hn9 hc9
  clear hb
  have hk4 := K4.eq
  go_wp2_with fail
  refine (RowsL_same _ _ _ _ _ _ ls _ T4 ht HN4.out rfl hl).mono ?_
  rintro e w10 ⟨rfl, hd⟩
  have hb : Below w9.heap.size w9 w10 := by
    obtain ⟨n, rfl⟩ := hd
    exact below_drewN (Below.refl _ _) n
  have HB10 : Hid (Below w.heap.size w w10) := HB9.out.trans (hb.mono HB9.out.size)
  replace ht := ht.below hb
  replace K0 := K0.below hb
  replace T1 := T1.below hb
  replace K1 := K1.below hb
  replace T2 := T2.below hb
  replace K2 := K2.below hb
  replace T4 := T4.below hb
  replace K4 := K4.below hb
  replace T5 := T5.below hb
  replace T6 := T6.below hb
  replace S8 := S8.below hb
  replace S9 := S9.below hb
  clear hb hd
  clear hk4
  go_wp2_with fail
  refine (RowsL_same _ _ _ _ _ _ (numbered ls) _ T5 T6 HN5.out HN6.out (by have := HNm.out.1; omega)).mono ?_
  rintro e w11 ⟨rfl, hd⟩
  have hb : Below w10.heap.size w10 w11 := by
    obtain ⟨n, rfl⟩ := hd
    exact below_drewN (Below.refl _ _) n
  have HB11 : Hid (Below w.heap.size w w11) := HB10.out.trans (hb.mono HB10.out.size)
  replace ht := ht.below hb
  replace K0 := K0.below hb
  replace T1 := T1.below hb
  replace K1 := K1.below hb
  replace T2 := T2.below hb
  replace K2 := K2.below hb
  replace T4 := T4.below hb
  replace K4 := K4.below hb
  replace T5 := T5.below hb
  replace T6 := T6.below hb
  replace S8 := S8.below hb
  replace S9 := S9.below hb
  clear hb hd
  go_wp2_with fail
  refine (Same_at _ _ _ _ _ _ (shapeL ls) (shapeL ls) _ S8 S9 HN8.out HN9.out true (by simp)).mono ?_
  rintro e w12 ⟨rfl, hd⟩
  have hb : Below w11.heap.size w11 w12 := by
    obtain ⟨n, rfl⟩ := hd
    exact below_drewN (Below.refl _ _) n
  have HB12 : Hid (Below w.heap.size w w12) := HB11.out.trans (hb.mono HB11.out.size)
  replace ht := ht.below hb
  replace K0 := K0.below hb
  replace T1 := T1.below hb
  replace K1 := K1.below hb
  replace T2 := T2.below hb
  replace K2 := K2.below hb
  replace T4 := T4.below hb
  replace K4 := K4.below hb
  replace T5 := T5.below hb
  replace T6 := T6.below hb
  replace S8 := S8.below hb
  replace S9 := S9.below hb
  clear hb hd
  go_wp2_with fail
  refine (Turned_at (q := []) (c := 3) _ _ _ _ ht hl rfl ⟨fun _ => ⟨fun h => absurd (E2.out.symm.trans h) hd0.out, fun _ => ⟨rfl, rfl⟩⟩, fun h => absurd E.out h⟩).mono ?_
  rintro e w13 ⟨v, rfl, hT, hb⟩
  have HB13 : Hid (Below w.heap.size w w13) := HB12.out.trans (hb.mono HB12.out.size)
  replace ht := ht.below hb
  replace K0 := K0.below hb
  replace T1 := T1.below hb
  replace K1 := K1.below hb
  replace T2 := T2.below hb
  replace K2 := K2.below hb
  replace T4 := T4.below hb
  replace K4 := K4.below hb
  replace T5 := T5.below hb
  replace T6 := T6.below hb
  replace S8 := S8.below hb
  replace S9 := S9.below hb
  obtain ⟨a13, n13, c13, rfl, T13, HN13⟩ := hT.table SmT.nil.all
  clear hb hT
  go_wp2
  go_ret
  exact ⟨rfl, HB13.out⟩

set_option maxHeartbeats 8000000 in
set_option maxRecDepth 100000 in
theorem back_02 (a : Option Addr) (ca : Nat) (ls : List (List Int)) (l : List UInt8) (m : Int) (w : World) (ht : Table w a ls) (hl : ls.length ≤ 17592186044416) (hs : (bytesOf l).size ≤ maxLen) (K0 : Cel w 0 (.int .i64 m)) (c p : Int) (hc : (c == 0) = false) (R : Hid (ReadR l c p [])) (HT : Hid (IsTab ls)) (E : Hid (tchk ls = 0)) (E2 : Hid (tchk (cols ls) = 0)) :
    Calls Tryd.prog 4 #[.slice a ls.length ca, .string (bytesOf l)] w fun e w' => e = .returned (.bool true) ∧ Below w.heap.size w w' := by
  have HS : Hid ((bytesOf l).size ≤ maxLen) := hs
  clear hs
  have HNm : Hid (SmT (numbered ls)) := numbered_SmT HT.out
  have HNt : Hid (IsTab (numbered ls)) := numbered_tab HT.out
  have HTx : Hid ((bytesOf (ttxt ls)).size ≤ maxLen) := bytes_small (by have := ttxt_len HT.out.rowsOk; have := HT.out.few; omega)
  go_enter Tryd.func4, Tryd.ntmps4
  go_wp2_with fail
  refine (Read_at _ m _ (by decide) K0.eq K0.lt lit_read).mono ?_
  rintro e w1 ⟨v, rfl, hT, hb⟩
  have HB1 : Hid (Below w.heap.size w w1) := hb
  replace ht := ht.below hb
  replace K0 := K0.below hb
  obtain ⟨a1, n1, c1, rfl, T1, HN1⟩ := hT.table lit_sm
  clear hb hT
  have hba : Below w1.heap.size w1 (w1.alloc (.cells #[.int .i64 0, .int .i64 0] 27)) := (Below.refl _ _).alloc (Nat.le_refl _) _
  have HB1x : Hid (Below w.heap.size w (w1.alloc (.cells #[.int .i64 0, .int .i64 0] 27))) := HB1.out.trans (hba.mono HB1.out.size)
  replace ht := ht.below hba
  replace K0 := K0.below hba
  replace T1 := T1.below hba
  have K1 : Cel (w1.alloc (.cells #[.int .i64 0, .int .i64 0] 27)) w1.heap.size (.int .i64 0) := ⟨by simp, by rw [World.cell?_alloc_at _ _ _ _ rfl]; rfl⟩
  clear hba
  obtain rfl : n1 = 2 := HN1.out
  go_wp2_with fail
  refine (Read_at _ m _ HS.out K0.eq K0.lt R.out).mono ?_
  rintro e w2 ⟨v, rfl, hT, hb⟩
  have HB2 : Hid (Below w.heap.size w w2) := HB1x.out.trans (hb.mono HB1x.out.size)
  replace ht := ht.below hb
  replace K0 := K0.below hb
  replace T1 := T1.below hb
  replace K1 := K1.below hb
  obtain ⟨a2, n2, c2, rfl, T2, HN2⟩ := hT.table SmT.nil.all
  clear hb hT
  have hba : Below w2.heap.size w2 (w2.alloc (.cells #[.int .i64 c, .int .i64 p] 27)) := (Below.refl _ _).alloc (Nat.le_refl _) _
  have HB2x : Hid (Below w.heap.size w (w2.alloc (.cells #[.int .i64 c, .int .i64 p] 27))) := HB2.out.trans (hba.mono HB2.out.size)
  replace ht := ht.below hba
  replace K0 := K0.below hba
  replace T1 := T1.below hba
  replace K1 := K1.below hba
  replace T2 := T2.below hba
  have K2 : Cel (w2.alloc (.cells #[.int .i64 c, .int .i64 p] 27)) w2.heap.size (.int .i64 c) := ⟨by simp, by rw [World.cell?_alloc_at _ _ _ _ rfl]; rfl⟩
  clear hba
  go_wp2_with fail
  refine (Write_at (t := ttxt ls) _ _ _ _ ht hl rfl ⟨E.out, by rw [if_pos rfl]⟩).mono ?_
  rintro e w3 ⟨rfl, hb⟩
  have HB3 : Hid (Below w.heap.size w w3) := HB2x.out.trans (hb.mono HB2x.out.size)
  replace ht := ht.below hb
  replace K0 := K0.below hb
  replace T1 := T1.below hb
  replace K1 := K1.below hb
  replace T2 := T2.below hb
  replace K2 := K2.below hb
  clear hb
  go_wp2_with fail
  refine (Read_at _ m _ HTx.out K0.eq K0.lt (read_text HT.out)).mono ?_
  rintro e w4 ⟨v, rfl, hT, hb⟩
  have HB4 : Hid (Below w.heap.size w w4) := HB3.out.trans (hb.mono HB3.out.size)
  replace ht := ht.below hb
  replace K0 := K0.below hb
  replace T1 := T1.below hb
  replace K1 := K1.below hb
  replace T2 := T2.below hb
  replace K2 := K2.below hb
  obtain ⟨a4, n4, c4, rfl, T4, HN4⟩ := hT.table (tab_SmT HT.out).all
  clear hb hT
  have hba : Below w4.heap.size w4 (w4.alloc (.cells #[.int .i64 0, .int .i64 0] 27)) := (Below.refl _ _).alloc (Nat.le_refl _) _
  have HB4x : Hid (Below w.heap.size w (w4.alloc (.cells #[.int .i64 0, .int .i64 0] 27))) := HB4.out.trans (hba.mono HB4.out.size)
  replace ht := ht.below hba
  replace K0 := K0.below hba
  replace T1 := T1.below hba
  replace K1 := K1.below hba
  replace T2 := T2.below hba
  replace K2 := K2.below hba
  replace T4 := T4.below hba
  have K4 : Cel (w4.alloc (.cells #[.int .i64 0, .int .i64 0] 27)) w4.heap.size (.int .i64 0) := ⟨by simp, by rw [World.cell?_alloc_at _ _ _ _ rfl]; rfl⟩
  clear hba
  go_wp2_with fail
  refine (Std_at _ _ _ _ ht hl rfl (TabT.ok (F := numbered) HT.out)).mono ?_
  rintro e w5 ⟨v, rfl, hT, hb⟩
  have HB5 : Hid (Below w.heap.size w w5) := HB4x.out.trans (hb.mono HB4x.out.size)
  replace ht := ht.below hb
  replace K0 := K0.below hb
  replace T1 := T1.below hb
  replace K1 := K1.below hb
  replace T2 := T2.below hb
  replace K2 := K2.below hb
  replace T4 := T4.below hb
  replace K4 := K4.below hb
  obtain ⟨a5, n5, c5, rfl, T5, HN5⟩ := hT.table HNm.out.all
  clear hb hT
  go_wp2_with fail
  refine (Std_at (q := numbered ls) (c := 0) _ _ _ _ T5 (by have := HNm.out.1; omega) HN5.out ⟨tchk_ok.2 HNt.out, by rw [if_pos rfl, numbered_twice HT.out]⟩).mono ?_
  rintro e w6 ⟨v, rfl, hT, hb⟩
  have HB6 : Hid (Below w.heap.size w w6) := HB5.out.trans (hb.mono HB5.out.size)
  replace ht := ht.below hb
  replace K0 := K0.below hb
  replace T1 := T1.below hb
  replace K1 := K1.below hb
  replace T2 := T2.below hb
  replace K2 := K2.below hb
  replace T4 := T4.below hb
  replace K4 := K4.below hb
  replace T5 := T5.below hb
  obtain ⟨a6, n6, c6, rfl, T6, HN6⟩ := hT.table HNm.out.all
  clear hb hT
  go_wp2_with fail
  refine (IsStd_at (t := true) (c := 0) _ _ _ _ T5 (by have := HNm.out.1; omega) HN5.out ⟨tchk_ok.2 HNt.out, by rw [if_pos rfl]; exact (numbered_std HT.out).symm⟩).mono ?_
  rintro e w7 ⟨rfl, hb⟩
  have HB7 : Hid (Below w.heap.size w w7) := HB6.out.trans (hb.mono HB6.out.size)
  replace ht := ht.below hb
  replace K0 := K0.below hb
  replace T1 := T1.below hb
  replace K1 := K1.below hb
  replace T2 := T2.below hb
  replace K2 := K2.below hb
  replace T4 := T4.below hb
  replace K4 := K4.below hb
  replace T5 := T5.below hb
  replace T6 := T6.below hb
  clear hb
  go_wp2_with fail
  refine (Shape_at _ _ _ _ ht hl rfl (TabL.ok (F := shapeL) HT.out)).mono ?_
  rintro e w8 ⟨v, rfl, hown, hb⟩
  have HB8 : Hid (Below w.heap.size w w8) := HB7.out.trans (hb.mono HB7.out.size)
  replace ht := ht.below hb
  replace K0 := K0.below hb
  replace T1 := T1.below hb
  replace K1 := K1.below hb
  replace T2 := T2.below hb
  replace K2 := K2.below hb
  replace T4 := T4.below hb
  replace K4 := K4.below hb
  replace T5 := T5.below hb
  replace T6 := T6.below hb
  obtain ⟨a8, n8, c8, rfl, S8, hn8, hc8⟩ := hown.opened (shape_Sm HT.out).len (shape_Sm HT.out).wf
  have HN8 : Hid (n8 = (shapeL ls).length) := hn8
  have HC8 : Hid (n8 ≤ c8) := hc8
  clear hown hn8 hc8
  clear hb
  go_wp2_with fail
  refine (Shape_at (q := shapeL ls) (c := 0) _ _ _ _ T5 (by have := HNm.out.1; omega) HN5.out ⟨tchk_ok.2 HNt.out, by rw [if_pos rfl, shape_num]⟩).mono ?_
  rintro e w9 ⟨v, rfl, hown, hb⟩
  have HB9 : Hid (Below w.heap.size w w9) := HB8.out.trans (hb.mono HB8.out.size)
  replace ht := ht.below hb
  replace K0 := K0.below hb
  replace T1 := T1.below hb
  replace K1 := K1.below hb
  replace T2 := T2.below hb
  replace K2 := K2.below hb
  replace T4 := T4.below hb
  replace K4 := K4.below hb
  replace T5 := T5.below hb
  replace T6 := T6.below hb
  replace S8 := S8.below hb
  obtain ⟨a9, n9, c9, rfl, S9, hn9, hc9⟩ := hown.opened (shape_Sm HT.out).len (shape_Sm HT.out).wf
  have HN9 : Hid (n9 = (shapeL ls).length) := hn9
  have HC9 : Hid (n9 ≤ c9) := hc9
  clear hown hn9 hc9
  clear hb
  have hk4 := K4.eq
  go_wp2_with fail
  refine (RowsL_same _ _ _ _ _ _ ls _ T4 ht HN4.out rfl hl).mono ?_
  rintro e w10 ⟨rfl, hd⟩
  have hb : Below w9.heap.size w9 w10 := by
    obtain ⟨n, rfl⟩ := hd
    exact below_drewN (Below.refl _ _) n
  have HB10 : Hid (Below w.heap.size w w10) := HB9.out.trans (hb.mono HB9.out.size)
  replace ht := ht.below hb
  replace K0 := K0.below hb
  replace T1 := T1.below hb
  replace K1 := K1.below hb
  replace T2 := T2.below hb
  replace K2 := K2.below hb
  replace T4 := T4.below hb
  replace K4 := K4.below hb
  replace T5 := T5.below hb
  replace T6 := T6.below hb
  replace S8 := S8.below hb
  replace S9 := S9.below hb
  clear hb hd
  clear hk4
  go_wp2_with fail
  refine (RowsL_same _ _ _ _ _ _ (numbered ls) _ T5 T6 HN5.out HN6.out (by have := HNm.out.1; omega)).mono ?_
  rintro e w11 ⟨rfl, hd⟩
  have hb : Below w10.heap.size w10 w11 := by
    obtain ⟨n, rfl⟩ := hd
    exact below_drewN (Below.refl _ _) n
  have HB11 : Hid (Below w.heap.size w w11) := HB10.out.trans (hb.mono HB10.out.size)
  replace ht := ht.below hb
  replace K0 := K0.below hb
  replace T1 := T1.below hb
  replace K1 := K1.below hb
  replace T2 := T2.below hb
  replace K2 := K2.below hb
  replace T4 := T4.below hb
  replace K4 := K4.below hb
  replace T5 := T5.below hb
  replace T6 := T6.below hb
  replace S8 := S8.below hb
  replace S9 := S9.below hb
  clear hb hd
  go_wp2_with fail
  refine (Same_at _ _ _ _ _ _ (shapeL ls) (shapeL ls) _ S8 S9 HN8.out HN9.out true (by simp)).mono ?_
  rintro e w12 ⟨rfl, hd⟩
  have hb : Below w11.heap.size w11 w12 := by
    obtain ⟨n, rfl⟩ := hd
    exact below_drewN (Below.refl _ _) n
  have HB12 : Hid (Below w.heap.size w w12) := HB11.out.trans (hb.mono HB11.out.size)
  replace ht := ht.below hb
  replace K0 := K0.below hb
  replace T1 := T1.below hb
  replace K1 := K1.below hb
  replace T2 := T2.below hb
  replace K2 := K2.below hb
  replace T4 := T4.below hb
  replace K4 := K4.below hb
  replace T5 := T5.below hb
  replace T6 := T6.below hb
  replace S8 := S8.below hb
  replace S9 := S9.below hb
  clear hb hd
  go_wp2_with fail
  refine (Turned_at (q := cols ls) (c := 0) _ _ _ _ ht hl rfl ⟨fun _ => ⟨fun _ => ⟨rfl, rfl⟩, fun h => absurd E2.out h⟩, fun h => absurd E.out h⟩).mono ?_
  rintro e w13 ⟨v, rfl, hT, hb⟩
  have HB13 : Hid (Below w.heap.size w w13) := HB12.out.trans (hb.mono HB12.out.size)
  replace ht := ht.below hb
  replace K0 := K0.below hb
  replace T1 := T1.below hb
  replace K1 := K1.below hb
  replace T2 := T2.below hb
  replace K2 := K2.below hb
  replace T4 := T4.below hb
  replace K4 := K4.below hb
  replace T5 := T5.below hb
  replace T6 := T6.below hb
  replace S8 := S8.below hb
  replace S9 := S9.below hb
  obtain ⟨a13, n13, c13, rfl, T13, HN13⟩ := hT.table (cols_SmT HT.out).all
  clear hb hT
  go_wp2_with fail
  refine (Turned_at (q := ls) (c := 0) _ _ _ _ T13 (by have := (cols_SmT HT.out).1; omega) HN13.out ⟨fun _ => ⟨fun _ => ⟨rfl, (cols_twice HT.out).symm⟩, fun h => absurd (by rw [cols_twice HT.out]; exact E.out) h⟩, fun h => absurd E2.out h⟩).mono ?_
  rintro e w14 ⟨v, rfl, hT, hb⟩
  have HB14 : Hid (Below w.heap.size w w14) := HB13.out.trans (hb.mono HB13.out.size)
  replace ht := ht.below hb
  replace K0 := K0.below hb
  replace T1 := T1.below hb
  replace K1 := K1.below hb
  replace T2 := T2.below hb
  replace K2 := K2.below hb
  replace T4 := T4.below hb
  replace K4 := K4.below hb
  replace T5 := T5.below hb
  replace T6 := T6.below hb
  replace S8 := S8.below hb
  replace S9 := S9.below hb
  replace T13 := T13.below hb
  obtain ⟨a14, n14, c14, rfl, T14, HN14⟩ := hT.table (tab_SmT HT.out).all
  clear hb hT
  go_wp2_with fail
  refine (RowsL_same _ _ _ _ _ _ ls _ T14 ht HN14.out rfl hl).mono ?_
  rintro e w15 ⟨rfl, hd⟩
  have hb : Below w14.heap.size w14 w15 := by
    obtain ⟨n, rfl⟩ := hd
    exact below_drewN (Below.refl _ _) n
  have HB15 : Hid (Below w.heap.size w w15) := HB14.out.trans (hb.mono HB14.out.size)
  replace ht := ht.below hb
  replace K0 := K0.below hb
  replace T1 := T1.below hb
  replace K1 := K1.below hb
  replace T2 := T2.below hb
  replace K2 := K2.below hb
  replace T4 := T4.below hb
  replace K4 := K4.below hb
  replace T5 := T5.below hb
  replace T6 := T6.below hb
  replace S8 := S8.below hb
  replace S9 := S9.below hb
  replace T13 := T13.below hb
  replace T14 := T14.below hb
  clear hb hd
  go_wp2
  go_ret
  exact ⟨rfl, HB15.out⟩

set_option maxHeartbeats 8000000 in
set_option maxRecDepth 100000 in
theorem back_10 (a : Option Addr) (ca : Nat) (ls : List (List Int)) (l : List UInt8) (m : Int) (w : World) (ht : Table w a ls) (hl : ls.length ≤ 17592186044416) (hs : (bytesOf l).size ≤ maxLen) (K0 : Cel w 0 (.int .i64 m)) (q : List (List Int)) (HQ : Hid (IsTab q)) (HQt : Hid (ttxt q = l)) (R : Hid (ReadR l 0 0 q)) (d : Int) (hd : (d != 0) = true) (E : Hid (tchk ls = d)) :
    Calls Tryd.prog 4 #[.slice a ls.length ca, .string (bytesOf l)] w fun e w' => e = .returned (.bool true) ∧ Below w.heap.size w w' := by
  have HS : Hid ((bytesOf l).size ≤ maxLen) := hs
  clear hs
  have hd0 : Hid (d ≠ 0) := bne_iff_ne.1 hd
  go_enter Tryd.func4, Tryd.ntmps4
  go_wp2_with fail
  refine (Read_at _ m _ (by decide) K0.eq K0.lt lit_read).mono ?_
  rintro e w1 ⟨v, rfl, hT, hb⟩
  have HB1 : Hid (Below w.heap.size w w1) := hb
  replace ht := ht.below hb
  replace K0 := K0.below hb
  obtain ⟨a1, n1, c1, rfl, T1, HN1⟩ := hT.table lit_sm
  clear hb hT
  have hba : Below w1.heap.size w1 (w1.alloc (.cells #[.int .i64 0, .int .i64 0] 27)) := (Below.refl _ _).alloc (Nat.le_refl _) _
  have HB1x : Hid (Below w.heap.size w (w1.alloc (.cells #[.int .i64 0, .int .i64 0] 27))) := HB1.out.trans (hba.mono HB1.out.size)
  replace ht := ht.below hba
  replace K0 := K0.below hba
  replace T1 := T1.below hba
  have K1 : Cel (w1.alloc (.cells #[.int .i64 0, .int .i64 0] 27)) w1.heap.size (.int .i64 0) := ⟨by simp, by rw [World.cell?_alloc_at _ _ _ _ rfl]; rfl⟩
  clear hba
  obtain rfl : n1 = 2 := HN1.out
  go_wp2_with fail
  refine (Read_at _ m _ HS.out K0.eq K0.lt R.out).mono ?_
  rintro e w2 ⟨v, rfl, hT, hb⟩
  have HB2 : Hid (Below w.heap.size w w2) := HB1x.out.trans (hb.mono HB1x.out.size)
  replace ht := ht.below hb
  replace K0 := K0.below hb
  replace T1 := T1.below hb
  replace K1 := K1.below hb
  obtain ⟨a2, n2, c2, rfl, T2, HN2⟩ := hT.table (tab_SmT HQ.out).all
  clear hb hT
  have hba : Below w2.heap.size w2 (w2.alloc (.cells #[.int .i64 0, .int .i64 0] 27)) := (Below.refl _ _).alloc (Nat.le_refl _) _
  have HB2x : Hid (Below w.heap.size w (w2.alloc (.cells #[.int .i64 0, .int .i64 0] 27))) := HB2.out.trans (hba.mono HB2.out.size)
  replace ht := ht.below hba
  replace K0 := K0.below hba
  replace T1 := T1.below hba
  replace K1 := K1.below hba
  replace T2 := T2.below hba
  have K2 : Cel (w2.alloc (.cells #[.int .i64 0, .int .i64 0] 27)) w2.heap.size (.int .i64 0) := ⟨by simp, by rw [World.cell?_alloc_at _ _ _ _ rfl]; rfl⟩
  clear hba
  go_wp2_with fail
  refine (Write_at (t := l) _ _ _ _ T2 (by have := HQ.out.rows; omega) HN2.out ⟨tchk_ok.2 HQ.out, by rw [if_pos rfl]; exact HQt.out.symm⟩).mono ?_
  rintro e w3 ⟨rfl, hb⟩
  have HB3 : Hid (Below w.heap.size w w3) := HB2x.out.trans (hb.mono HB2x.out.size)
  replace ht := ht.below hb
  replace K0 := K0.below hb
  replace T1 := T1.below hb
  replace K1 := K1.below hb
  replace T2 := T2.below hb
  replace K2 := K2.below hb
  clear hb
  go_wp2_with fail
  refine (Write_at (t := []) _ _ _ _ ht hl rfl ⟨E.out, by rw [if_neg hd0.out]⟩).mono ?_
  rintro e w4 ⟨rfl, hb⟩
  have HB4 : Hid (Below w.heap.size w w4) := HB3.out.trans (hb.mono HB3.out.size)
  replace ht := ht.below hb
  replace K0 := K0.below hb
  replace T1 := T1.below hb
  replace K1 := K1.below hb
  replace T2 := T2.below hb
  replace K2 := K2.below hb
  clear hb
  rw [bytes_empty]
  go_wp2
  go_ret
  exact ⟨rfl, HB4.out⟩

set_option maxHeartbeats 8000000 in
set_option maxRecDepth 100000 in
theorem back_11 (a : Option Addr) (ca : Nat) (ls : List (List Int)) (l : List UInt8) (m : Int) (w : World) (ht : Table w a ls) (hl : ls.length ≤ 17592186044416) (hs : (bytesOf l).size ≤ maxLen) (K0 : Cel w 0 (.int .i64 m)) (q : List (List Int)) (HQ : Hid (IsTab q)) (HQt : Hid (ttxt q = l)) (R : Hid (ReadR l 0 0 q)) (HT : Hid (IsTab ls)) (E : Hid (tchk ls = 0)) (d : Int) (hd : (d != 0) = true) (E2 : Hid (tchk (cols ls) = d)) :
    Calls Tryd.prog 4 #[.slice a ls.length ca, .string (bytesOf l)] w fun e w' => e = .returned (.bool true) ∧ Below w.heap.size w w' := by
  have HS : Hid ((bytesOf l).size ≤ maxLen) := hs
  clear hs
  have HNm : Hid (SmT (numbered ls)) := numbered_SmT HT.out
  have HNt : Hid (IsTab (numbered ls)) := numbered_tab HT.out
  have HTx : Hid ((bytesOf (ttxt ls)).size ≤ maxLen) := bytes_small (by have := ttxt_len HT.out.rowsOk; have := HT.out.few; omega)
  have hd0 : Hid (d ≠ 0) := bne_iff_ne.1 hd
  go_enter Tryd.func4, Tryd.ntmps4
  go_wp2_with fail
  refine (Read_at _ m _ (by decide) K0.eq K0.lt lit_read).mono ?_
  rintro e w1 ⟨v, rfl, hT, hb⟩
  have HB1 : Hid (Below w.heap.size w w1) := hb
  replace ht := ht.below hb
  replace K0 := K0.below hb
  obtain ⟨a1, n1, c1, rfl, T1, HN1⟩ := hT.table lit_sm
  clear hb hT
  have hba : Below w1.heap.size w1 (w1.alloc (.cells #[.int .i64 0, .int .i64 0] 27)) := (Below.refl _ _).alloc (Nat.le_refl _) _
  have HB1x : Hid (Below w.heap.size w (w1.alloc (.cells #[.int .i64 0, .int .i64 0] 27))) := HB1.out.trans (hba.mono HB1.out.size)
  replace ht := ht.below hba
  replace K0 := K0.below hba
  replace T1 := T1.below hba
  have K1 : Cel (w1.alloc (.cells #[.int .i64 0, .int .i64 0] 27)) w1.heap.size (.int .i64 0) := ⟨by simp, by rw [World.cell?_alloc_at _ _ _ _ rfl]; rfl⟩
  clear hba
  obtain rfl : n1 = 2 := HN1.out
  go_wp2_with fail
  refine (Read_at _ m _ HS.out K0.eq K0.lt R.out).mono ?_
  rintro e w2 ⟨v, rfl, hT, hb⟩
  have HB2 : Hid (Below w.heap.size w w2) := HB1x.out.trans (hb.mono HB1x.out.size)
  replace ht := ht.below hb
  replace K0 := K0.below hb
  replace T1 := T1.below hb
  replace K1 := K1.below hb
  obtain ⟨a2, n2, c2, rfl, T2, HN2⟩ := hT.table (tab_SmT HQ.out).all
  clear hb hT
  have hba : Below w2.heap.size w2 (w2.alloc (.cells #[.int .i64 0, .int .i64 0] 27)) := (Below.refl _ _).alloc (Nat.le_refl _) _
  have HB2x : Hid (Below w.heap.size w (w2.alloc (.cells #[.int .i64 0, .int .i64 0] 27))) := HB2.out.trans (hba.mono HB2.out.size)
  replace ht := ht.below hba
  replace K0 := K0.below hba
  replace T1 := T1.below hba
  replace K1 := K1.below hba
  replace T2 := T2.below hba
  have K2 : Cel (w2.alloc (.cells #[.int .i64 0, .int .i64 0] 27)) w2.heap.size (.int .i64 0) := ⟨by simp, by rw [World.cell?_alloc_at _ _ _ _ rfl]; rfl⟩
  clear hba
  go_wp2_with fail
  refine (Write_at (t := l) _ _ _ _ T2 (by have := HQ.out.rows; omega) HN2.out ⟨tchk_ok.2 HQ.out, by rw [if_pos rfl]; exact HQt.out.symm⟩).mono ?_
  rintro e w3 ⟨rfl, hb⟩
  have HB3 : Hid (Below w.heap.size w w3) := HB2x.out.trans (hb.mono HB2x.out.size)
  replace ht := ht.below hb
  replace K0 := K0.below hb
  replace T1 := T1.below hb
  replace K1 := K1.below hb
  replace T2 := T2.below hb
  replace K2 := K2.below hb
  clear hb
  go_wp2_with fail
  refine (Write_at (t := ttxt ls) _ _ _ _ ht hl rfl ⟨E.out, by rw [if_pos rfl]⟩).mono ?_
  rintro e w4 ⟨rfl, hb⟩
  have HB4 : Hid (Below w.heap.size w w4) := HB3.out.trans (hb.mono HB3.out.size)
  replace ht := ht.below hb
  replace K0 := K0.below hb
  replace T1 := T1.below hb
  replace K1 := K1.below hb
  replace T2 := T2.below hb
  replace K2 := K2.below hb
  clear hb
  go_wp2_with fail
  refine (Read_at _ m _ HTx.out K0.eq K0.lt (read_text HT.out)).mono ?_
  rintro e w5 ⟨v, rfl, hT, hb⟩
  have HB5 : Hid (Below w.heap.size w w5) := HB4.out.trans (hb.mono HB4.out.size)
  replace ht := ht.below hb
  replace K0 := K0.below hb
  replace T1 := T1.below hb
  replace K1 := K1.below hb
  replace T2 := T2.below hb
  replace K2 := K2.below hb
  obtain ⟨a5, n5, c5, rfl, T5, HN5⟩ := hT.table (tab_SmT HT.out).all
  clear hb hT
  have hba : Below w5.heap.size w5 (w5.alloc (.cells #[.int .i64 0, .int .i64 0] 27)) := (Below.refl _ _).alloc (Nat.le_refl _) _
  have HB5x : Hid (Below w.heap.size w (w5.alloc (.cells #[.int .i64 0, .int .i64 0] 27))) := HB5.out.trans (hba.mono HB5.out.size)
  replace ht := ht.below hba
  replace K0 := K0.below hba
  replace T1 := T1.below hba
  replace K1 := K1.below hba
  replace T2 := T2.below hba
  replace K2 := K2.below hba
  replace T5 := T5.below hba
  have K5 : Cel (w5.alloc (.cells #[.int .i64 0, .int .i64 0] 27)) w5.heap.size (.int .i64 0) := ⟨by simp, by rw [World.cell?_alloc_at _ _ _ _ rfl]; rfl⟩
  clear hba
  go_wp2_with fail
  refine (Std_at _ _ _ _ ht hl rfl (TabT.ok (F := numbered) HT.out)).mono ?_
  rintro e w6 ⟨v, rfl, hT, hb⟩
  have HB6 : Hid (Below w.heap.size w w6) := HB5x.out.trans (hb.mono HB5x.out.size)
  replace ht := ht.below hb
  replace K0 := K0.below hb
  replace T1 := T1.below hb
  replace K1 := K1.below hb
  replace T2 := T2.below hb
  replace K2 := K2.below hb
  replace T5 := T5.below hb
  replace K5 := K5.below hb
  obtain ⟨a6, n6, c6, rfl, T6, HN6⟩ := hT.table HNm.out.all
  clear hb hT
  go_wp2_with fail
  refine (Std_at (q := numbered ls) (c := 0) _ _ _ _ T6 (by have := HNm.out.1; omega) HN6.out ⟨tchk_ok.2 HNt.out, by rw [if_pos rfl, numbered_twice HT.out]⟩).mono ?_
  rintro e w7 ⟨v, rfl, hT, hb⟩
  have HB7 : Hid (Below w.heap.size w w7) := HB6.out.trans (hb.mono HB6.out.size)
  replace ht := ht.below hb
  replace K0 := K0.below hb
  replace T1 := T1.below hb
  replace K1 := K1.below hb
  replace T2 := T2.below hb
  replace K2 := K2.below hb
  replace T5 := T5.below hb
  replace K5 := K5.below hb
  replace T6 := T6.below hb
  obtain ⟨a7, n7, c7, rfl, T7, HN7⟩ := hT.table HNm.out.all
  clear hb hT
  go_wp2_with fail
  refine (IsStd_at (t := true) (c := 0) _ _ _ _ T6 (by have := HNm.out.1; omega) HN6.out ⟨tchk_ok.2 HNt.out, by rw [if_pos rfl]; exact (numbered_std HT.out).symm⟩).mono ?_
  rintro e w8 ⟨rfl, hb⟩
  have HB8 : Hid (Below w.heap.size w w8) := HB7.out.trans (hb.mono HB7.out.size)
  replace ht := ht.below hb
  replace K0 := K0.below hb
  replace T1 := T1.below hb
  replace K1 := K1.below hb
  replace T2 := T2.below hb
  replace K2 := K2.below hb
  replace T5 := T5.below hb
  replace K5 := K5.below hb
  replace T6 := T6.below hb
  replace T7 := T7.below hb
  clear hb
  go_wp2_with fail
  refine (Shape_at _ _ _ _ ht hl rfl (TabL.ok (F := shapeL) HT.out)).mono ?_
  rintro e w9 ⟨v, rfl, hown, hb⟩
  have HB9 : Hid (Below w.heap.size w w9) := HB8.out.trans (hb.mono HB8.out.size)
  replace ht := ht.below hb
  replace K0 := K0.below hb
  replace T1 := T1.below hb
  replace K1 := K1.below hb
  replace T2 := T2.below hb
  replace K2 := K2.below hb
  replace T5 := T5.below hb
  replace K5 := K5.below hb
  replace T6 := T6.below hb
  replace T7 := T7.below hb
  obtain ⟨a9, n9, c9, rfl, S9, hn9, hc9⟩ := hown.opened (shape_Sm HT.out).len (shape_Sm HT.out).wf
  have HN9 : Hid (n9 = (shapeL ls).length) := hn9
  have HC9 : Hid (n9 ≤ c9) := hc9
  clear hown hn9 hc9
  clear hb
  go_wp2_with fail
  refine (Shape_at (q := shapeL ls) (c := 0) _ _ _ _ T6 (by have := HNm.out.1; omega) HN6.out ⟨tchk_ok.2 HNt.out, by rw [if_pos rfl, shape_num]⟩).mono ?_
  rintro e w10 ⟨v, rfl, hown, hb⟩
  have HB10 : Hid (Below w.heap.size w w10) := HB9.out.trans (hb.mono HB9.out.size)
  replace ht := ht.below hb
  replace K0 := K0.below hb
  replace T1 := T1.below hb
  replace K1 := K1.below hb
  replace T2 := T2.below hb
  replace K2 := K2.below hb
  replace T5 := T5.below hb
  replace K5 := K5.below hb
  replace T6 := T6.below hb
  replace T7 := T7.below hb
  replace S9 := S9.below hb
  obtain ⟨a10, n10, c10, rfl, S10, hn10, hc10⟩ := hown.opened (shape_Sm HT.out).len (shape_Sm HT.out).wf
  have HN10 : Hid (n10 = (shapeL ls).length) := hn10
  have HC10 : Hid (n10 ≤ c10) := hc10
  clear hown hn10 hc10
  clear hb
  have hk5 := K5.eq
  go_wp2_with fail
  refine (RowsL_same _ _ _ _ _ _ ls _ T5 ht HN5.out rfl hl).mono ?_
  rintro e w11 ⟨rfl, hd⟩
  have hb : Below w10.heap.size w10 w11 := by
    obtain ⟨n, rfl⟩ := hd
    exact below_drewN (Below.refl _ _) n
  have HB11 : Hid (Below w.heap.size w w11) := HB10.out.trans (hb.mono HB10.out.size)
  replace ht := ht.below hb
  replace K0 := K0.below hb
  replace T1 := T1.below hb
  replace K1 := K1.below hb
  replace T2 := T2.below hb
  replace K2 := K2.below hb
  replace T5 := T5.below hb
  replace K5 := K5.below hb
  replace T6 := T6.below hb
  replace T7 := T7.below hb
  replace S9 := S9.below hb
  replace S10 := S10.below hb
  clear hb hd
  clear hk5
  go_wp2_with fail
  refine (RowsL_same _ _ _ _ _ _ (numbered ls) _ T6 T7 HN6.out HN7.out (by have := HNm.out.1; omega)).mono ?_
  rintro e w12 ⟨rfl, hd⟩
  have hb : Below w11.heap.size w11 w12 := by
    obtain ⟨n, rfl⟩ := hd
    exact below_drewN (Below.refl _ _) n
  have HB12 : Hid (Below w.heap.size w w12) := HB11.out.trans (hb.mono HB11.out.size)
  replace ht := ht.below hb
  replace K0 := K0.below hb
  replace T1 := T1.below hb
  replace K1 := K1.below hb
  replace T2 := T2.below hb
  replace K2 := K2.below hb
  replace T5 := T5.below hb
  replace K5 := K5.below hb
  replace T6 := T6.below hb
  replace T7 := T7.below hb
  replace S9 := S9.below hb
  replace S10 := S10.below hb
  clear hb hd
  go_wp2_with fail
  refine (Same_at _ _ _ _ _ _ (shapeL ls) (shapeL ls) _ S9 S10 HN9.out HN10.out true (by simp)).mono ?_
  rintro e w13 ⟨rfl, hd⟩
  have hb : Below w12.heap.size w12 w13 := by
    obtain ⟨n, rfl⟩ := hd
    exact below_drewN (Below.refl _ _) n
  have HB13 : Hid (Below w.heap.size w w13) := HB12.out.trans (hb.mono HB12.out.size)
  replace ht := ht.below hb
  replace K0 := K0.below hb
  replace T1 := T1.below hb
  replace K1 := K1.below hb
  replace T2 := T2.below hb
  replace K2 := K2.below hb
  replace T5 := T5.below hb
  replace K5 := K5.below hb
  replace T6 := T6.below hb
  replace T7 := T7.below hb
  replace S9 := S9.below hb
  replace S10 := S10.below hb
  clear hb hd
  go_wp2_with fail
  refine (Turned_at (q := []) (c := 3) _ _ _ _ ht hl rfl ⟨fun _ => ⟨fun h => absurd (E2.out.symm.trans h) hd0.out, fun _ => ⟨rfl, rfl⟩⟩, fun h => absurd E.out h⟩).mono ?_
  rintro e w14 ⟨v, rfl, hT, hb⟩
  have HB14 : Hid (Below w.heap.size w w14) := HB13.out.trans (hb.mono HB13.out.size)
  replace ht := ht.below hb
  replace K0 := K0.below hb
  replace T1 := T1.below hb
  replace K1 := K1.below hb
  replace T2 := T2.below hb
  replace K2 := K2.below hb
  replace T5 := T5.below hb
  replace K5 := K5.below hb
  replace T6 := T6.below hb
  replace T7 := T7.below hb
  replace S9 := S9.below hb
  replace S10 := S10.below hb
  obtain ⟨a14, n14, c14, rfl, T14, HN14⟩ := hT.table SmT.nil.all
  clear hb hT
  go_wp2
  go_ret
  exact ⟨rfl, HB14.out⟩

set_option maxHeartbeats 8000000 in
set_option maxRecDepth 100000 in
theorem back_12 (a : Option Addr) (ca : Nat) (ls : List (List Int)) (l : List UInt8) (m : Int) (w : World) (ht : Table w a ls) (hl : ls.length ≤ 17592186044416) (hs : (bytesOf l).size ≤ maxLen) (K0 : Cel w 0 (.int .i64 m)) (q : List (List Int)) (HQ : Hid (IsTab q)) (HQt : Hid (ttxt q = l)) (R : Hid (ReadR l 0 0 q)) (HT : Hid (IsTab ls)) (E : Hid (tchk ls = 0)) (E2 : Hid (tchk (cols ls) = 0)) :
    Calls Tryd.prog 4 #[.slice a ls.length ca, .string (bytesOf l)] w fun e w' => e = .returned (.bool true) ∧ Below w.heap.size w w' := by
  have HS : Hid ((bytesOf l).size ≤ maxLen) := hs
  clear hs
  have HNm : Hid (SmT (numbered ls)) := numbered_SmT HT.out
  have HNt : Hid (IsTab (numbered ls)) := numbered_tab HT.out
  have HTx : Hid ((bytesOf (ttxt ls)).size ≤ maxLen) := bytes_small (by have := ttxt_len HT.out.rowsOk; have := HT.out.few; omega)
  go_enter Tryd.func4, Tryd.ntmps4
  go_wp2_with fail
  refine (Read_at _ m _ (by decide) K0.eq K0.lt lit_read).mono ?_
  rintro e w1 ⟨v, rfl, hT, hb⟩
  have HB1 : Hid (Below w.heap.size w w1) := hb
  replace ht := ht.below hb
  replace K0 := K0.below hb
  obtain ⟨a1, n1, c1, rfl, T1, HN1⟩ := hT.table lit_sm
  clear hb hT
  have hba : Below w1.heap.size w1 (w1.alloc (.cells #[.int .i64 0, .int .i64 0] 27)) := (Below.refl _ _).alloc (Nat.le_refl _) _
  have HB1x : Hid (Below w.heap.size w (w1.alloc (.cells #[.int .i64 0, .int .i64 0] 27))) := HB1.out.trans (hba.mono HB1.out.size)
  replace ht := ht.below hba
  replace K0 := K0.below hba
  replace T1 := T1.below hba
  have K1 : Cel (w1.alloc (.cells #[.int .i64 0, .int .i64 0] 27)) w1.heap.size (.int .i64 0) := ⟨by simp, by rw [World.cell?_alloc_at _ _ _ _ rfl]; rfl⟩
  clear hba
  obtain rfl : n1 = 2 := HN1.out
  go_wp2_with fail
  refine (Read_at _ m _ HS.out K0.eq K0.lt R.out).mono ?_
  rintro e w2 ⟨v, rfl, hT, hb⟩
  have HB2 : Hid (Below w.heap.size w w2) := HB1x.out.trans (hb.mono HB1x.out.size)
  replace ht := ht.below hb
  replace K0 := K0.below hb
  replace T1 := T1.below hb
  replace K1 := K1.below hb
  obtain ⟨a2, n2, c2, rfl, T2, HN2⟩ := hT.table (tab_SmT HQ.out).all
  clear hb hT
  have hba : Below w2.heap.size w2 (w2.alloc (.cells #[.int .i64 0, .int .i64 0] 27)) := (Below.refl _ _).alloc (Nat.le_refl _) _
  have HB2x : Hid (Below w.heap.size w (w2.alloc (.cells #[.int .i64 0, .int .i64 0] 27))) := HB2.out.trans (hba.mono HB2.out.size)
  replace ht := ht.below hba
  replace K0 := K0.below hba
  replace T1 := T1.below hba
  replace K1 := K1.below hba
  replace T2 := T2.below hba
  have K2 : Cel (w2.alloc (.cells #[.int .i64 0, .int .i64 0] 27)) w2.heap.size (.int .i64 0) := ⟨by simp, by rw [World.cell?_alloc_at _ _ _ _ rfl]; rfl⟩
  clear hba
  go_wp2_with fail
  refine (Write_at (t := l) _ _ _ _ T2 (by have := HQ.out.rows; omega) HN2.out ⟨tchk_ok.2 HQ.out, by rw [if_pos rfl]; exact HQt.out.symm⟩).mono ?_
  rintro e w3 ⟨rfl, hb⟩
  have HB3 : Hid (Below w.heap.size w w3) := HB2x.out.trans (hb.mono HB2x.out.size)
  replace ht := ht.below hb
  replace K0 := K0.below hb
  replace T1 := T1.below hb
  replace K1 := K1.below hb
  replace T2 := T2.below hb
  replace K2 := K2.below hb
  clear hb
  go_wp2_with fail
  refine (Write_at (t := ttxt ls) _ _ _ _ ht hl rfl ⟨E.out, by rw [if_pos rfl]⟩).mono ?_
  rintro e w4 ⟨rfl, hb⟩
  have HB4 : Hid (Below w.heap.size w w4) := HB3.out.trans (hb.mono HB3.out.size)
  replace ht := ht.below hb
  replace K0 := K0.below hb
  replace T1 := T1.below hb
  replace K1 := K1.below hb
  replace T2 := T2.below hb
  replace K2 := K2.below hb
  clear hb
  go_wp2_with fail
  refine (Read_at _ m _ HTx.out K0.eq K0.lt (read_text HT.out)).mono ?_
  rintro e w5 ⟨v, rfl, hT, hb⟩
  have HB5 : Hid (Below w.heap.size w w5) := HB4.out.trans (hb.mono HB4.out.size)
  replace ht := ht.below hb
  replace K0 := K0.below hb
  replace T1 := T1.below hb
  replace K1 := K1.below hb
  replace T2 := T2.below hb
  replace K2 := K2.below hb
  obtain ⟨a5, n5, c5, rfl, T5, HN5⟩ := hT.table (tab_SmT HT.out).all
  clear hb hT
  have hba : Below w5.heap.size w5 (w5.alloc (.cells #[.int .i64 0, .int .i64 0] 27)) := (Below.refl _ _).alloc (Nat.le_refl _) _
  have HB5x : Hid (Below w.heap.size w (w5.alloc (.cells #[.int .i64 0, .int .i64 0] 27))) := HB5.out.trans (hba.mono HB5.out.size)
  replace ht := ht.below hba
  replace K0 := K0.below hba
  replace T1 := T1.below hba
  replace K1 := K1.below hba
  replace T2 := T2.below hba
  replace K2 := K2.below hba
  replace T5 := T5.below hba
  have K5 : Cel (w5.alloc (.cells #[.int .i64 0, .int .i64 0] 27)) w5.heap.size (.int .i64 0) := ⟨by simp, by rw [World.cell?_alloc_at _ _ _ _ rfl]; rfl⟩
  clear hba
  go_wp2_with fail
  refine (Std_at _ _ _ _ ht hl rfl (TabT.ok (F := numbered) HT.out)).mono ?_
  rintro e w6 ⟨v, rfl, hT, hb⟩
  have HB6 : Hid (Below w.heap.size w w6) := HB5x.out.trans (hb.mono HB5x.out.size)
  replace ht := ht.below hb
  replace K0 := K0.below hb
  replace T1 := T1.below hb
  replace K1 := K1.below hb
  replace T2 := T2.below hb
  replace K2 := K2.below hb
  replace T5 := T5.below hb
  replace K5 := K5.below hb
  obtain ⟨a6, n6, c6, rfl, T6, HN6⟩ := hT.table HNm.out.all
  clear hb hT
  go_wp2_with fail
  refine (Std_at (q := numbered ls) (c := 0) _ _ _ _ T6 (by have := HNm.out.1; omega) HN6.out ⟨tchk_ok.2 HNt.out, by rw [if_pos rfl, numbered_twice HT.out]⟩).mono ?_
  rintro e w7 ⟨v, rfl, hT, hb⟩
  have HB7 : Hid (Below w.heap.size w w7) := HB6.out.trans (hb.mono HB6.out.size)
  replace ht := ht.below hb
  replace K0 := K0.below hb
  replace T1 := T1.below hb
  replace K1 := K1.below hb
  replace T2 := T2.below hb
  replace K2 := K2.below hb
  replace T5 := T5.below hb
  replace K5 := K5.below hb
  replace T6 := T6.below hb
  obtain ⟨a7, n7, c7, rfl, T7, HN7⟩ := hT.table HNm.out.all
  clear hb hT
  go_wp2_with fail
  refine (IsStd_at (t := true) (c := 0) _ _ _ _ T6 (by have := HNm.out.1; omega) HN6.out ⟨tchk_ok.2 HNt.out, by rw [if_pos rfl]; exact (numbered_std HT.out).symm⟩).mono ?_
  rintro e w8 ⟨rfl, hb⟩
  have HB8 : Hid (Below w.heap.size w w8) := HB7.out.trans (hb.mono HB7.out.size)
  replace ht := ht.below hb
  replace K0 := K0.below hb
  replace T1 := T1.below hb
  replace K1 := K1.below hb
  replace T2 := T2.below hb
  replace K2 := K2.below hb
  replace T5 := T5.below hb
  replace K5 := K5.below hb
  replace T6 := T6.below hb
  replace T7 := T7.below hb
  clear hb
  go_wp2_with fail
  refine (Shape_at _ _ _ _ ht hl rfl (TabL.ok (F := shapeL) HT.out)).mono ?_
  rintro e w9 ⟨v, rfl, hown, hb⟩
  have HB9 : Hid (Below w.heap.size w w9) := HB8.out.trans (hb.mono HB8.out.size)
  replace ht := ht.below hb
  replace K0 := K0.below hb
  replace T1 := T1.below hb
  replace K1 := K1.below hb
  replace T2 := T2.below hb
  replace K2 := K2.below hb
  replace T5 := T5.below hb
  replace K5 := K5.below hb
  replace T6 := T6.below hb
  replace T7 := T7.below hb
  obtain ⟨a9, n9, c9, rfl, S9, hn9, hc9⟩ := hown.opened (shape_Sm HT.out).len (shape_Sm HT.out).wf
  have HN9 : Hid (n9 = (shapeL ls).length) := hn9
  have HC9 : Hid (n9 ≤ c9) := hc9
  clear hown hn9 hc9
  clear hb
  go_wp2_with fail
  refine (Shape_at (q := shapeL ls) (c := 0) _ _ _ _ T6 (by have := HNm.out.1; omega) HN6.out ⟨tchk_ok.2 HNt.out, by rw [if_pos rfl, shape_num]⟩).mono ?_
  rintro e w10 ⟨v, rfl, hown, hb⟩
  have HB10 : Hid (Below w.heap.size w w10) := HB9.out.trans (hb.mono HB9.out.size)
  replace ht := ht.below hb
  replace K0 := K0.below hb
  replace T1 := T1.below hb
  replace K1 := K1.below hb
  replace T2 := T2.below hb
  replace K2 := K2.below hb
  replace T5 := T5.below hb
  replace K5 := K5.below hb
  replace T6 := T6.below hb
  replace T7 := T7.below hb
  replace S9 := S9.below hb
  obtain ⟨a10, n10, c10, rfl, S10, hn10, hc10⟩ := hown.opened (shape_Sm HT.out).len (shape_Sm HT.out).wf
  have HN10 : Hid (n10 = (shapeL ls).length) := hn10
  have HC10 : Hid (n10 ≤ c10) := hc10
  clear hown hn10 hc10
  clear hb
  have hk5 := K5.eq
  go_wp2_with fail
  refine (RowsL_same _ _ _ _ _ _ ls _ T5 ht HN5.out rfl hl).mono ?_
  rintro e w11 ⟨rfl, hd⟩
  have hb : Below w10.heap.size w10 w11 := by
    obtain ⟨n, rfl⟩ := hd
    exact below_drewN (Below.refl _ _) n
  have HB11 : Hid (Below w.heap.size w w11) := HB10.out.trans (hb.mono HB10.out.size)
  replace ht := ht.below hb
  replace K0 := K0.below hb
  replace T1 := T1.below hb
  replace K1 := K1.below hb
  replace T2 := T2.below hb
  replace K2 := K2.below hb
  replace T5 := T5.below hb
  replace K5 := K5.below hb
  replace T6 := T6.below hb
  replace T7 := T7.below hb
  replace S9 := S9.below hb
  replace S10 := S10.below hb
  clear hb hd
  clear hk5
  go_wp2_with fail
  refine (RowsL_same _ _ _ _ _ _ (numbered ls) _ T6 T7 HN6.out HN7.out (by have := HNm.out.1; omega)).mono ?_
  rintro e w12 ⟨rfl, hd⟩
  have hb : Below w11.heap.size w11 w12 := by
    obtain ⟨n, rfl⟩ := hd
    exact below_drewN (Below.refl _ _) n
  have HB12 : Hid (Below w.heap.size w w12) := HB11.out.trans (hb.mono HB11.out.size)
  replace ht := ht.below hb
  replace K0 := K0.below hb
  replace T1 := T1.below hb
  replace K1 := K1.below hb
  replace T2 := T2.below hb
  replace K2 := K2.below hb
  replace T5 := T5.below hb
  replace K5 := K5.below hb
  replace T6 := T6.below hb
  replace T7 := T7.below hb
  replace S9 := S9.below hb
  replace S10 := S10.below hb
  clear hb hd
  go_wp2_with fail
  refine (Same_at _ _ _ _ _ _ (shapeL ls) (shapeL ls) _ S9 S10 HN9.out HN10.out true (by simp)).mono ?_
  rintro e w13 ⟨rfl, hd⟩
  have hb : Below w12.heap.size w12 w13 := by
    obtain ⟨n, rfl⟩ := hd
    exact below_drewN (Below.refl _ _) n
  have HB13 : Hid (Below w.heap.size w w13) := HB12.out.trans (hb.mono HB12.out.size)
  replace ht := ht.below hb
  replace K0 := K0.below hb
  replace T1 := T1.below hb
  replace K1 := K1.below hb
  replace T2 := T2.below hb
  replace K2 := K2.below hb
  replace T5 := T5.below hb
  replace K5 := K5.below hb
  replace T6 := T6.below hb
  replace T7 := T7.below hb
  replace S9 := S9.below hb
  replace S10 := S10.below hb
  clear hb hd
  go_wp2_with fail
  refine (Turned_at (q := cols ls) (c := 0) _ _ _ _ ht hl rfl ⟨fun _ => ⟨fun _ => ⟨rfl, rfl⟩, fun h => absurd E2.out h⟩, fun h => absurd E.out h⟩).mono ?_
  rintro e w14 ⟨v, rfl, hT, hb⟩
  have HB14 : Hid (Below w.heap.size w w14) := HB13.out.trans (hb.mono HB13.out.size)
  replace ht := ht.below hb
  replace K0 := K0.below hb
  replace T1 := T1.below hb
  replace K1 := K1.below hb
  replace T2 := T2.below hb
  replace K2 := K2.below hb
  replace T5 := T5.below hb
  replace K5 := K5.below hb
  replace T6 := T6.below hb
  replace T7 := T7.below hb
  replace S9 := S9.below hb
  replace S10 := S10.below hb
  obtain ⟨a14, n14, c14, rfl, T14, HN14⟩ := hT.table (cols_SmT HT.out).all
  clear hb hT
  go_wp2_with fail
  refine (Turned_at (q := ls) (c := 0) _ _ _ _ T14 (by have := (cols_SmT HT.out).1; omega) HN14.out ⟨fun _ => ⟨fun _ => ⟨rfl, (cols_twice HT.out).symm⟩, fun h => absurd (by rw [cols_twice HT.out]; exact E.out) h⟩, fun h => absurd E2.out h⟩).mono ?_
  rintro e w15 ⟨v, rfl, hT, hb⟩
  have HB15 : Hid (Below w.heap.size w w15) := HB14.out.trans (hb.mono HB14.out.size)
  replace ht := ht.below hb
  replace K0 := K0.below hb
  replace T1 := T1.below hb
  replace K1 := K1.below hb
  replace T2 := T2.below hb
  replace K2 := K2.below hb
  replace T5 := T5.below hb
  replace K5 := K5.below hb
  replace T6 := T6.below hb
  replace T7 := T7.below hb
  replace S9 := S9.below hb
  replace S10 := S10.below hb
  replace T14 := T14.below hb
  obtain ⟨a15, n15, c15, rfl, T15, HN15⟩ := hT.table (tab_SmT HT.out).all
  clear hb hT
  go_wp2_with fail
  refine (RowsL_same _ _ _ _ _ _ ls _ T15 ht HN15.out rfl hl).mono ?_
  rintro e w16 ⟨rfl, hd⟩
  have hb : Below w15.heap.size w15 w16 := by
    obtain ⟨n, rfl⟩ := hd
    exact below_drewN (Below.refl _ _) n
  have HB16 : Hid (Below w.heap.size w w16) := HB15.out.trans (hb.mono HB15.out.size)
  replace ht := ht.below hb
  replace K0 := K0.below hb
  replace T1 := T1.below hb
  replace K1 := K1.below hb
  replace T2 := T2.below hb
  replace K2 := K2.below hb
  replace T5 := T5.below hb
  replace K5 := K5.below hb
  replace T6 := T6.below hb
  replace T7 := T7.below hb
  replace S9 := S9.below hb
  replace S10 := S10.below hb
  replace T14 := T14.below hb
  replace T15 := T15.below hb
  clear hb hd
  go_wp2
  go_ret
  exact ⟨rfl, HB16.out⟩

theorem back_any (a : Option Addr) (ca : Nat) (ls : List (List Int)) (l : List UInt8) (m : Int) (w : World) (ht : Table w a ls) (hl : ls.length ≤ 17592186044416) (hs : (bytesOf l).size ≤ maxLen) (K0 : Cel w 0 (.int .i64 m)) :
    Calls Tryd.prog 4 #[.slice a ls.length ca, .string (bytesOf l)] w fun e w' => e = .returned (.bool true) ∧ Below w.heap.size w w' := by
  obtain ⟨c, p, q, R⟩ := readR_any l
  have key : (c ≠ 0 ∧ q = []) ∨ (c = 0 ∧ p = 0 ∧ IsTab q ∧ ttxt q = l) := by
    rcases R with ⟨_, rfl, _, rfl⟩ | ⟨_, rfl, rfl, rfl, rfl⟩ | ⟨rs, _, _, h3, h4⟩
    · left; exact ⟨by decide, rfl⟩
    · right; exact ⟨rfl, rfl, tchk_ok.1 (by decide), rfl⟩
    · rcases h4 with ⟨h5, rfl, rfl, rfl⟩ | ⟨h5, rfl, _, rfl⟩
      · right; exact ⟨rfl, rfl, tchk_ok.1 h5, h3.symm⟩
      · left; exact ⟨h5, rfl⟩
  by_cases h0 : tchk ls = 0
  · have hT := tchk_ok.1 h0
    by_cases h1 : tchk (cols ls) = 0
    · rcases key with ⟨hc, rfl⟩ | ⟨rfl, rfl, hq, hqt⟩
      · exact back_02 a ca ls l m w ht hl hs K0 c p (beq_eq_false_iff_ne.2 hc) R hT h0 h1
      · exact back_12 a ca ls l m w ht hl hs K0 q hq hqt R hT h0 h1
    · rcases key with ⟨hc, rfl⟩ | ⟨rfl, rfl, hq, hqt⟩
      · exact back_01 a ca ls l m w ht hl hs K0 c p (beq_eq_false_iff_ne.2 hc) R hT h0 _ (bne_iff_ne.2 h1) rfl
      · exact back_11 a ca ls l m w ht hl hs K0 q hq hqt R hT h0 _ (bne_iff_ne.2 h1) rfl
  · rcases key with ⟨hc, rfl⟩ | ⟨rfl, rfl, hq, hqt⟩
    · exact back_00 a ca ls l m w ht hl hs K0 c p (beq_eq_false_iff_ne.2 hc) R _ (bne_iff_ne.2 h0) rfl
    · exact back_10 a ca ls l m w ht hl hs K0 q hq hqt R _ (bne_iff_ne.2 h0) rfl

end Go.Proofs.YtgcagoalnhgljacDoor
