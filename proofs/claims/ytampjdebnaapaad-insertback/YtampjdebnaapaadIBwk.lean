/-
  The walk of ferkeep.InsertBack.
-/
import Derived.Test.YtampjdebnaapaadIBlw
namespace Go.Proofs.Ytampjdebnaapaad
open Go.RowKit

theorem tabs_bd {p : List (List Int)} (h : IsTab p) : ∀ l ∈ p, l.length ≤ 17592186044416 ∧ ∀ z ∈ l, -9223372036854775808 ≤ z ∧ z ≤ 9223372036854775807 := fun l hl => by
  obtain ⟨k, hk, rfl⟩ := mem_row hl
  refine ⟨by have := h.width hk; omega, fun z hz => ?_⟩
  have := h.mem (List.mem_flatten.2 ⟨_, hl, hz⟩); omega
/-- A literal of two rows with one letter each. -/
theorem table_lit2 (w : World) (x y : Int) (hx : -9223372036854775808 ≤ x ∧ x ≤ 9223372036854775807) (hy : -9223372036854775808 ≤ y ∧ y ≤ 9223372036854775807) :
    Table (((w.alloc (.cells #[.int .i64 x] 3)).alloc (.cells #[.int .i64 y] 3)).alloc (.cells #[.slice (some ⟨w.heap.size, 0, none⟩) 1 1, .slice (some ⟨w.heap.size + 1, 0, none⟩) 1 1] 22)) (some ⟨w.heap.size + 2, 0, none⟩) [[x], [y]] := by
  have hS1 := (owns_new (w := w) x).shows (by simp) (by simp; omega)
  obtain ⟨a1, c1, e1, hS1⟩ := hS1
  simp only [Value.slice.injEq] at e1
  obtain ⟨rfl, -, rfl⟩ := e1
  have hS2 := (owns_new (w := w.alloc (.cells #[.int .i64 x] 3)) y).shows (by simp) (by simp; omega)
  obtain ⟨a2, c2, e2, hS2⟩ := hS2
  simp only [Value.slice.injEq] at e2
  obtain ⟨rfl, -, rfl⟩ := e2
  have hs : (w.alloc (.cells #[.int .i64 x] 3)).heap.size = w.heap.size + 1 := by simp
  rw [hs] at hS2
  intro i hi
  have hi2 : i = 0 ∨ i = 1 := by simp at hi; omega
  have b1 : Below (w.alloc (.cells #[.int .i64 x] 3)).heap.size (w.alloc (.cells #[.int .i64 x] 3)) (((w.alloc (.cells #[.int .i64 x] 3)).alloc (.cells #[.int .i64 y] 3)).alloc (.cells #[.slice (some ⟨w.heap.size, 0, none⟩) 1 1, .slice (some ⟨w.heap.size + 1, 0, none⟩) 1 1] 22)) := ((Below.refl _ _).alloc (Nat.le_refl _) _).alloc (by simp) _
  have b2 : Below ((w.alloc (.cells #[.int .i64 x] 3)).alloc (.cells #[.int .i64 y] 3)).heap.size ((w.alloc (.cells #[.int .i64 x] 3)).alloc (.cells #[.int .i64 y] 3)) (((w.alloc (.cells #[.int .i64 x] 3)).alloc (.cells #[.int .i64 y] 3)).alloc (.cells #[.slice (some ⟨w.heap.size, 0, none⟩) 1 1, .slice (some ⟨w.heap.size + 1, 0, none⟩) 1 1] 22)) := (Below.refl _ _).alloc (Nat.le_refl _) _
  rcases hi2 with rfl | rfl
  · refine ⟨w.heap.size + 2, 0, some ⟨w.heap.size, 0, none⟩, 1, rfl, by simp, ?_, hS1.below b1, fun h => by cases h⟩
    rw [World.cell?_alloc_at _ _ _ _ (by simp)]; rfl
  · refine ⟨w.heap.size + 2, 0, some ⟨w.heap.size + 1, 0, none⟩, 1, rfl, by simp, ?_, hS2.below b2, fun h => by cases h⟩
    rw [World.cell?_alloc_at _ _ _ _ (by simp)]; rfl
theorem mk21 : (mk (numW [2, 1])).1 = [[1], [2]] ∧ (mk (numW [2, 1])).2 = [[1], [2]] := by decide
theorem bd12 : ∀ l ∈ ([[1], [2]] : List (List Int)), l.length ≤ 17592186044416 ∧ ∀ z ∈ l, -9223372036854775808 ≤ z ∧ z ≤ 9223372036854775807 := fun l hl => by
  simp at hl
  rcases hl with rfl | rfl <;> simp

set_option maxHeartbeats 4000000 in
set_option maxRecDepth 100000 in
theorem iback_111 (aw al ap aq : Option Addr) (cpw cpl cpp cpq : Nat) (zs : List Int) (l : List (Int × Int)) (p q : List (List Int)) (w : World) (hsw : Shows w aw zs) (hsl : ShowsP w al l) (htp : Table w ap p) (htq : Table w aq q) (hlp : p.length ≤ 17592186044416) (hlq : q.length ≤ 17592186044416)
    (HCw : Hid (lchk zs = 0)) (HOl : Hid (l.length ≤ 40 ∧ PLet l ∧ Ordered l)) (HMl : Hid (MpR l 0 (mk l).1 (mk l).2)) (HCb : Hid (bothC p q = 0)) :
    Calls Try.prog 6 #[.slice aw zs.length cpw, .slice al l.length cpl, .slice ap p.length cpp, .slice aq q.length cpq] w fun e w' => e = .returned (.bool true) ∧ Below w.heap.size w w' := by
  have HSw : Hid (Shows w aw zs) := hsw
  have HSl : Hid (ShowsP w al l) := hsl
  have HTp : Hid (Table w ap p) := htp
  have HTq : Hid (Table w aq q) := htq
  clear hsw hsl htp htq
  have HL21 : Hid (Shows (w.alloc (.cells #[.int .i64 2, .int .i64 1] 3)) (some ⟨w.heap.size, 0, none⟩) [2, 1]) := shows_lit w [2, 1] _ rfl (by simp) (fun z hz => by simp at hz; omega)
  have HBA : Hid (Below w.heap.size w (w.alloc (.cells #[.int .i64 2, .int .i64 1] 3))) := (Below.refl _ _).alloc (Nat.le_refl _) _
  go_enter Try.func6, Try.ntmps6
  go_wp2_with fail
  refine (Make_at _ _ _ [2, 1] _ HL21.out rfl (by decide)).mono ?_
  rintro e w1 ⟨v1, u1, rfl, hT1, hb1⟩
  rw [mk21.1, mk21.2] at hT1
  have HB1 : Hid (Below w.heap.size w w1) := HBA.out.trans (hb1.mono HBA.out.size)
  obtain ⟨a1, n1, c1, rfl, hP1, HN1⟩ := hT1.fst.table bd12
  obtain ⟨a2, n2, c2, rfl, hP2, HN2⟩ := hT1.snd.table bd12
  obtain ⟨w2, HW2⟩ : ∃ w2, Hid (w2 = ((w1.alloc (.cells #[.int .i64 1] 3)).alloc (.cells #[.int .i64 2] 3)).alloc (.cells #[.slice (some ⟨w1.heap.size, 0, none⟩) 1 1, .slice (some ⟨w1.heap.size + 1, 0, none⟩) 1 1] 22)) := ⟨_, rfl⟩
  have hb2 : Below w1.heap.size w1 w2 := by rw [HW2.out]; exact (((Below.refl _ _).alloc (Nat.le_refl _) _).alloc (by simp) _).alloc (by simp; omega) _
  have HP1 : Hid (Table w2 a1 [[1], [2]]) := hP1.below hb2
  have HP2 : Hid (Table w2 a2 [[1], [2]]) := hP2.below hb2
  have HPL : Hid (Table w2 (some ⟨w1.heap.size + 2, 0, none⟩) [[1], [2]]) := by rw [HW2.out]; exact table_lit2 w1 1 2 (by omega) (by omega)
  have HB2 : Hid (Below w.heap.size w w2) := HB1.out.trans (hb2.mono HB1.out.size)
  clear hT1 hb1 hP1 hP2 hb2
  go_wp2_with fail
  rw [← HW2.out]
  refine (RowsL_i _ _ _ _ _ _ [[1], [2]] _ HP1.out HPL.out HN1.out rfl (by simp)).mono ?_
  rintro e w3 ⟨rfl, d3, rfl⟩
  go_wp2_with fail
  refine (RowsL_i _ _ _ _ _ _ [[1], [2]] _ (HP1.out.drewN _) (HP2.out.drewN _) HN1.out HN2.out (by simp)).mono ?_
  rintro e w4 ⟨rfl, d4, hw4⟩
  have HB4 : Hid (Below w.heap.size w w4) := by rw [hw4]; exact below_drewN (below_drewN HB2.out d3) d4
  clear hw4
  go_wp2_with fail
  refine (Make_at _ _ _ zs _ (HSw.out.below HB4.out) rfl HCw.out).mono ?_
  rintro e w5 ⟨v5, u5, rfl, hT5, hb5⟩
  have HB5 : Hid (Below w.heap.size w w5) := HB4.out.trans (hb5.mono HB4.out.size)
  obtain ⟨P, HPd⟩ : ∃ P, Hid (P = (mk (numW zs)).1) := ⟨_, rfl⟩
  obtain ⟨Q, HQd⟩ : ∃ Q, Hid (Q = (mk (numW zs)).2) := ⟨_, rfl⟩
  have HBk : Hid (BkR P Q 0 zs) := by rw [HPd.out, HQd.out]; exact back_make HCw.out
  rw [← HPd.out, ← HQd.out] at hT5
  obtain ⟨hbt, -⟩ := backC_ok.1 HBk.out.1.symm
  obtain ⟨t1, t2, -⟩ := bothC_ok.1 hbt
  obtain ⟨a5, n5, c5, rfl, hP5, HN5⟩ := hT5.fst.table (tabs_bd t1)
  obtain ⟨a6, n6, c6, rfl, hP6, HN6⟩ := hT5.snd.table (tabs_bd t2)
  have HP5 : Hid (Table w5 a5 P) := hP5
  have HP6 : Hid (Table w5 a6 Q) := hP6
  have HLP : Hid (P.length ≤ 17592186044416 ∧ Q.length ≤ 17592186044416) := ⟨by have := t1.rows; omega, by have := t2.rows; omega⟩
  clear hT5 hb5 hP5 hP6 hbt t1 t2
  go_wp2_with fail
  refine (Back_at _ _ _ _ _ _ _ HP5.out HP6.out HN5.out HN6.out HLP.out.1 HLP.out.2 HBk.out).mono ?_
  rintro e w6 ⟨v6, rfl, hO6, hb6⟩
  have HB6 : Hid (Below w.heap.size w w6) := HB5.out.trans (hb6.mono HB5.out.size)
  obtain ⟨a7, c7, rfl, hS7⟩ := hO6.shows HSw.out.len HSw.out.wf
  have HS7 : Hid (Shows w6 a7 zs) := hS7
  clear hO6 hb6 hS7
  go_wp2_with fail
  refine (Same_at _ _ _ _ _ _ zs zs _ HS7.out (HSw.out.below HB6.out) rfl rfl true (by simp)).mono ?_
  rintro e w7 ⟨rfl, d7, hw7⟩
  have HB7 : Hid (Below w.heap.size w w7) := by rw [hw7]; exact below_drewN HB6.out d7
  clear hw7
  go_wp2_with fail
  refine (MakePairs_at _ _ _ _ (HSl.out.below HB7.out) rfl HMl.out).mono ?_
  rintro e w8 ⟨v8, u8, rfl, hT8, hb8⟩
  have HB8 : Hid (Below w.heap.size w w8) := HB7.out.trans (hb8.mono HB7.out.size)
  obtain ⟨P2, HP2d⟩ : ∃ P, Hid (P = (mk l).1) := ⟨_, rfl⟩
  obtain ⟨Q2, HQ2d⟩ : ∃ Q, Hid (Q = (mk l).2) := ⟨_, rfl⟩
  have HBo : Hid (bothC P2 Q2 = 0 ∧ undo Q2.flatten.length P2 Q2 = l) := by
    obtain ⟨k1, k2, k3⟩ := HOl.out
    have := mk_both k1 k2 k3
    rw [HP2d.out, HQ2d.out]; exact ⟨this.1, this.2.2⟩
  rw [← HP2d.out, ← HQ2d.out] at hT8
  obtain ⟨t1, t2, -⟩ := bothC_ok.1 HBo.out.1
  obtain ⟨a8, n8, c8, rfl, hP8, HN8⟩ := hT8.fst.table (tabs_bd t1)
  obtain ⟨a9, n9, c9, rfl, hP9, HN9⟩ := hT8.snd.table (tabs_bd t2)
  have HP8 : Hid (Table w8 a8 P2) := hP8
  have HP9 : Hid (Table w8 a9 Q2) := hP9
  have HLP2 : Hid (P2.length ≤ 17592186044416 ∧ Q2.length ≤ 17592186044416) := ⟨by have := t1.rows; omega, by have := t2.rows; omega⟩
  clear hT8 hb8 hP8 hP9 t1 t2
  go_wp2_with fail
  refine (BackPairs_at (c := 0) (l := l) _ _ _ _ _ _ _ HP8.out HP9.out HN8.out HN9.out HLP2.out.1 HLP2.out.2 ⟨HBo.out.1.symm, by rw [if_pos rfl]; exact HBo.out.2.symm⟩).mono ?_
  rintro e w9 ⟨v9, rfl, hO9, hb9⟩
  have HB9 : Hid (Below w.heap.size w w9) := HB8.out.trans (hb9.mono HB8.out.size)
  obtain ⟨a10, c10, rfl, hS10⟩ := hO9.shows HSl.out.len
  have HS10 : Hid (ShowsP w9 a10 l) := hS10
  clear hO9 hb9 hS10
  go_wp2_with fail
  refine (SameP_same _ _ _ _ _ _ l _ HS10.out (HSl.out.below HB9.out) rfl rfl).mono ?_
  rintro e w10 ⟨rfl, d10, hw10⟩
  have HB10 : Hid (Below w.heap.size w w10) := by rw [hw10]; exact below_drewN HB9.out d10
  clear hw10
  go_wp2_with fail
  refine (BackPairs_at (c := 0) (l := undo q.flatten.length p q) _ _ _ _ _ _ _ (HTp.out.below HB10.out) (HTq.out.below HB10.out) rfl rfl hlp hlq ⟨HCb.out.symm, by rw [if_pos rfl]⟩).mono ?_
  rintro e w11 ⟨v11, rfl, hO11, hb11⟩
  have HB11 : Hid (Below w.heap.size w w11) := HB10.out.trans (hb11.mono HB10.out.size)
  obtain ⟨m, HMd⟩ : ∃ m, Hid (m = undo q.flatten.length p q) := ⟨_, rfl⟩
  have HMp : Hid (MpR m 0 p q) := by rw [HMd.out]; exact undo_pairs HCb.out
  have HMl2 : Hid (m.length ≤ 40) := by
    show _ ≤ _
    rw [HMd.out, undo_length]; exact (PQ.of_both HCb.out).2.1
  rw [← HMd.out] at hO11
  obtain ⟨a11, c11, rfl, hS11⟩ := hO11.shows (by have := HMl2.out; omega)
  have HS11 : Hid (ShowsP w11 a11 m) := hS11
  clear hO11 hb11 hS11
  go_wp2_with fail
  refine (MakePairs_at _ _ _ _ HS11.out rfl HMp.out).mono ?_
  rintro e w12 ⟨v12, u12, rfl, hT12, hb12⟩
  have HB12 : Hid (Below w.heap.size w w12) := HB11.out.trans (hb12.mono HB11.out.size)
  obtain ⟨t1, t2, -⟩ := bothC_ok.1 HCb.out
  obtain ⟨a12, n12, c12, rfl, hP12, HN12⟩ := hT12.fst.table (tabs_bd t1)
  obtain ⟨a13, n13, c13, rfl, hP13, HN13⟩ := hT12.snd.table (tabs_bd t2)
  have HP12 : Hid (Table w12 a12 p) := hP12
  have HP13 : Hid (Table w12 a13 q) := hP13
  clear hT12 hb12 hP12 hP13 t1 t2
  go_wp2_with fail
  refine (RowsL_i _ _ _ _ _ _ p _ HP12.out (HTp.out.below HB12.out) HN12.out rfl hlp).mono ?_
  rintro e w13 ⟨rfl, d13, rfl⟩
  go_wp2_with fail
  refine (RowsL_i _ _ _ _ _ _ q _ (HP13.out.drewN _) ((HTq.out.below HB12.out).drewN _) HN13.out rfl hlq).mono ?_
  rintro e w14 ⟨rfl, d14, hw14⟩
  have HB14 : Hid (Below w.heap.size w w14) := by rw [hw14]; exact below_drewN (below_drewN HB12.out d13) d14
  clear hw14
  go_wp2
  go_ret
  exact ⟨rfl, HB14.out⟩

set_option maxHeartbeats 4000000 in
set_option maxRecDepth 100000 in
theorem iback_110 (aw al ap aq : Option Addr) (cpw cpl cpp cpq : Nat) (zs : List Int) (l : List (Int × Int)) (p q : List (List Int)) (w : World) (hsw : Shows w aw zs) (hsl : ShowsP w al l) (htp : Table w ap p) (htq : Table w aq q) (hlp : p.length ≤ 17592186044416) (hlq : q.length ≤ 17592186044416)
    (HCw : Hid (lchk zs = 0)) (HOl : Hid (l.length ≤ 40 ∧ PLet l ∧ Ordered l)) (HMl : Hid (MpR l 0 (mk l).1 (mk l).2)) (cb : Int) (HCb : Hid (bothC p q = cb)) (HCc : Hid (cb ≠ 0)) :
    Calls Try.prog 6 #[.slice aw zs.length cpw, .slice al l.length cpl, .slice ap p.length cpp, .slice aq q.length cpq] w fun e w' => e = .returned (.bool true) ∧ Below w.heap.size w w' := by
  have HSw : Hid (Shows w aw zs) := hsw
  have HSl : Hid (ShowsP w al l) := hsl
  have HTp : Hid (Table w ap p) := htp
  have HTq : Hid (Table w aq q) := htq
  clear hsw hsl htp htq
  have HL21 : Hid (Shows (w.alloc (.cells #[.int .i64 2, .int .i64 1] 3)) (some ⟨w.heap.size, 0, none⟩) [2, 1]) := shows_lit w [2, 1] _ rfl (by simp) (fun z hz => by simp at hz; omega)
  have HBA : Hid (Below w.heap.size w (w.alloc (.cells #[.int .i64 2, .int .i64 1] 3))) := (Below.refl _ _).alloc (Nat.le_refl _) _
  go_enter Try.func6, Try.ntmps6
  go_wp2_with fail
  refine (Make_at _ _ _ [2, 1] _ HL21.out rfl (by decide)).mono ?_
  rintro e w1 ⟨v1, u1, rfl, hT1, hb1⟩
  rw [mk21.1, mk21.2] at hT1
  have HB1 : Hid (Below w.heap.size w w1) := HBA.out.trans (hb1.mono HBA.out.size)
  obtain ⟨a1, n1, c1, rfl, hP1, HN1⟩ := hT1.fst.table bd12
  obtain ⟨a2, n2, c2, rfl, hP2, HN2⟩ := hT1.snd.table bd12
  obtain ⟨w2, HW2⟩ : ∃ w2, Hid (w2 = ((w1.alloc (.cells #[.int .i64 1] 3)).alloc (.cells #[.int .i64 2] 3)).alloc (.cells #[.slice (some ⟨w1.heap.size, 0, none⟩) 1 1, .slice (some ⟨w1.heap.size + 1, 0, none⟩) 1 1] 22)) := ⟨_, rfl⟩
  have hb2 : Below w1.heap.size w1 w2 := by rw [HW2.out]; exact (((Below.refl _ _).alloc (Nat.le_refl _) _).alloc (by simp) _).alloc (by simp; omega) _
  have HP1 : Hid (Table w2 a1 [[1], [2]]) := hP1.below hb2
  have HP2 : Hid (Table w2 a2 [[1], [2]]) := hP2.below hb2
  have HPL : Hid (Table w2 (some ⟨w1.heap.size + 2, 0, none⟩) [[1], [2]]) := by rw [HW2.out]; exact table_lit2 w1 1 2 (by omega) (by omega)
  have HB2 : Hid (Below w.heap.size w w2) := HB1.out.trans (hb2.mono HB1.out.size)
  clear hT1 hb1 hP1 hP2 hb2
  go_wp2_with fail
  rw [← HW2.out]
  refine (RowsL_i _ _ _ _ _ _ [[1], [2]] _ HP1.out HPL.out HN1.out rfl (by simp)).mono ?_
  rintro e w3 ⟨rfl, d3, rfl⟩
  go_wp2_with fail
  refine (RowsL_i _ _ _ _ _ _ [[1], [2]] _ (HP1.out.drewN _) (HP2.out.drewN _) HN1.out HN2.out (by simp)).mono ?_
  rintro e w4 ⟨rfl, d4, hw4⟩
  have HB4 : Hid (Below w.heap.size w w4) := by rw [hw4]; exact below_drewN (below_drewN HB2.out d3) d4
  clear hw4
  go_wp2_with fail
  refine (Make_at _ _ _ zs _ (HSw.out.below HB4.out) rfl HCw.out).mono ?_
  rintro e w5 ⟨v5, u5, rfl, hT5, hb5⟩
  have HB5 : Hid (Below w.heap.size w w5) := HB4.out.trans (hb5.mono HB4.out.size)
  obtain ⟨P, HPd⟩ : ∃ P, Hid (P = (mk (numW zs)).1) := ⟨_, rfl⟩
  obtain ⟨Q, HQd⟩ : ∃ Q, Hid (Q = (mk (numW zs)).2) := ⟨_, rfl⟩
  have HBk : Hid (BkR P Q 0 zs) := by rw [HPd.out, HQd.out]; exact back_make HCw.out
  rw [← HPd.out, ← HQd.out] at hT5
  obtain ⟨hbt, -⟩ := backC_ok.1 HBk.out.1.symm
  obtain ⟨t1, t2, -⟩ := bothC_ok.1 hbt
  obtain ⟨a5, n5, c5, rfl, hP5, HN5⟩ := hT5.fst.table (tabs_bd t1)
  obtain ⟨a6, n6, c6, rfl, hP6, HN6⟩ := hT5.snd.table (tabs_bd t2)
  have HP5 : Hid (Table w5 a5 P) := hP5
  have HP6 : Hid (Table w5 a6 Q) := hP6
  have HLP : Hid (P.length ≤ 17592186044416 ∧ Q.length ≤ 17592186044416) := ⟨by have := t1.rows; omega, by have := t2.rows; omega⟩
  clear hT5 hb5 hP5 hP6 hbt t1 t2
  go_wp2_with fail
  refine (Back_at _ _ _ _ _ _ _ HP5.out HP6.out HN5.out HN6.out HLP.out.1 HLP.out.2 HBk.out).mono ?_
  rintro e w6 ⟨v6, rfl, hO6, hb6⟩
  have HB6 : Hid (Below w.heap.size w w6) := HB5.out.trans (hb6.mono HB5.out.size)
  obtain ⟨a7, c7, rfl, hS7⟩ := hO6.shows HSw.out.len HSw.out.wf
  have HS7 : Hid (Shows w6 a7 zs) := hS7
  clear hO6 hb6 hS7
  go_wp2_with fail
  refine (Same_at _ _ _ _ _ _ zs zs _ HS7.out (HSw.out.below HB6.out) rfl rfl true (by simp)).mono ?_
  rintro e w7 ⟨rfl, d7, hw7⟩
  have HB7 : Hid (Below w.heap.size w w7) := by rw [hw7]; exact below_drewN HB6.out d7
  clear hw7
  go_wp2_with fail
  refine (MakePairs_at _ _ _ _ (HSl.out.below HB7.out) rfl HMl.out).mono ?_
  rintro e w8 ⟨v8, u8, rfl, hT8, hb8⟩
  have HB8 : Hid (Below w.heap.size w w8) := HB7.out.trans (hb8.mono HB7.out.size)
  obtain ⟨P2, HP2d⟩ : ∃ P, Hid (P = (mk l).1) := ⟨_, rfl⟩
  obtain ⟨Q2, HQ2d⟩ : ∃ Q, Hid (Q = (mk l).2) := ⟨_, rfl⟩
  have HBo : Hid (bothC P2 Q2 = 0 ∧ undo Q2.flatten.length P2 Q2 = l) := by
    obtain ⟨k1, k2, k3⟩ := HOl.out
    have := mk_both k1 k2 k3
    rw [HP2d.out, HQ2d.out]; exact ⟨this.1, this.2.2⟩
  rw [← HP2d.out, ← HQ2d.out] at hT8
  obtain ⟨t1, t2, -⟩ := bothC_ok.1 HBo.out.1
  obtain ⟨a8, n8, c8, rfl, hP8, HN8⟩ := hT8.fst.table (tabs_bd t1)
  obtain ⟨a9, n9, c9, rfl, hP9, HN9⟩ := hT8.snd.table (tabs_bd t2)
  have HP8 : Hid (Table w8 a8 P2) := hP8
  have HP9 : Hid (Table w8 a9 Q2) := hP9
  have HLP2 : Hid (P2.length ≤ 17592186044416 ∧ Q2.length ≤ 17592186044416) := ⟨by have := t1.rows; omega, by have := t2.rows; omega⟩
  clear hT8 hb8 hP8 hP9 t1 t2
  go_wp2_with fail
  refine (BackPairs_at (c := 0) (l := l) _ _ _ _ _ _ _ HP8.out HP9.out HN8.out HN9.out HLP2.out.1 HLP2.out.2 ⟨HBo.out.1.symm, by rw [if_pos rfl]; exact HBo.out.2.symm⟩).mono ?_
  rintro e w9 ⟨v9, rfl, hO9, hb9⟩
  have HB9 : Hid (Below w.heap.size w w9) := HB8.out.trans (hb9.mono HB8.out.size)
  obtain ⟨a10, c10, rfl, hS10⟩ := hO9.shows HSl.out.len
  have HS10 : Hid (ShowsP w9 a10 l) := hS10
  clear hO9 hb9 hS10
  go_wp2_with fail
  refine (SameP_same _ _ _ _ _ _ l _ HS10.out (HSl.out.below HB9.out) rfl rfl).mono ?_
  rintro e w10 ⟨rfl, d10, hw10⟩
  have HB10 : Hid (Below w.heap.size w w10) := by rw [hw10]; exact below_drewN HB9.out d10
  clear hw10
  go_wp2_with fail
  refine (BackPairs_at (c := cb) (l := []) _ _ _ _ _ _ _ (HTp.out.below HB10.out) (HTq.out.below HB10.out) rfl rfl hlp hlq ⟨HCb.out.symm, by rw [if_neg HCc.out]⟩).mono ?_
  rintro e w11 ⟨v11, rfl, hO11, hb11⟩
  have HB11 : Hid (Below w.heap.size w w11) := HB10.out.trans (hb11.mono HB10.out.size)
  obtain ⟨a11, c11, hv11⟩ := hO11.shape
  have hv11' : v11 = .slice a11 0 c11 := hv11
  subst hv11'
  have hcbb : (cb != 0) = true := bne_iff_ne.2 HCc.out
  clear hO11 hb11 hv11
  go_wp2
  go_ret
  exact ⟨rfl, HB11.out⟩

set_option maxHeartbeats 4000000 in
set_option maxRecDepth 100000 in
theorem iback_101 (aw al ap aq : Option Addr) (cpw cpl cpp cpq : Nat) (zs : List Int) (l : List (Int × Int)) (p q : List (List Int)) (w : World) (hsw : Shows w aw zs) (hsl : ShowsP w al l) (htp : Table w ap p) (htq : Table w aq q) (hlp : p.length ≤ 17592186044416) (hlq : q.length ≤ 17592186044416)
    (HCw : Hid (lchk zs = 0)) (cl : Int) (HLn : Hid (cl ≠ 0)) (HMl : Hid (MpR l cl [] [])) (HCb : Hid (bothC p q = 0)) :
    Calls Try.prog 6 #[.slice aw zs.length cpw, .slice al l.length cpl, .slice ap p.length cpp, .slice aq q.length cpq] w fun e w' => e = .returned (.bool true) ∧ Below w.heap.size w w' := by
  have HSw : Hid (Shows w aw zs) := hsw
  have HSl : Hid (ShowsP w al l) := hsl
  have HTp : Hid (Table w ap p) := htp
  have HTq : Hid (Table w aq q) := htq
  clear hsw hsl htp htq
  have HL21 : Hid (Shows (w.alloc (.cells #[.int .i64 2, .int .i64 1] 3)) (some ⟨w.heap.size, 0, none⟩) [2, 1]) := shows_lit w [2, 1] _ rfl (by simp) (fun z hz => by simp at hz; omega)
  have HBA : Hid (Below w.heap.size w (w.alloc (.cells #[.int .i64 2, .int .i64 1] 3))) := (Below.refl _ _).alloc (Nat.le_refl _) _
  go_enter Try.func6, Try.ntmps6
  go_wp2_with fail
  refine (Make_at _ _ _ [2, 1] _ HL21.out rfl (by decide)).mono ?_
  rintro e w1 ⟨v1, u1, rfl, hT1, hb1⟩
  rw [mk21.1, mk21.2] at hT1
  have HB1 : Hid (Below w.heap.size w w1) := HBA.out.trans (hb1.mono HBA.out.size)
  obtain ⟨a1, n1, c1, rfl, hP1, HN1⟩ := hT1.fst.table bd12
  obtain ⟨a2, n2, c2, rfl, hP2, HN2⟩ := hT1.snd.table bd12
  obtain ⟨w2, HW2⟩ : ∃ w2, Hid (w2 = ((w1.alloc (.cells #[.int .i64 1] 3)).alloc (.cells #[.int .i64 2] 3)).alloc (.cells #[.slice (some ⟨w1.heap.size, 0, none⟩) 1 1, .slice (some ⟨w1.heap.size + 1, 0, none⟩) 1 1] 22)) := ⟨_, rfl⟩
  have hb2 : Below w1.heap.size w1 w2 := by rw [HW2.out]; exact (((Below.refl _ _).alloc (Nat.le_refl _) _).alloc (by simp) _).alloc (by simp; omega) _
  have HP1 : Hid (Table w2 a1 [[1], [2]]) := hP1.below hb2
  have HP2 : Hid (Table w2 a2 [[1], [2]]) := hP2.below hb2
  have HPL : Hid (Table w2 (some ⟨w1.heap.size + 2, 0, none⟩) [[1], [2]]) := by rw [HW2.out]; exact table_lit2 w1 1 2 (by omega) (by omega)
  have HB2 : Hid (Below w.heap.size w w2) := HB1.out.trans (hb2.mono HB1.out.size)
  clear hT1 hb1 hP1 hP2 hb2
  go_wp2_with fail
  rw [← HW2.out]
  refine (RowsL_i _ _ _ _ _ _ [[1], [2]] _ HP1.out HPL.out HN1.out rfl (by simp)).mono ?_
  rintro e w3 ⟨rfl, d3, rfl⟩
  go_wp2_with fail
  refine (RowsL_i _ _ _ _ _ _ [[1], [2]] _ (HP1.out.drewN _) (HP2.out.drewN _) HN1.out HN2.out (by simp)).mono ?_
  rintro e w4 ⟨rfl, d4, hw4⟩
  have HB4 : Hid (Below w.heap.size w w4) := by rw [hw4]; exact below_drewN (below_drewN HB2.out d3) d4
  clear hw4
  go_wp2_with fail
  refine (Make_at _ _ _ zs _ (HSw.out.below HB4.out) rfl HCw.out).mono ?_
  rintro e w5 ⟨v5, u5, rfl, hT5, hb5⟩
  have HB5 : Hid (Below w.heap.size w w5) := HB4.out.trans (hb5.mono HB4.out.size)
  obtain ⟨P, HPd⟩ : ∃ P, Hid (P = (mk (numW zs)).1) := ⟨_, rfl⟩
  obtain ⟨Q, HQd⟩ : ∃ Q, Hid (Q = (mk (numW zs)).2) := ⟨_, rfl⟩
  have HBk : Hid (BkR P Q 0 zs) := by rw [HPd.out, HQd.out]; exact back_make HCw.out
  rw [← HPd.out, ← HQd.out] at hT5
  obtain ⟨hbt, -⟩ := backC_ok.1 HBk.out.1.symm
  obtain ⟨t1, t2, -⟩ := bothC_ok.1 hbt
  obtain ⟨a5, n5, c5, rfl, hP5, HN5⟩ := hT5.fst.table (tabs_bd t1)
  obtain ⟨a6, n6, c6, rfl, hP6, HN6⟩ := hT5.snd.table (tabs_bd t2)
  have HP5 : Hid (Table w5 a5 P) := hP5
  have HP6 : Hid (Table w5 a6 Q) := hP6
  have HLP : Hid (P.length ≤ 17592186044416 ∧ Q.length ≤ 17592186044416) := ⟨by have := t1.rows; omega, by have := t2.rows; omega⟩
  clear hT5 hb5 hP5 hP6 hbt t1 t2
  go_wp2_with fail
  refine (Back_at _ _ _ _ _ _ _ HP5.out HP6.out HN5.out HN6.out HLP.out.1 HLP.out.2 HBk.out).mono ?_
  rintro e w6 ⟨v6, rfl, hO6, hb6⟩
  have HB6 : Hid (Below w.heap.size w w6) := HB5.out.trans (hb6.mono HB5.out.size)
  obtain ⟨a7, c7, rfl, hS7⟩ := hO6.shows HSw.out.len HSw.out.wf
  have HS7 : Hid (Shows w6 a7 zs) := hS7
  clear hO6 hb6 hS7
  go_wp2_with fail
  refine (Same_at _ _ _ _ _ _ zs zs _ HS7.out (HSw.out.below HB6.out) rfl rfl true (by simp)).mono ?_
  rintro e w7 ⟨rfl, d7, hw7⟩
  have HB7 : Hid (Below w.heap.size w w7) := by rw [hw7]; exact below_drewN HB6.out d7
  clear hw7
  go_wp2_with fail
  refine (MakePairs_at _ _ _ _ (HSl.out.below HB7.out) rfl HMl.out).mono ?_
  rintro e w10 ⟨v8, u8, rfl, hT8, hb8⟩
  have HB10 : Hid (Below w.heap.size w w10) := HB7.out.trans (hb8.mono HB7.out.size)
  have hclb : (cl == 0) = false := by have := HLn.out; simp; exact this
  obtain ⟨⟨a8, c8, hv8⟩, ⟨a9, c9, hv9⟩⟩ := hT8.shape
  subst hv8; subst hv9
  clear hT8 hb8
  go_wp2_with fail
  refine (BackPairs_at (c := 0) (l := undo q.flatten.length p q) _ _ _ _ _ _ _ (HTp.out.below HB10.out) (HTq.out.below HB10.out) rfl rfl hlp hlq ⟨HCb.out.symm, by rw [if_pos rfl]⟩).mono ?_
  rintro e w11 ⟨v11, rfl, hO11, hb11⟩
  have HB11 : Hid (Below w.heap.size w w11) := HB10.out.trans (hb11.mono HB10.out.size)
  obtain ⟨m, HMd⟩ : ∃ m, Hid (m = undo q.flatten.length p q) := ⟨_, rfl⟩
  have HMp : Hid (MpR m 0 p q) := by rw [HMd.out]; exact undo_pairs HCb.out
  have HMl2 : Hid (m.length ≤ 40) := by
    show _ ≤ _
    rw [HMd.out, undo_length]; exact (PQ.of_both HCb.out).2.1
  rw [← HMd.out] at hO11
  obtain ⟨a11, c11, rfl, hS11⟩ := hO11.shows (by have := HMl2.out; omega)
  have HS11 : Hid (ShowsP w11 a11 m) := hS11
  clear hO11 hb11 hS11
  go_wp2_with fail
  refine (MakePairs_at _ _ _ _ HS11.out rfl HMp.out).mono ?_
  rintro e w12 ⟨v12, u12, rfl, hT12, hb12⟩
  have HB12 : Hid (Below w.heap.size w w12) := HB11.out.trans (hb12.mono HB11.out.size)
  obtain ⟨t1, t2, -⟩ := bothC_ok.1 HCb.out
  obtain ⟨a12, n12, c12, rfl, hP12, HN12⟩ := hT12.fst.table (tabs_bd t1)
  obtain ⟨a13, n13, c13, rfl, hP13, HN13⟩ := hT12.snd.table (tabs_bd t2)
  have HP12 : Hid (Table w12 a12 p) := hP12
  have HP13 : Hid (Table w12 a13 q) := hP13
  clear hT12 hb12 hP12 hP13 t1 t2
  go_wp2_with fail
  refine (RowsL_i _ _ _ _ _ _ p _ HP12.out (HTp.out.below HB12.out) HN12.out rfl hlp).mono ?_
  rintro e w13 ⟨rfl, d13, rfl⟩
  go_wp2_with fail
  refine (RowsL_i _ _ _ _ _ _ q _ (HP13.out.drewN _) ((HTq.out.below HB12.out).drewN _) HN13.out rfl hlq).mono ?_
  rintro e w14 ⟨rfl, d14, hw14⟩
  have HB14 : Hid (Below w.heap.size w w14) := by rw [hw14]; exact below_drewN (below_drewN HB12.out d13) d14
  clear hw14
  go_wp2
  go_ret
  exact ⟨rfl, HB14.out⟩

set_option maxHeartbeats 4000000 in
set_option maxRecDepth 100000 in
theorem iback_100 (aw al ap aq : Option Addr) (cpw cpl cpp cpq : Nat) (zs : List Int) (l : List (Int × Int)) (p q : List (List Int)) (w : World) (hsw : Shows w aw zs) (hsl : ShowsP w al l) (htp : Table w ap p) (htq : Table w aq q) (hlp : p.length ≤ 17592186044416) (hlq : q.length ≤ 17592186044416)
    (HCw : Hid (lchk zs = 0)) (cl : Int) (HLn : Hid (cl ≠ 0)) (HMl : Hid (MpR l cl [] [])) (cb : Int) (HCb : Hid (bothC p q = cb)) (HCc : Hid (cb ≠ 0)) :
    Calls Try.prog 6 #[.slice aw zs.length cpw, .slice al l.length cpl, .slice ap p.length cpp, .slice aq q.length cpq] w fun e w' => e = .returned (.bool true) ∧ Below w.heap.size w w' := by
  have HSw : Hid (Shows w aw zs) := hsw
  have HSl : Hid (ShowsP w al l) := hsl
  have HTp : Hid (Table w ap p) := htp
  have HTq : Hid (Table w aq q) := htq
  clear hsw hsl htp htq
  have HL21 : Hid (Shows (w.alloc (.cells #[.int .i64 2, .int .i64 1] 3)) (some ⟨w.heap.size, 0, none⟩) [2, 1]) := shows_lit w [2, 1] _ rfl (by simp) (fun z hz => by simp at hz; omega)
  have HBA : Hid (Below w.heap.size w (w.alloc (.cells #[.int .i64 2, .int .i64 1] 3))) := (Below.refl _ _).alloc (Nat.le_refl _) _
  go_enter Try.func6, Try.ntmps6
  go_wp2_with fail
  refine (Make_at _ _ _ [2, 1] _ HL21.out rfl (by decide)).mono ?_
  rintro e w1 ⟨v1, u1, rfl, hT1, hb1⟩
  rw [mk21.1, mk21.2] at hT1
  have HB1 : Hid (Below w.heap.size w w1) := HBA.out.trans (hb1.mono HBA.out.size)
  obtain ⟨a1, n1, c1, rfl, hP1, HN1⟩ := hT1.fst.table bd12
  obtain ⟨a2, n2, c2, rfl, hP2, HN2⟩ := hT1.snd.table bd12
  obtain ⟨w2, HW2⟩ : ∃ w2, Hid (w2 = ((w1.alloc (.cells #[.int .i64 1] 3)).alloc (.cells #[.int .i64 2] 3)).alloc (.cells #[.slice (some ⟨w1.heap.size, 0, none⟩) 1 1, .slice (some ⟨w1.heap.size + 1, 0, none⟩) 1 1] 22)) := ⟨_, rfl⟩
  have hb2 : Below w1.heap.size w1 w2 := by rw [HW2.out]; exact (((Below.refl _ _).alloc (Nat.le_refl _) _).alloc (by simp) _).alloc (by simp; omega) _
  have HP1 : Hid (Table w2 a1 [[1], [2]]) := hP1.below hb2
  have HP2 : Hid (Table w2 a2 [[1], [2]]) := hP2.below hb2
  have HPL : Hid (Table w2 (some ⟨w1.heap.size + 2, 0, none⟩) [[1], [2]]) := by rw [HW2.out]; exact table_lit2 w1 1 2 (by omega) (by omega)
  have HB2 : Hid (Below w.heap.size w w2) := HB1.out.trans (hb2.mono HB1.out.size)
  clear hT1 hb1 hP1 hP2 hb2
  go_wp2_with fail
  rw [← HW2.out]
  refine (RowsL_i _ _ _ _ _ _ [[1], [2]] _ HP1.out HPL.out HN1.out rfl (by simp)).mono ?_
  rintro e w3 ⟨rfl, d3, rfl⟩
  go_wp2_with fail
  refine (RowsL_i _ _ _ _ _ _ [[1], [2]] _ (HP1.out.drewN _) (HP2.out.drewN _) HN1.out HN2.out (by simp)).mono ?_
  rintro e w4 ⟨rfl, d4, hw4⟩
  have HB4 : Hid (Below w.heap.size w w4) := by rw [hw4]; exact below_drewN (below_drewN HB2.out d3) d4
  clear hw4
  go_wp2_with fail
  refine (Make_at _ _ _ zs _ (HSw.out.below HB4.out) rfl HCw.out).mono ?_
  rintro e w5 ⟨v5, u5, rfl, hT5, hb5⟩
  have HB5 : Hid (Below w.heap.size w w5) := HB4.out.trans (hb5.mono HB4.out.size)
  obtain ⟨P, HPd⟩ : ∃ P, Hid (P = (mk (numW zs)).1) := ⟨_, rfl⟩
  obtain ⟨Q, HQd⟩ : ∃ Q, Hid (Q = (mk (numW zs)).2) := ⟨_, rfl⟩
  have HBk : Hid (BkR P Q 0 zs) := by rw [HPd.out, HQd.out]; exact back_make HCw.out
  rw [← HPd.out, ← HQd.out] at hT5
  obtain ⟨hbt, -⟩ := backC_ok.1 HBk.out.1.symm
  obtain ⟨t1, t2, -⟩ := bothC_ok.1 hbt
  obtain ⟨a5, n5, c5, rfl, hP5, HN5⟩ := hT5.fst.table (tabs_bd t1)
  obtain ⟨a6, n6, c6, rfl, hP6, HN6⟩ := hT5.snd.table (tabs_bd t2)
  have HP5 : Hid (Table w5 a5 P) := hP5
  have HP6 : Hid (Table w5 a6 Q) := hP6
  have HLP : Hid (P.length ≤ 17592186044416 ∧ Q.length ≤ 17592186044416) := ⟨by have := t1.rows; omega, by have := t2.rows; omega⟩
  clear hT5 hb5 hP5 hP6 hbt t1 t2
  go_wp2_with fail
  refine (Back_at _ _ _ _ _ _ _ HP5.out HP6.out HN5.out HN6.out HLP.out.1 HLP.out.2 HBk.out).mono ?_
  rintro e w6 ⟨v6, rfl, hO6, hb6⟩
  have HB6 : Hid (Below w.heap.size w w6) := HB5.out.trans (hb6.mono HB5.out.size)
  obtain ⟨a7, c7, rfl, hS7⟩ := hO6.shows HSw.out.len HSw.out.wf
  have HS7 : Hid (Shows w6 a7 zs) := hS7
  clear hO6 hb6 hS7
  go_wp2_with fail
  refine (Same_at _ _ _ _ _ _ zs zs _ HS7.out (HSw.out.below HB6.out) rfl rfl true (by simp)).mono ?_
  rintro e w7 ⟨rfl, d7, hw7⟩
  have HB7 : Hid (Below w.heap.size w w7) := by rw [hw7]; exact below_drewN HB6.out d7
  clear hw7
  go_wp2_with fail
  refine (MakePairs_at _ _ _ _ (HSl.out.below HB7.out) rfl HMl.out).mono ?_
  rintro e w10 ⟨v8, u8, rfl, hT8, hb8⟩
  have HB10 : Hid (Below w.heap.size w w10) := HB7.out.trans (hb8.mono HB7.out.size)
  have hclb : (cl == 0) = false := by have := HLn.out; simp; exact this
  obtain ⟨⟨a8, c8, hv8⟩, ⟨a9, c9, hv9⟩⟩ := hT8.shape
  subst hv8; subst hv9
  clear hT8 hb8
  go_wp2_with fail
  refine (BackPairs_at (c := cb) (l := []) _ _ _ _ _ _ _ (HTp.out.below HB10.out) (HTq.out.below HB10.out) rfl rfl hlp hlq ⟨HCb.out.symm, by rw [if_neg HCc.out]⟩).mono ?_
  rintro e w11 ⟨v11, rfl, hO11, hb11⟩
  have HB11 : Hid (Below w.heap.size w w11) := HB10.out.trans (hb11.mono HB10.out.size)
  obtain ⟨a11, c11, hv11⟩ := hO11.shape
  have hv11' : v11 = .slice a11 0 c11 := hv11
  subst hv11'
  have hcbb : (cb != 0) = true := bne_iff_ne.2 HCc.out
  clear hO11 hb11 hv11
  go_wp2
  go_ret
  exact ⟨rfl, HB11.out⟩

set_option maxHeartbeats 4000000 in
set_option maxRecDepth 100000 in
theorem iback_011 (aw al ap aq : Option Addr) (cpw cpl cpp cpq : Nat) (zs : List Int) (l : List (Int × Int)) (p q : List (List Int)) (w : World) (hsw : Shows w aw zs) (hsl : ShowsP w al l) (htp : Table w ap p) (htq : Table w aq q) (hlp : p.length ≤ 17592186044416) (hlq : q.length ≤ 17592186044416)
    (cw : Int) (HCw : Hid (lchk zs = cw)) (HCn : Hid (cw ≠ 0)) (HOl : Hid (l.length ≤ 40 ∧ PLet l ∧ Ordered l)) (HMl : Hid (MpR l 0 (mk l).1 (mk l).2)) (HCb : Hid (bothC p q = 0)) :
    Calls Try.prog 6 #[.slice aw zs.length cpw, .slice al l.length cpl, .slice ap p.length cpp, .slice aq q.length cpq] w fun e w' => e = .returned (.bool true) ∧ Below w.heap.size w w' := by
  have HSw : Hid (Shows w aw zs) := hsw
  have HSl : Hid (ShowsP w al l) := hsl
  have HTp : Hid (Table w ap p) := htp
  have HTq : Hid (Table w aq q) := htq
  clear hsw hsl htp htq
  have HL21 : Hid (Shows (w.alloc (.cells #[.int .i64 2, .int .i64 1] 3)) (some ⟨w.heap.size, 0, none⟩) [2, 1]) := shows_lit w [2, 1] _ rfl (by simp) (fun z hz => by simp at hz; omega)
  have HBA : Hid (Below w.heap.size w (w.alloc (.cells #[.int .i64 2, .int .i64 1] 3))) := (Below.refl _ _).alloc (Nat.le_refl _) _
  go_enter Try.func6, Try.ntmps6
  go_wp2_with fail
  refine (Make_at _ _ _ [2, 1] _ HL21.out rfl (by decide)).mono ?_
  rintro e w1 ⟨v1, u1, rfl, hT1, hb1⟩
  rw [mk21.1, mk21.2] at hT1
  have HB1 : Hid (Below w.heap.size w w1) := HBA.out.trans (hb1.mono HBA.out.size)
  obtain ⟨a1, n1, c1, rfl, hP1, HN1⟩ := hT1.fst.table bd12
  obtain ⟨a2, n2, c2, rfl, hP2, HN2⟩ := hT1.snd.table bd12
  obtain ⟨w2, HW2⟩ : ∃ w2, Hid (w2 = ((w1.alloc (.cells #[.int .i64 1] 3)).alloc (.cells #[.int .i64 2] 3)).alloc (.cells #[.slice (some ⟨w1.heap.size, 0, none⟩) 1 1, .slice (some ⟨w1.heap.size + 1, 0, none⟩) 1 1] 22)) := ⟨_, rfl⟩
  have hb2 : Below w1.heap.size w1 w2 := by rw [HW2.out]; exact (((Below.refl _ _).alloc (Nat.le_refl _) _).alloc (by simp) _).alloc (by simp; omega) _
  have HP1 : Hid (Table w2 a1 [[1], [2]]) := hP1.below hb2
  have HP2 : Hid (Table w2 a2 [[1], [2]]) := hP2.below hb2
  have HPL : Hid (Table w2 (some ⟨w1.heap.size + 2, 0, none⟩) [[1], [2]]) := by rw [HW2.out]; exact table_lit2 w1 1 2 (by omega) (by omega)
  have HB2 : Hid (Below w.heap.size w w2) := HB1.out.trans (hb2.mono HB1.out.size)
  clear hT1 hb1 hP1 hP2 hb2
  go_wp2_with fail
  rw [← HW2.out]
  refine (RowsL_i _ _ _ _ _ _ [[1], [2]] _ HP1.out HPL.out HN1.out rfl (by simp)).mono ?_
  rintro e w3 ⟨rfl, d3, rfl⟩
  go_wp2_with fail
  refine (RowsL_i _ _ _ _ _ _ [[1], [2]] _ (HP1.out.drewN _) (HP2.out.drewN _) HN1.out HN2.out (by simp)).mono ?_
  rintro e w4 ⟨rfl, d4, hw4⟩
  have HB4 : Hid (Below w.heap.size w w4) := by rw [hw4]; exact below_drewN (below_drewN HB2.out d3) d4
  clear hw4
  go_wp2_with fail
  refine (Make_err _ _ _ zs _ (HSw.out.below HB4.out) rfl cw HCw.out HCn.out).mono ?_
  rintro e w7 ⟨rfl, hw7⟩
  have HB7 : Hid (Below w.heap.size w w7) := by rw [hw7]; exact HB4.out
  have hcwb : (cw == 0) = false := by have := HCn.out; simp; exact this
  clear hw7
  go_wp2_with fail
  refine (MakePairs_at _ _ _ _ (HSl.out.below HB7.out) rfl HMl.out).mono ?_
  rintro e w8 ⟨v8, u8, rfl, hT8, hb8⟩
  have HB8 : Hid (Below w.heap.size w w8) := HB7.out.trans (hb8.mono HB7.out.size)
  obtain ⟨P2, HP2d⟩ : ∃ P, Hid (P = (mk l).1) := ⟨_, rfl⟩
  obtain ⟨Q2, HQ2d⟩ : ∃ Q, Hid (Q = (mk l).2) := ⟨_, rfl⟩
  have HBo : Hid (bothC P2 Q2 = 0 ∧ undo Q2.flatten.length P2 Q2 = l) := by
    obtain ⟨k1, k2, k3⟩ := HOl.out
    have := mk_both k1 k2 k3
    rw [HP2d.out, HQ2d.out]; exact ⟨this.1, this.2.2⟩
  rw [← HP2d.out, ← HQ2d.out] at hT8
  obtain ⟨t1, t2, -⟩ := bothC_ok.1 HBo.out.1
  obtain ⟨a8, n8, c8, rfl, hP8, HN8⟩ := hT8.fst.table (tabs_bd t1)
  obtain ⟨a9, n9, c9, rfl, hP9, HN9⟩ := hT8.snd.table (tabs_bd t2)
  have HP8 : Hid (Table w8 a8 P2) := hP8
  have HP9 : Hid (Table w8 a9 Q2) := hP9
  have HLP2 : Hid (P2.length ≤ 17592186044416 ∧ Q2.length ≤ 17592186044416) := ⟨by have := t1.rows; omega, by have := t2.rows; omega⟩
  clear hT8 hb8 hP8 hP9 t1 t2
  go_wp2_with fail
  refine (BackPairs_at (c := 0) (l := l) _ _ _ _ _ _ _ HP8.out HP9.out HN8.out HN9.out HLP2.out.1 HLP2.out.2 ⟨HBo.out.1.symm, by rw [if_pos rfl]; exact HBo.out.2.symm⟩).mono ?_
  rintro e w9 ⟨v9, rfl, hO9, hb9⟩
  have HB9 : Hid (Below w.heap.size w w9) := HB8.out.trans (hb9.mono HB8.out.size)
  obtain ⟨a10, c10, rfl, hS10⟩ := hO9.shows HSl.out.len
  have HS10 : Hid (ShowsP w9 a10 l) := hS10
  clear hO9 hb9 hS10
  go_wp2_with fail
  refine (SameP_same _ _ _ _ _ _ l _ HS10.out (HSl.out.below HB9.out) rfl rfl).mono ?_
  rintro e w10 ⟨rfl, d10, hw10⟩
  have HB10 : Hid (Below w.heap.size w w10) := by rw [hw10]; exact below_drewN HB9.out d10
  clear hw10
  go_wp2_with fail
  refine (BackPairs_at (c := 0) (l := undo q.flatten.length p q) _ _ _ _ _ _ _ (HTp.out.below HB10.out) (HTq.out.below HB10.out) rfl rfl hlp hlq ⟨HCb.out.symm, by rw [if_pos rfl]⟩).mono ?_
  rintro e w11 ⟨v11, rfl, hO11, hb11⟩
  have HB11 : Hid (Below w.heap.size w w11) := HB10.out.trans (hb11.mono HB10.out.size)
  obtain ⟨m, HMd⟩ : ∃ m, Hid (m = undo q.flatten.length p q) := ⟨_, rfl⟩
  have HMp : Hid (MpR m 0 p q) := by rw [HMd.out]; exact undo_pairs HCb.out
  have HMl2 : Hid (m.length ≤ 40) := by
    show _ ≤ _
    rw [HMd.out, undo_length]; exact (PQ.of_both HCb.out).2.1
  rw [← HMd.out] at hO11
  obtain ⟨a11, c11, rfl, hS11⟩ := hO11.shows (by have := HMl2.out; omega)
  have HS11 : Hid (ShowsP w11 a11 m) := hS11
  clear hO11 hb11 hS11
  go_wp2_with fail
  refine (MakePairs_at _ _ _ _ HS11.out rfl HMp.out).mono ?_
  rintro e w12 ⟨v12, u12, rfl, hT12, hb12⟩
  have HB12 : Hid (Below w.heap.size w w12) := HB11.out.trans (hb12.mono HB11.out.size)
  obtain ⟨t1, t2, -⟩ := bothC_ok.1 HCb.out
  obtain ⟨a12, n12, c12, rfl, hP12, HN12⟩ := hT12.fst.table (tabs_bd t1)
  obtain ⟨a13, n13, c13, rfl, hP13, HN13⟩ := hT12.snd.table (tabs_bd t2)
  have HP12 : Hid (Table w12 a12 p) := hP12
  have HP13 : Hid (Table w12 a13 q) := hP13
  clear hT12 hb12 hP12 hP13 t1 t2
  go_wp2_with fail
  refine (RowsL_i _ _ _ _ _ _ p _ HP12.out (HTp.out.below HB12.out) HN12.out rfl hlp).mono ?_
  rintro e w13 ⟨rfl, d13, rfl⟩
  go_wp2_with fail
  refine (RowsL_i _ _ _ _ _ _ q _ (HP13.out.drewN _) ((HTq.out.below HB12.out).drewN _) HN13.out rfl hlq).mono ?_
  rintro e w14 ⟨rfl, d14, hw14⟩
  have HB14 : Hid (Below w.heap.size w w14) := by rw [hw14]; exact below_drewN (below_drewN HB12.out d13) d14
  clear hw14
  go_wp2
  go_ret
  exact ⟨rfl, HB14.out⟩

set_option maxHeartbeats 4000000 in
set_option maxRecDepth 100000 in
theorem iback_010 (aw al ap aq : Option Addr) (cpw cpl cpp cpq : Nat) (zs : List Int) (l : List (Int × Int)) (p q : List (List Int)) (w : World) (hsw : Shows w aw zs) (hsl : ShowsP w al l) (htp : Table w ap p) (htq : Table w aq q) (hlp : p.length ≤ 17592186044416) (hlq : q.length ≤ 17592186044416)
    (cw : Int) (HCw : Hid (lchk zs = cw)) (HCn : Hid (cw ≠ 0)) (HOl : Hid (l.length ≤ 40 ∧ PLet l ∧ Ordered l)) (HMl : Hid (MpR l 0 (mk l).1 (mk l).2)) (cb : Int) (HCb : Hid (bothC p q = cb)) (HCc : Hid (cb ≠ 0)) :
    Calls Try.prog 6 #[.slice aw zs.length cpw, .slice al l.length cpl, .slice ap p.length cpp, .slice aq q.length cpq] w fun e w' => e = .returned (.bool true) ∧ Below w.heap.size w w' := by
  have HSw : Hid (Shows w aw zs) := hsw
  have HSl : Hid (ShowsP w al l) := hsl
  have HTp : Hid (Table w ap p) := htp
  have HTq : Hid (Table w aq q) := htq
  clear hsw hsl htp htq
  have HL21 : Hid (Shows (w.alloc (.cells #[.int .i64 2, .int .i64 1] 3)) (some ⟨w.heap.size, 0, none⟩) [2, 1]) := shows_lit w [2, 1] _ rfl (by simp) (fun z hz => by simp at hz; omega)
  have HBA : Hid (Below w.heap.size w (w.alloc (.cells #[.int .i64 2, .int .i64 1] 3))) := (Below.refl _ _).alloc (Nat.le_refl _) _
  go_enter Try.func6, Try.ntmps6
  go_wp2_with fail
  refine (Make_at _ _ _ [2, 1] _ HL21.out rfl (by decide)).mono ?_
  rintro e w1 ⟨v1, u1, rfl, hT1, hb1⟩
  rw [mk21.1, mk21.2] at hT1
  have HB1 : Hid (Below w.heap.size w w1) := HBA.out.trans (hb1.mono HBA.out.size)
  obtain ⟨a1, n1, c1, rfl, hP1, HN1⟩ := hT1.fst.table bd12
  obtain ⟨a2, n2, c2, rfl, hP2, HN2⟩ := hT1.snd.table bd12
  obtain ⟨w2, HW2⟩ : ∃ w2, Hid (w2 = ((w1.alloc (.cells #[.int .i64 1] 3)).alloc (.cells #[.int .i64 2] 3)).alloc (.cells #[.slice (some ⟨w1.heap.size, 0, none⟩) 1 1, .slice (some ⟨w1.heap.size + 1, 0, none⟩) 1 1] 22)) := ⟨_, rfl⟩
  have hb2 : Below w1.heap.size w1 w2 := by rw [HW2.out]; exact (((Below.refl _ _).alloc (Nat.le_refl _) _).alloc (by simp) _).alloc (by simp; omega) _
  have HP1 : Hid (Table w2 a1 [[1], [2]]) := hP1.below hb2
  have HP2 : Hid (Table w2 a2 [[1], [2]]) := hP2.below hb2
  have HPL : Hid (Table w2 (some ⟨w1.heap.size + 2, 0, none⟩) [[1], [2]]) := by rw [HW2.out]; exact table_lit2 w1 1 2 (by omega) (by omega)
  have HB2 : Hid (Below w.heap.size w w2) := HB1.out.trans (hb2.mono HB1.out.size)
  clear hT1 hb1 hP1 hP2 hb2
  go_wp2_with fail
  rw [← HW2.out]
  refine (RowsL_i _ _ _ _ _ _ [[1], [2]] _ HP1.out HPL.out HN1.out rfl (by simp)).mono ?_
  rintro e w3 ⟨rfl, d3, rfl⟩
  go_wp2_with fail
  refine (RowsL_i _ _ _ _ _ _ [[1], [2]] _ (HP1.out.drewN _) (HP2.out.drewN _) HN1.out HN2.out (by simp)).mono ?_
  rintro e w4 ⟨rfl, d4, hw4⟩
  have HB4 : Hid (Below w.heap.size w w4) := by rw [hw4]; exact below_drewN (below_drewN HB2.out d3) d4
  clear hw4
  go_wp2_with fail
  refine (Make_err _ _ _ zs _ (HSw.out.below HB4.out) rfl cw HCw.out HCn.out).mono ?_
  rintro e w7 ⟨rfl, hw7⟩
  have HB7 : Hid (Below w.heap.size w w7) := by rw [hw7]; exact HB4.out
  have hcwb : (cw == 0) = false := by have := HCn.out; simp; exact this
  clear hw7
  go_wp2_with fail
  refine (MakePairs_at _ _ _ _ (HSl.out.below HB7.out) rfl HMl.out).mono ?_
  rintro e w8 ⟨v8, u8, rfl, hT8, hb8⟩
  have HB8 : Hid (Below w.heap.size w w8) := HB7.out.trans (hb8.mono HB7.out.size)
  obtain ⟨P2, HP2d⟩ : ∃ P, Hid (P = (mk l).1) := ⟨_, rfl⟩
  obtain ⟨Q2, HQ2d⟩ : ∃ Q, Hid (Q = (mk l).2) := ⟨_, rfl⟩
  have HBo : Hid (bothC P2 Q2 = 0 ∧ undo Q2.flatten.length P2 Q2 = l) := by
    obtain ⟨k1, k2, k3⟩ := HOl.out
    have := mk_both k1 k2 k3
    rw [HP2d.out, HQ2d.out]; exact ⟨this.1, this.2.2⟩
  rw [← HP2d.out, ← HQ2d.out] at hT8
  obtain ⟨t1, t2, -⟩ := bothC_ok.1 HBo.out.1
  obtain ⟨a8, n8, c8, rfl, hP8, HN8⟩ := hT8.fst.table (tabs_bd t1)
  obtain ⟨a9, n9, c9, rfl, hP9, HN9⟩ := hT8.snd.table (tabs_bd t2)
  have HP8 : Hid (Table w8 a8 P2) := hP8
  have HP9 : Hid (Table w8 a9 Q2) := hP9
  have HLP2 : Hid (P2.length ≤ 17592186044416 ∧ Q2.length ≤ 17592186044416) := ⟨by have := t1.rows; omega, by have := t2.rows; omega⟩
  clear hT8 hb8 hP8 hP9 t1 t2
  go_wp2_with fail
  refine (BackPairs_at (c := 0) (l := l) _ _ _ _ _ _ _ HP8.out HP9.out HN8.out HN9.out HLP2.out.1 HLP2.out.2 ⟨HBo.out.1.symm, by rw [if_pos rfl]; exact HBo.out.2.symm⟩).mono ?_
  rintro e w9 ⟨v9, rfl, hO9, hb9⟩
  have HB9 : Hid (Below w.heap.size w w9) := HB8.out.trans (hb9.mono HB8.out.size)
  obtain ⟨a10, c10, rfl, hS10⟩ := hO9.shows HSl.out.len
  have HS10 : Hid (ShowsP w9 a10 l) := hS10
  clear hO9 hb9 hS10
  go_wp2_with fail
  refine (SameP_same _ _ _ _ _ _ l _ HS10.out (HSl.out.below HB9.out) rfl rfl).mono ?_
  rintro e w10 ⟨rfl, d10, hw10⟩
  have HB10 : Hid (Below w.heap.size w w10) := by rw [hw10]; exact below_drewN HB9.out d10
  clear hw10
  go_wp2_with fail
  refine (BackPairs_at (c := cb) (l := []) _ _ _ _ _ _ _ (HTp.out.below HB10.out) (HTq.out.below HB10.out) rfl rfl hlp hlq ⟨HCb.out.symm, by rw [if_neg HCc.out]⟩).mono ?_
  rintro e w11 ⟨v11, rfl, hO11, hb11⟩
  have HB11 : Hid (Below w.heap.size w w11) := HB10.out.trans (hb11.mono HB10.out.size)
  obtain ⟨a11, c11, hv11⟩ := hO11.shape
  have hv11' : v11 = .slice a11 0 c11 := hv11
  subst hv11'
  have hcbb : (cb != 0) = true := bne_iff_ne.2 HCc.out
  clear hO11 hb11 hv11
  go_wp2
  go_ret
  exact ⟨rfl, HB11.out⟩

set_option maxHeartbeats 4000000 in
set_option maxRecDepth 100000 in
theorem iback_001 (aw al ap aq : Option Addr) (cpw cpl cpp cpq : Nat) (zs : List Int) (l : List (Int × Int)) (p q : List (List Int)) (w : World) (hsw : Shows w aw zs) (hsl : ShowsP w al l) (htp : Table w ap p) (htq : Table w aq q) (hlp : p.length ≤ 17592186044416) (hlq : q.length ≤ 17592186044416)
    (cw : Int) (HCw : Hid (lchk zs = cw)) (HCn : Hid (cw ≠ 0)) (cl : Int) (HLn : Hid (cl ≠ 0)) (HMl : Hid (MpR l cl [] [])) (HCb : Hid (bothC p q = 0)) :
    Calls Try.prog 6 #[.slice aw zs.length cpw, .slice al l.length cpl, .slice ap p.length cpp, .slice aq q.length cpq] w fun e w' => e = .returned (.bool true) ∧ Below w.heap.size w w' := by
  have HSw : Hid (Shows w aw zs) := hsw
  have HSl : Hid (ShowsP w al l) := hsl
  have HTp : Hid (Table w ap p) := htp
  have HTq : Hid (Table w aq q) := htq
  clear hsw hsl htp htq
  have HL21 : Hid (Shows (w.alloc (.cells #[.int .i64 2, .int .i64 1] 3)) (some ⟨w.heap.size, 0, none⟩) [2, 1]) := shows_lit w [2, 1] _ rfl (by simp) (fun z hz => by simp at hz; omega)
  have HBA : Hid (Below w.heap.size w (w.alloc (.cells #[.int .i64 2, .int .i64 1] 3))) := (Below.refl _ _).alloc (Nat.le_refl _) _
  go_enter Try.func6, Try.ntmps6
  go_wp2_with fail
  refine (Make_at _ _ _ [2, 1] _ HL21.out rfl (by decide)).mono ?_
  rintro e w1 ⟨v1, u1, rfl, hT1, hb1⟩
  rw [mk21.1, mk21.2] at hT1
  have HB1 : Hid (Below w.heap.size w w1) := HBA.out.trans (hb1.mono HBA.out.size)
  obtain ⟨a1, n1, c1, rfl, hP1, HN1⟩ := hT1.fst.table bd12
  obtain ⟨a2, n2, c2, rfl, hP2, HN2⟩ := hT1.snd.table bd12
  obtain ⟨w2, HW2⟩ : ∃ w2, Hid (w2 = ((w1.alloc (.cells #[.int .i64 1] 3)).alloc (.cells #[.int .i64 2] 3)).alloc (.cells #[.slice (some ⟨w1.heap.size, 0, none⟩) 1 1, .slice (some ⟨w1.heap.size + 1, 0, none⟩) 1 1] 22)) := ⟨_, rfl⟩
  have hb2 : Below w1.heap.size w1 w2 := by rw [HW2.out]; exact (((Below.refl _ _).alloc (Nat.le_refl _) _).alloc (by simp) _).alloc (by simp; omega) _
  have HP1 : Hid (Table w2 a1 [[1], [2]]) := hP1.below hb2
  have HP2 : Hid (Table w2 a2 [[1], [2]]) := hP2.below hb2
  have HPL : Hid (Table w2 (some ⟨w1.heap.size + 2, 0, none⟩) [[1], [2]]) := by rw [HW2.out]; exact table_lit2 w1 1 2 (by omega) (by omega)
  have HB2 : Hid (Below w.heap.size w w2) := HB1.out.trans (hb2.mono HB1.out.size)
  clear hT1 hb1 hP1 hP2 hb2
  go_wp2_with fail
  rw [← HW2.out]
  refine (RowsL_i _ _ _ _ _ _ [[1], [2]] _ HP1.out HPL.out HN1.out rfl (by simp)).mono ?_
  rintro e w3 ⟨rfl, d3, rfl⟩
  go_wp2_with fail
  refine (RowsL_i _ _ _ _ _ _ [[1], [2]] _ (HP1.out.drewN _) (HP2.out.drewN _) HN1.out HN2.out (by simp)).mono ?_
  rintro e w4 ⟨rfl, d4, hw4⟩
  have HB4 : Hid (Below w.heap.size w w4) := by rw [hw4]; exact below_drewN (below_drewN HB2.out d3) d4
  clear hw4
  go_wp2_with fail
  refine (Make_err _ _ _ zs _ (HSw.out.below HB4.out) rfl cw HCw.out HCn.out).mono ?_
  rintro e w7 ⟨rfl, hw7⟩
  have HB7 : Hid (Below w.heap.size w w7) := by rw [hw7]; exact HB4.out
  have hcwb : (cw == 0) = false := by have := HCn.out; simp; exact this
  clear hw7
  go_wp2_with fail
  refine (MakePairs_at _ _ _ _ (HSl.out.below HB7.out) rfl HMl.out).mono ?_
  rintro e w10 ⟨v8, u8, rfl, hT8, hb8⟩
  have HB10 : Hid (Below w.heap.size w w10) := HB7.out.trans (hb8.mono HB7.out.size)
  have hclb : (cl == 0) = false := by have := HLn.out; simp; exact this
  obtain ⟨⟨a8, c8, hv8⟩, ⟨a9, c9, hv9⟩⟩ := hT8.shape
  subst hv8; subst hv9
  clear hT8 hb8
  go_wp2_with fail
  refine (BackPairs_at (c := 0) (l := undo q.flatten.length p q) _ _ _ _ _ _ _ (HTp.out.below HB10.out) (HTq.out.below HB10.out) rfl rfl hlp hlq ⟨HCb.out.symm, by rw [if_pos rfl]⟩).mono ?_
  rintro e w11 ⟨v11, rfl, hO11, hb11⟩
  have HB11 : Hid (Below w.heap.size w w11) := HB10.out.trans (hb11.mono HB10.out.size)
  obtain ⟨m, HMd⟩ : ∃ m, Hid (m = undo q.flatten.length p q) := ⟨_, rfl⟩
  have HMp : Hid (MpR m 0 p q) := by rw [HMd.out]; exact undo_pairs HCb.out
  have HMl2 : Hid (m.length ≤ 40) := by
    show _ ≤ _
    rw [HMd.out, undo_length]; exact (PQ.of_both HCb.out).2.1
  rw [← HMd.out] at hO11
  obtain ⟨a11, c11, rfl, hS11⟩ := hO11.shows (by have := HMl2.out; omega)
  have HS11 : Hid (ShowsP w11 a11 m) := hS11
  clear hO11 hb11 hS11
  go_wp2_with fail
  refine (MakePairs_at _ _ _ _ HS11.out rfl HMp.out).mono ?_
  rintro e w12 ⟨v12, u12, rfl, hT12, hb12⟩
  have HB12 : Hid (Below w.heap.size w w12) := HB11.out.trans (hb12.mono HB11.out.size)
  obtain ⟨t1, t2, -⟩ := bothC_ok.1 HCb.out
  obtain ⟨a12, n12, c12, rfl, hP12, HN12⟩ := hT12.fst.table (tabs_bd t1)
  obtain ⟨a13, n13, c13, rfl, hP13, HN13⟩ := hT12.snd.table (tabs_bd t2)
  have HP12 : Hid (Table w12 a12 p) := hP12
  have HP13 : Hid (Table w12 a13 q) := hP13
  clear hT12 hb12 hP12 hP13 t1 t2
  go_wp2_with fail
  refine (RowsL_i _ _ _ _ _ _ p _ HP12.out (HTp.out.below HB12.out) HN12.out rfl hlp).mono ?_
  rintro e w13 ⟨rfl, d13, rfl⟩
  go_wp2_with fail
  refine (RowsL_i _ _ _ _ _ _ q _ (HP13.out.drewN _) ((HTq.out.below HB12.out).drewN _) HN13.out rfl hlq).mono ?_
  rintro e w14 ⟨rfl, d14, hw14⟩
  have HB14 : Hid (Below w.heap.size w w14) := by rw [hw14]; exact below_drewN (below_drewN HB12.out d13) d14
  clear hw14
  go_wp2
  go_ret
  exact ⟨rfl, HB14.out⟩

set_option maxHeartbeats 4000000 in
set_option maxRecDepth 100000 in
theorem iback_000 (aw al ap aq : Option Addr) (cpw cpl cpp cpq : Nat) (zs : List Int) (l : List (Int × Int)) (p q : List (List Int)) (w : World) (hsw : Shows w aw zs) (hsl : ShowsP w al l) (htp : Table w ap p) (htq : Table w aq q) (hlp : p.length ≤ 17592186044416) (hlq : q.length ≤ 17592186044416)
    (cw : Int) (HCw : Hid (lchk zs = cw)) (HCn : Hid (cw ≠ 0)) (cl : Int) (HLn : Hid (cl ≠ 0)) (HMl : Hid (MpR l cl [] [])) (cb : Int) (HCb : Hid (bothC p q = cb)) (HCc : Hid (cb ≠ 0)) :
    Calls Try.prog 6 #[.slice aw zs.length cpw, .slice al l.length cpl, .slice ap p.length cpp, .slice aq q.length cpq] w fun e w' => e = .returned (.bool true) ∧ Below w.heap.size w w' := by
  have HSw : Hid (Shows w aw zs) := hsw
  have HSl : Hid (ShowsP w al l) := hsl
  have HTp : Hid (Table w ap p) := htp
  have HTq : Hid (Table w aq q) := htq
  clear hsw hsl htp htq
  have HL21 : Hid (Shows (w.alloc (.cells #[.int .i64 2, .int .i64 1] 3)) (some ⟨w.heap.size, 0, none⟩) [2, 1]) := shows_lit w [2, 1] _ rfl (by simp) (fun z hz => by simp at hz; omega)
  have HBA : Hid (Below w.heap.size w (w.alloc (.cells #[.int .i64 2, .int .i64 1] 3))) := (Below.refl _ _).alloc (Nat.le_refl _) _
  go_enter Try.func6, Try.ntmps6
  go_wp2_with fail
  refine (Make_at _ _ _ [2, 1] _ HL21.out rfl (by decide)).mono ?_
  rintro e w1 ⟨v1, u1, rfl, hT1, hb1⟩
  rw [mk21.1, mk21.2] at hT1
  have HB1 : Hid (Below w.heap.size w w1) := HBA.out.trans (hb1.mono HBA.out.size)
  obtain ⟨a1, n1, c1, rfl, hP1, HN1⟩ := hT1.fst.table bd12
  obtain ⟨a2, n2, c2, rfl, hP2, HN2⟩ := hT1.snd.table bd12
  obtain ⟨w2, HW2⟩ : ∃ w2, Hid (w2 = ((w1.alloc (.cells #[.int .i64 1] 3)).alloc (.cells #[.int .i64 2] 3)).alloc (.cells #[.slice (some ⟨w1.heap.size, 0, none⟩) 1 1, .slice (some ⟨w1.heap.size + 1, 0, none⟩) 1 1] 22)) := ⟨_, rfl⟩
  have hb2 : Below w1.heap.size w1 w2 := by rw [HW2.out]; exact (((Below.refl _ _).alloc (Nat.le_refl _) _).alloc (by simp) _).alloc (by simp; omega) _
  have HP1 : Hid (Table w2 a1 [[1], [2]]) := hP1.below hb2
  have HP2 : Hid (Table w2 a2 [[1], [2]]) := hP2.below hb2
  have HPL : Hid (Table w2 (some ⟨w1.heap.size + 2, 0, none⟩) [[1], [2]]) := by rw [HW2.out]; exact table_lit2 w1 1 2 (by omega) (by omega)
  have HB2 : Hid (Below w.heap.size w w2) := HB1.out.trans (hb2.mono HB1.out.size)
  clear hT1 hb1 hP1 hP2 hb2
  go_wp2_with fail
  rw [← HW2.out]
  refine (RowsL_i _ _ _ _ _ _ [[1], [2]] _ HP1.out HPL.out HN1.out rfl (by simp)).mono ?_
  rintro e w3 ⟨rfl, d3, rfl⟩
  go_wp2_with fail
  refine (RowsL_i _ _ _ _ _ _ [[1], [2]] _ (HP1.out.drewN _) (HP2.out.drewN _) HN1.out HN2.out (by simp)).mono ?_
  rintro e w4 ⟨rfl, d4, hw4⟩
  have HB4 : Hid (Below w.heap.size w w4) := by rw [hw4]; exact below_drewN (below_drewN HB2.out d3) d4
  clear hw4
  go_wp2_with fail
  refine (Make_err _ _ _ zs _ (HSw.out.below HB4.out) rfl cw HCw.out HCn.out).mono ?_
  rintro e w7 ⟨rfl, hw7⟩
  have HB7 : Hid (Below w.heap.size w w7) := by rw [hw7]; exact HB4.out
  have hcwb : (cw == 0) = false := by have := HCn.out; simp; exact this
  clear hw7
  go_wp2_with fail
  refine (MakePairs_at _ _ _ _ (HSl.out.below HB7.out) rfl HMl.out).mono ?_
  rintro e w10 ⟨v8, u8, rfl, hT8, hb8⟩
  have HB10 : Hid (Below w.heap.size w w10) := HB7.out.trans (hb8.mono HB7.out.size)
  have hclb : (cl == 0) = false := by have := HLn.out; simp; exact this
  obtain ⟨⟨a8, c8, hv8⟩, ⟨a9, c9, hv9⟩⟩ := hT8.shape
  subst hv8; subst hv9
  clear hT8 hb8
  go_wp2_with fail
  refine (BackPairs_at (c := cb) (l := []) _ _ _ _ _ _ _ (HTp.out.below HB10.out) (HTq.out.below HB10.out) rfl rfl hlp hlq ⟨HCb.out.symm, by rw [if_neg HCc.out]⟩).mono ?_
  rintro e w11 ⟨v11, rfl, hO11, hb11⟩
  have HB11 : Hid (Below w.heap.size w w11) := HB10.out.trans (hb11.mono HB10.out.size)
  obtain ⟨a11, c11, hv11⟩ := hO11.shape
  have hv11' : v11 = .slice a11 0 c11 := hv11
  subst hv11'
  have hcbb : (cb != 0) = true := bne_iff_ne.2 HCc.out
  clear hO11 hb11 hv11
  go_wp2
  go_ret
  exact ⟨rfl, HB11.out⟩

theorem iback_any (aw al ap aq : Option Addr) (cpw cpl cpp cpq : Nat) (zs : List Int) (l : List (Int × Int)) (p q : List (List Int)) (w : World) (hsw : Shows w aw zs) (hsl : ShowsP w al l) (htp : Table w ap p) (htq : Table w aq q) (hlp : p.length ≤ 17592186044416) (hlq : q.length ≤ 17592186044416) :
    Calls Try.prog 6 #[.slice aw zs.length cpw, .slice al l.length cpl, .slice ap p.length cpp, .slice aq q.length cpq] w fun e w' => e = .returned (.bool true) ∧ Below w.heap.size w w' := by
  obtain ⟨cl, hcl⟩ := PairC.ex l
  have hB0 : cl = 0 → (l.length ≤ 40 ∧ PLet l ∧ Ordered l) ∧ MpR l 0 (mk l).1 (mk l).2 := fun h => by
    subst h
    rcases hcl with ⟨h1, h2⟩ | ⟨h1, h2, h3, h4⟩ | ⟨h1, h2, h3⟩
    · omega
    · exact ⟨⟨h1, h2, h3⟩, Or.inr (Or.inl ⟨h1, h2, h3, rfl⟩), by rw [if_pos rfl], by rw [if_pos rfl]⟩
    · omega
  have hB1 : cl ≠ 0 → MpR l cl [] [] := fun h => ⟨hcl, by rw [if_neg h], by rw [if_neg h]⟩
  by_cases hA : lchk zs = 0
  · by_cases hB : cl = 0
    · obtain ⟨b1, b2⟩ := hB0 hB
      by_cases hC : bothC p q = 0
      · exact iback_111 aw al ap aq cpw cpl cpp cpq zs l p q w hsw hsl htp htq hlp hlq hA b1 b2 hC
      · exact iback_110 aw al ap aq cpw cpl cpp cpq zs l p q w hsw hsl htp htq hlp hlq hA b1 b2 _ rfl hC
    · by_cases hC : bothC p q = 0
      · exact iback_101 aw al ap aq cpw cpl cpp cpq zs l p q w hsw hsl htp htq hlp hlq hA cl hB (hB1 hB) hC
      · exact iback_100 aw al ap aq cpw cpl cpp cpq zs l p q w hsw hsl htp htq hlp hlq hA cl hB (hB1 hB) _ rfl hC
  · by_cases hB : cl = 0
    · obtain ⟨b1, b2⟩ := hB0 hB
      by_cases hC : bothC p q = 0
      · exact iback_011 aw al ap aq cpw cpl cpp cpq zs l p q w hsw hsl htp htq hlp hlq _ rfl hA b1 b2 hC
      · exact iback_010 aw al ap aq cpw cpl cpp cpq zs l p q w hsw hsl htp htq hlp hlq _ rfl hA b1 b2 _ rfl hC
    · by_cases hC : bothC p q = 0
      · exact iback_001 aw al ap aq cpw cpl cpp cpq zs l p q w hsw hsl htp htq hlp hlq _ rfl hA cl hB (hB1 hB) hC
      · exact iback_000 aw al ap aq cpw cpl cpp cpq zs l p q w hsw hsl htp htq hlp hlq _ rfl hA cl hB (hB1 hB) _ rfl hC

end Go.Proofs.Ytampjdebnaapaad
