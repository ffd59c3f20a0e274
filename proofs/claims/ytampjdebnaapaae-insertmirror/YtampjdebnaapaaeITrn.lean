/-
  The contracts of fill.columns, fill.Turned, over fewer texts.
-/
import Derived.Test.YtampjdebnaapaaeUChkB
import Derived.Test.YtampjdebnaapaaeLMathB
import Derived.Test.YtampjdebnaapaaeTTab
import Derived.Test.YtampjdebnaapaaePChk
namespace Go.Proofs.Ytampjdebnaapaae
open Go.RowKit

theorem below_drew {w : World} (n : Nat) : Below w.heap.size w (w.drewN n) := below_drewN (Below.refl _ _) n
theorem tab_len {ls : List (List Int)} (h : IsTab ls) : ls.length ≤ 17592186044416 := by have := h.rows; omega

set_option maxHeartbeats 2000000 in
theorem widthOf_at (a : Option Addr) (n cap : Nat) (ls : List (List Int)) (w : World) (hs : Table w a ls) (hn : n = ls.length) (hl : ls.length ≤ 17592186044416) :
    Calls Try.prog 26 #[.slice a n cap] w fun e w' => e = .returned (.int .i64 (width ls : Nat)) ∧ w' = w := by
  subst hn
  have HS : Hid (Table w a ls) := hs
  clear hs
  by_cases h0 : 0 < ls.length
  · have hb : ((ls.length : Int) == 0) = false := by simp; intro e; subst e; simp at h0
    have h0' : (0 : Int) < (ls.length : Int) := by omega
    obtain ⟨b, off, ai, m, ci, rfl, hc, HM, -, -, hmb⟩ := HS.out.elem h0
    rw [Nat.add_zero] at hc
    go_enter Try.func26, Try.ntmps26
    go_wp2
    go_ret
    exact ⟨ret_int (by rw [HM.out]; rfl), rfl⟩
  · obtain rfl : ls = [] := List.eq_nil_of_length_eq_zero (by omega)
    go_enter Try.func26, Try.ntmps26
    go_wp2
    go_ret
    exact ⟨rfl, rfl⟩

/-- The columns when i rows and j boxes of the next one were seen. -/
def colsAt (ls : List (List Int)) (i j : Nat) : List (List Int) := (List.range (width ls)).map fun c => if c < j then colOf (ls.take (i + 1)) c else colOf (ls.take i) c
theorem colsAt_length (ls : List (List Int)) (i j : Nat) : (colsAt ls i j).length = width ls := by simp [colsAt]
theorem colsAt_get {ls : List (List Int)} {i j c : Nat} (hc : c < width ls) : (colsAt ls i j).getD c [] = if c < j then colOf (ls.take (i + 1)) c else colOf (ls.take i) c := by simp [colsAt, List.getD, hc]
theorem colsAt_start (ls : List (List Int)) : colsAt ls 0 0 = List.replicate (width ls) [] := by
  rw [List.eq_replicate_iff]
  refine ⟨colsAt_length _ _ _, fun r hr => ?_⟩
  obtain ⟨i, _, rfl⟩ := List.mem_map.1 hr
  rw [if_neg (by omega)]; exact colOf_zero _ _
theorem colsAt_end (ls : List (List Int)) : colsAt ls ls.length 0 = cols ls := by
  unfold colsAt cols
  refine List.map_congr_left (fun c _ => ?_)
  rw [if_neg (by omega), colOf_all]
theorem colsAt_row {ls : List (List Int)} {i : Nat} (hi : i < ls.length) : colsAt ls i (row ls i).length = colsAt ls (i + 1) 0 := by
  unfold colsAt
  refine List.map_congr_left (fun c _ => ?_)
  rw [if_neg (show ¬ c < 0 by omega)]
  by_cases h : c < (row ls i).length
  · rw [if_pos h]
  · rw [if_neg h, colOf_take hi, if_neg h, List.append_nil]
theorem colsAt_step {ls : List (List Int)} {i j : Nat} (hi : i < ls.length) (hj : j < (row ls i).length) (hw : j < width ls) : (colsAt ls i j).set j ((colsAt ls i j).getD j [] ++ [box ls i j]) = colsAt ls i (j + 1) := by
  refine ext_row (by simp [colsAt_length]) (fun a ha => ?_)
  rw [List.length_set, colsAt_length] at ha
  unfold row
  rw [getD_set_rows _ _ _ _ (by rw [colsAt_length]; exact ha), colsAt_get ha, colsAt_get hw, colsAt_get ha]
  by_cases e : a = j
  · subst e
    rw [if_pos rfl, if_neg (by omega), if_pos (by omega), colOf_take hi, if_pos hj]
  · rw [if_neg e]
    by_cases h : a < j
    · rw [if_pos h, if_pos (by omega)]
    · rw [if_neg h, if_neg (by omega)]
theorem colsAt_len {ls : List (List Int)} {i j c : Nat} (hc : c < width ls) : ((colsAt ls i j).getD c []).length ≤ ls.length := by
  rw [colsAt_get hc]
  split
  · have := colOf_le (ls.take (i + 1)) c; rw [List.length_take] at this; omega
  · have := colOf_le (ls.take i) c; rw [List.length_take] at this; omega

set_option maxHeartbeats 4000000 in
theorem columns_at (a : Option Addr) (n cap : Nat) (ls : List (List Int)) (w : World) (hs : Table w a ls) (hn : n = ls.length) (hp : IsTab ls) :
    Calls Try.prog 17 #[.slice a n cap] w fun e w' => ∃ v, e = .returned v ∧ Tbl w' w.heap.size v (cols ls) ∧ Below w.heap.size w w' := by
  subst hn
  have h40 := hp.rows
  have HL : Hid (ls.length ≤ 17592186044416) := tab_len hp
  have HT : Hid (IsTab ls) := hp
  have HS : Hid (Table w a ls) := hs
  have hwd := width_le hp
  clear hp hs
  obtain ⟨i1, hi1, hy0, hy1, hy2⟩ := info_parts Try.info22
  go_enter Try.func17, Try.ntmps17
  go_wp2_with fail
  refine (widthOf_at _ _ _ _ _ HS.out rfl HL.out).mono ?_
  rintro e w0 ⟨rfl, hw0⟩
  obtain rfl : w = w0 := hw0.symm
  clear hw0
  obtain ⟨wd, HWd⟩ : ∃ wd, Hid (wd = width ls) := ⟨_, rfl⟩
  rw [← HWd.out] at hwd
  rw [← HWd.out]
  go_wp2_with (at_make; refine wpList_make_full _ rfl _ _ 26 rfl w.heap.size 22 i1 (.slice none 0 0) 1 Try.underlying26 hi1 hy0 hy1 _ _ _ _ wd rfl rfl rfl rfl ?b1 ?b2 ?b3 ?_)
  case b1 => rw [hy2]; omega
  case b2 => unfold maxLen; omega
  case b3 => exact Nat.le_refl _
  intro w1 hown hgrow
  have HB1 : Hid (Below w.heap.size w w1) := (Below.refl _ _).grown hgrow (Nat.le_refl _) (fun k h => by cases h)
  have HT1 : Hid (Tbl w1 w.heap.size (.slice (some ⟨w.heap.size, 0, none⟩) wd wd) (colsAt ls 0 0)) := by
    show Tbl _ _ _ _
    rw [colsAt_start, ← HWd.out]; exact ⟨_, tbl_made (by simpa [Value.cells] using hown)⟩
  clear hown hgrow
  go_wp2
  go_loopw [13] (fun q wr => ∃ i : Nat, i ≤ ls.length ∧ q = .int .i64 i ∧ Hid (Tbl wr w.heap.size (.slice (some ⟨w.heap.size, 0, none⟩) wd wd) (colsAt ls i 0)) ∧ Hid (Below w.heap.size w wr)) (fun q _ => ls.length - (intOf q).toNat)
  case atStart => exact ⟨0, Nat.zero_le _, rfl, HT1, HB1⟩
  case round =>
    obtain ⟨i, hi, rfl, HTi, HBi⟩ := hrel
    clear HT1 HB1
    by_cases hil : i < ls.length
    · have hil' : (i : Int) < (ls.length : Int) := by omega
      have HIL : Hid (i < ls.length) := hil
      obtain ⟨b, off, ai, m, ci, rfl, HCe, HM, HSk, -, hmb⟩ := HS.out.elemB hil
      have hc := HCe.out _ HBi.out
      have hmw : m ≤ wd := by rw [HM.out, HWd.out]; exact row_le_width HT.out hil
      go_wp2
      go_loopw [19] (fun q wr => ∃ j : Nat, j ≤ m ∧ q = .int .i64 j ∧ Hid (Tbl wr w.heap.size (.slice (some ⟨w.heap.size, 0, none⟩) wd wd) (colsAt ls i j)) ∧ Hid (Below w.heap.size w wr)) (fun q _ => m - (intOf q).toNat)
      case atStart => exact ⟨0, Nat.zero_le _, rfl, HTi, HBi⟩
      case round =>
        obtain ⟨j, hj, rfl, HTj, HBj⟩ := hrel
        clear HTi HBi hc
        by_cases hjm : j < m
        · have hjm' : (j : Int) < (m : Int) := by omega
          have hjw : j < wd := by omega
          have hjw' : (j : Int) < (wd : Int) := by omega
          have HJR : Hid (j < (row ls i).length) := by show _ < _; rw [← HM.out]; exact hjm
          have HJW : Hid (j < width ls) := by rw [← HWd.out]; exact hjw
          obtain ⟨b2, off2, z, rfl, HZ, -, -, hcz⟩ := (HSk.out.below HBj.out).elem HJR.out
          have HZ' : Hid (z = box ls i j) := HZ.out
          obtain ⟨vs, hV⟩ := HTj.out
          have hj2 : j < (colsAt ls i j).length := by rw [colsAt_length]; exact HJW.out
          have hcl := hV.own
          rw [hV.len, colsAt_length, ← HWd.out] at hcl
          have hcj : wr.cell? ⟨w.heap.size, j, none⟩ = some (rowv vs j) := by
            rw [World.ownsRow.cellAt hcl j (by omega), rowv_get (by rw [hV.len]; exact hj2)]
          have hfz := World.ownsRow.frozenAt hcl j
          have hgl := (hV.own.lt w.heap.size rfl).2
          have hrow := hV.rows j hj2
          have hlen : ((colsAt ls i j).getD j []).length ≤ 40 := by have := colsAt_len (ls := ls) (i := i) (j := j) HJW.out; omega
          have HV : Hid (TblV wr w.heap.size (.slice (some ⟨w.heap.size, 0, none⟩) wd wd) vs (colsAt ls i j)) := hV
          obtain ⟨r, HRr⟩ : ∃ r, Hid (r = (colsAt ls i j).getD j []) := ⟨_, rfl⟩
          rw [← HRr.out] at hrow hlen
          have HRow : Hid (wr.ownsRow w.heap.size 3 1 (rowv vs j) (r.map (Value.int .i64)).length (r.map (Value.int .i64))) := vals_of_owns hrow
          have HLn : Hid ((r.map (Value.int .i64)).length ≤ 40) := by rw [List.length_map]; exact hlen
          have HJ2 : Hid (j < (colsAt ls i j).length) := hj2
          clear hj2
          obtain ⟨u, HU⟩ : ∃ u, Hid (u = rowv vs j) := ⟨_, rfl⟩
          rw [← HU.out] at hcj HRow
          obtain ⟨au, nu, cu, hsu⟩ : ∃ au nu cu, u = .slice au nu cu := by
            rw [HU.out]; obtain ⟨a1, c1, e1⟩ := hrow.shape; exact ⟨_, _, _, e1⟩
          subst hsu
          clear hV hcl hrow hlen HZ
          go_wp2_with (at_builtin; refine append_one elem_int (x := .int .i64 z) rfl _ _ rfl rfl rfl rfl HRow.out rfl ?c1 ?c2 ?c3 ?_)
          case c1 => have := HLn.out; unfold maxLen; omega
          case c2 => have := HLn.out; omega
          case c3 => exact HBj.out.size
          intro v' w2 hO' hb' hk'
          have hO2 : Owns w2 w.heap.size v' (r ++ [z]) := by unfold Owns; simpa using hO'
          rw [HU.out] at hk'
          have hj2 := HJ2.out
          have hS := HV.out.setRow hj2 hO2 hk'
          rw [HRr.out, HZ'.out, colsAt_step HIL.out HJR.out HJW.out] at hS
          have hne : (rowv vs j).ownBlock ≠ some w.heap.size := fun e => HV.out.off j hj2 _ rfl e
          have hfz2 : w2.frozen? ⟨w.heap.size, j, none⟩ = false := by rw [World.frozen?_of_block (hk'.block w.heap.size hgl hne)]; exact hfz
          have hcj2 : w2.cell? ⟨w.heap.size, j, none⟩ = some (.slice au nu cu) := by rw [World.cell?_of_block (hk'.block w.heap.size hgl hne)]; exact hcj
          have HT2 : Hid (Tbl (w2.setCell ⟨w.heap.size, j, none⟩ v') w.heap.size (.slice (some ⟨w.heap.size, 0, none⟩) wd wd) (colsAt ls i (j + 1))) := ⟨_, hS⟩
          have HB2 : Hid (Below w.heap.size w (w2.setCell ⟨w.heap.size, j, none⟩ v')) := (HBj.out.trans hb').setCell (p := ⟨w.heap.size, j, none⟩) (Nat.le_refl _) _
          obtain ⟨av', nv', hv'⟩ := hO2.shape
          rw [List.length_append, List.length_singleton] at hv'
          subst hv'
          clear hO' hO2 hb' hk' hS hcj hfz hcz hj2
          go_wp2
          go_roundw
          case rel => exact ⟨j + 1, by omega, by go_num, HT2, HB2⟩
          case measure => simp [intOf]; omega
        · obtain rfl : j = m := by omega
          have HE : Hid (Tbl wr w.heap.size (.slice (some ⟨w.heap.size, 0, none⟩) wd wd) (colsAt ls (i + 1) 0)) := by
            show Tbl _ _ _ _
            rw [← colsAt_row HIL.out, ← HM.out]; exact HTj.out
          go_wp2
          go_roundw
          case rel => exact ⟨i + 1, HIL.out, by go_num, HE, HBj⟩
          case measure => have := HIL.out; simp [intOf]; omega
    · obtain rfl : i = ls.length := by omega
      have HE : Hid (Tbl wr w.heap.size (.slice (some ⟨w.heap.size, 0, none⟩) wd wd) (cols ls)) := by show Tbl _ _ _ _; rw [← colsAt_end]; exact HTi.out
      go_wp2
      go_ret
      exact ⟨_, rfl, HE.out, HBi.out⟩

/-- The rows of a table are small. -/
def SmT (ls : List (List Int)) : Prop := ls.length ≤ 1600 ∧ ∀ l ∈ ls, l.length ≤ 1600 ∧ ∀ z ∈ l, 0 ≤ z ∧ z ≤ 1000
theorem SmT.all {ls : List (List Int)} (h : SmT ls) : ∀ l ∈ ls, l.length ≤ 17592186044416 ∧ ∀ z ∈ l, -9223372036854775808 ≤ z ∧ z ≤ 9223372036854775807 :=
  fun l hl => ⟨by have := (h.2 l hl).1; omega, small_wf (h.2 l hl).2⟩
theorem cols_SmT {ls : List (List Int)} (h : IsTab ls) : SmT (cols ls) := by
  refine ⟨by rw [cols_length]; have := width_le h; omega, fun l hl => ?_⟩
  obtain ⟨c, _, rfl⟩ := List.mem_map.1 hl
  refine ⟨by have := colOf_le ls c; have := h.rows; omega, fun z hz => ?_⟩
  have := h.mem (colOf_mem hz); omega
theorem tab_SmT {ls : List (List Int)} (h : IsTab ls) : SmT ls := by
  refine ⟨by have := h.rows; omega, fun l hl => ?_⟩
  obtain ⟨a, ha, rfl⟩ := mem_row hl
  refine ⟨by have := h.width ha; omega, fun z hz => ?_⟩
  have := h.mem (List.mem_flatten.2 ⟨_, hl, hz⟩); omega
theorem numbered_SmT {ls : List (List Int)} (h : IsTab ls) : SmT (numbered ls) := by
  refine ⟨by unfold numbered; rw [tab2_length]; have := h.rows; omega, fun l hl => ?_⟩
  obtain ⟨a, ha, rfl⟩ := List.mem_map.1 hl
  refine ⟨by rw [tab_length]; have := h.width (List.mem_range.1 ha); omega, fun z hz => ?_⟩
  obtain ⟨b, _, rfl⟩ := tab_mem hz
  have := numAt_bd ls a b
  have := h.few
  show 0 ≤ ((numAt ls a b : Nat) : Int) ∧ ((numAt ls a b : Nat) : Int) ≤ 1000
  omega

/-- What Turned answers. -/
def TrnR (ls : List (List Int)) (c : Int) (q : List (List Int)) : Prop :=
  (tchk ls = 0 → (tchk (cols ls) = 0 → c = 0 ∧ q = cols ls) ∧ (tchk (cols ls) ≠ 0 → c = 3 ∧ q = [])) ∧ (tchk ls ≠ 0 → c = tchk ls ∧ q = [])

set_option maxHeartbeats 2000000 in
theorem Turned_at {ls q : List (List Int)} {c : Int} (a : Option Addr) (n cap : Nat) (w : World) (hs : Table w a ls) (hl : ls.length ≤ 17592186044416) (hn : n = ls.length) (hr : TrnR ls c q) :
    Calls Try.prog 9 #[.slice a n cap] w fun e w' => ∃ v, e = .returned (.tuple #[v, .int .i64 c]) ∧ Tbl w' w.heap.size v q ∧ Below w.heap.size w w' := by
  subst hn
  by_cases h0 : tchk ls = 0
  · have hT := tchk_ok.1 h0
    have HT : Hid (IsTab ls) := hT
    have E : Hid (tchk ls = 0) := h0
    have HR := hr.1 h0
    have HSm : Hid (SmT (cols ls)) := cols_SmT hT
    by_cases h1 : tchk (cols ls) = 0
    · obtain ⟨rfl, rfl⟩ := HR.1 h1
      have E1 : Hid (tchk (cols ls) = 0) := h1
      clear h0 h1 hr HR hT
      go_enter Try.func9, Try.ntmps9
      go_wp2_with fail
      refine (TCheck_is _ _ _ _ _ hs hl rfl E).mono ?_
      rintro e w1 ⟨rfl, n1, rfl⟩
      go_wp2_with fail
      refine (columns_at _ _ _ _ _ (hs.drewN n1) rfl HT.out).mono ?_
      rintro e w2 ⟨v, rfl, hV, hb⟩
      have HV : Hid (Tbl w2 w.heap.size v (cols ls)) := hV
      have HB : Hid (Below w.heap.size w w2) := (below_drew n1).trans hb
      obtain ⟨av, nv, cv, rfl, hTb, HN⟩ := hV.table HSm.out.all
      clear hV hb
      go_wp2_with fail
      refine (TCheck_is _ _ _ _ _ hTb (by have := HSm.out.1; omega) HN.out E1).mono ?_
      rintro e w3 ⟨rfl, n3, rfl⟩
      go_wp2
      go_ret2
      exact ⟨_, rfl, HV.out.drewN n3, below_drewN HB.out n3⟩
    · obtain ⟨rfl, rfl⟩ := HR.2 h1
      obtain ⟨d, hd⟩ : ∃ d, tchk (cols ls) = d := ⟨_, rfl⟩
      have E1 : Hid (tchk (cols ls) = d) := hd
      have hdb : (d != 0) = true := by rw [bne_iff_ne, ← hd]; exact h1
      clear h0 h1 hr HR hT hd
      go_enter Try.func9, Try.ntmps9
      go_wp2_with fail
      refine (TCheck_is _ _ _ _ _ hs hl rfl E).mono ?_
      rintro e w1 ⟨rfl, n1, rfl⟩
      go_wp2_with fail
      refine (columns_at _ _ _ _ _ (hs.drewN n1) rfl HT.out).mono ?_
      rintro e w2 ⟨v, rfl, hV, hb⟩
      have HB : Hid (Below w.heap.size w w2) := (below_drew n1).trans hb
      obtain ⟨av, nv, cv, rfl, hTb, HN⟩ := hV.table HSm.out.all
      clear hV hb
      go_wp2_with fail
      refine (TCheck_is _ _ _ _ _ hTb (by have := HSm.out.1; omega) HN.out E1).mono ?_
      rintro e w3 ⟨rfl, n3, rfl⟩
      go_wp2
      go_ret2
      exact ⟨_, rfl, Tbl.nil _ _, below_drewN HB.out n3⟩
  · obtain ⟨rfl, rfl⟩ := hr.2 h0
    obtain ⟨d, hd⟩ : ∃ d, tchk ls = d := ⟨_, rfl⟩
    have E : Hid (tchk ls = d) := hd
    have hdb : (d != 0) = true := by rw [bne_iff_ne, ← hd]; exact h0
    rw [hd]
    clear h0 hr hd
    go_enter Try.func9, Try.ntmps9
    go_wp2_with fail
    refine (TCheck_is _ _ _ _ _ hs hl rfl E).mono ?_
    rintro e w1 ⟨rfl, n1, rfl⟩
    go_wp2
    go_ret2
    exact ⟨_, rfl, Tbl.nil _ _, below_drew n1⟩

end Go.Proofs.Ytampjdebnaapaae
