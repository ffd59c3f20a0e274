/-
  The contract of signs.triangle.
-/
import Derived.Test.YtfpbccahmipliaaJCkc
import Derived.Test.YtfpbccahmipliaaJTrm
namespace Go.Proofs.Ytfpbccahmipliaa
open Go.RowKit

theorem TblV.keep {w w' : World} {lo : Nat} {v : Value} {vs : List Value} {ls : List (List Int)} (h : TblV w lo v vs ls) (hv : ∀ k, v.ownBlock = some k → w'.heap[k]? = w.heap[k]?) (hr : ∀ i, i < ls.length → ∀ k, (rowv vs i).ownBlock = some k → w'.heap[k]? = w.heap[k]?) : TblV w' lo v vs ls :=
  ⟨ownsRow_blocks h.own hv, h.len, fun i hi => ownsRow_blocks (h.rows i hi) (hr i hi), h.apart, h.off⟩

/-- rows as far as row i, column j -/
def tst (n : Nat) (P : Nat → Nat → Int) (i j : Nat) : List (List Int) := (List.range n).map fun a => if a < i then trP (trF P a) n else if a = i then trP (trF P i) j else []
theorem tst_len (n : Nat) (P : Nat → Nat → Int) (i j : Nat) : (tst n P i j).length = n := by simp [tst]
theorem tst_get {n : Nat} {P : Nat → Nat → Int} {i j a : Nat} (ha : a < n) : (tst n P i j).getD a [] = if a < i then trP (trF P a) n else if a = i then trP (trF P i) j else [] := by simp [tst, List.getD, ha]
theorem tst_start (n : Nat) (P : Nat → Nat → Int) : tst n P 0 0 = List.replicate n [] := by
  rw [List.eq_replicate_iff]
  refine ⟨tst_len _ _ _ _, fun x hx => ?_⟩
  obtain ⟨a, _, rfl⟩ := List.mem_map.1 hx
  rw [if_neg (by omega)]
  by_cases e : a = 0
  · rw [if_pos e]; rfl
  · rw [if_neg e]
theorem tst_next (n : Nat) (P : Nat → Nat → Int) (i : Nat) : tst n P i n = tst n P (i + 1) 0 := by
  refine List.map_congr_left (fun a _ => ?_)
  by_cases h : a < i
  · rw [if_pos h, if_pos (by omega)]
  · rw [if_neg h]
    by_cases e : a = i
    · subst e; rw [if_pos rfl, if_pos (by omega)]
    · rw [if_neg e, if_neg (by omega)]
      by_cases e2 : a = i + 1
      · rw [if_pos e2]; rfl
      · rw [if_neg e2]
theorem tst_end (n : Nat) (P : Nat → Nat → Int) (j : Nat) : tst n P n j = tri n P := by
  refine List.map_congr_left (fun a ha => ?_)
  rw [if_pos (List.mem_range.1 ha)]
theorem tst_no {n : Nat} {P : Nat → Nat → Int} {i j : Nat} (h : trF P i j = false) : tst n P i (j + 1) = tst n P i j := by
  unfold tst
  rw [trP_no h]
theorem tst_yes {n : Nat} {P : Nat → Nat → Int} {i j : Nat} (h : trF P i j = true) : (tst n P i j).set i (trP (trF P i) j ++ [(j : Int) + 1]) = tst n P i (j + 1) := by
  refine ext_row (by simp [tst_len]) (fun a ha => ?_)
  rw [List.length_set, tst_len] at ha
  unfold row
  rw [getD_set_rows _ _ _ _ (by rw [tst_len]; exact ha), tst_get ha, tst_get ha, trP_yes h]
  by_cases e : a = i
  · subst e; rw [if_pos rfl, if_neg (by omega), if_pos rfl]
  · rw [if_neg e, if_neg e, if_neg e]

set_option maxHeartbeats 8000000 in
set_option maxRecDepth 100000 in
theorem triangle_at (a : Option Addr) (n m cap : Nat) (P : Nat → Nat → Int) (w : World) (hs : Table w a (tz n n P)) (hm : m = n) (p : Sg n P) :
    Calls Try.prog 31 #[.slice a m cap] w fun e w' => ∃ v, e = .returned v ∧ Hid (Tbl w' w.heap.size v (tri n P)) ∧ Hid (Below w.heap.size w w') := by
  subst hm
  have HS : Hid (Table w a (tz m m P)) := hs
  have HP : Hid (Sg m P) := p
  have n1 := p.n1; have n7 := p.n7
  clear hs p
  have hmR : ∀ W, (Instr.makeSlice 22 (.int .i64 (m : Int)) (.int .i64 (m : Int))).run Try.prog W = .ok (.slice (some ⟨W.heap.size, 0, none⟩) m m) (W.alloc (.cells (madeCells #[Value.slice none 0 0] m) 29)) := fun W => run_make_row' 22 29 (.slice none 0 0) 24 Try.underlying22 (by kernel_rfl) rfl .i64 .i64 m (by omega) (by omega) W
  have hmP : ∀ W, (Instr.makeSlice 29 (.int .i64 (m : Int)) (.int .i64 (m : Int))).run Try.prog W = .ok (.slice (some ⟨W.heap.size, 0, none⟩) m m) (W.alloc (.cells (madeCells #[Value.int .i64 0] m) 3)) := fun W =>
        run_make_row' (P := Try.prog) 29 3 (.int .i64 0) 8 Try.underlying29 (by kernel_rfl) rfl .i64 .i64 m (by omega) (by omega) W
  obtain ⟨R, HR⟩ : ∃ R, Hid (R = w.heap.size) := ⟨_, rfl⟩
  obtain ⟨X, HX⟩ : ∃ X, Hid (X = w.heap.size + 1) := ⟨_, rfl⟩
  obtain ⟨w1, Hw1⟩ : ∃ w1, Hid (w1 = w.alloc (.cells (madeCells #[Value.slice none 0 0] m) 29)) := ⟨_, rfl⟩
  have HT0 : Hid (TblV w1 R (.slice (some ⟨R, 0, none⟩) m m) (List.replicate m (.slice none 0 0)) (tst m P 0 0)) := by
    show TblV _ _ _ _ _
    rw [tst_start, Hw1.out, HR.out]
    refine tbl_made ⟨by rw [toList_madeCells_one]; simp, Or.inr ⟨w.heap.size, m, madeCells #[Value.slice none 0 0] m, rfl, Nat.le_refl _, heap_alloc_new _ _, Nat.le_refl _, by unfold maxLen; omega, by rw [← Array.length_toList, toList_madeCells_one]; simp, ?_⟩⟩
    rw [Nat.mul_one, List.take_of_length_le (by rw [toList_madeCells_one]; simp)]
  have HB0 : Hid (Below w.heap.size w w1) := by rw [Hw1.out]; exact (Below.refl _ _).alloc (Nat.le_refl _) _
  have hs1 : w1.heap.size = X := by rw [Hw1.out, HX.out]; simp
  have HR0 : Hid (Roz (w1.alloc (.cells (madeCells #[Value.int .i64 0] m) 3)) X m fun b => if b < 0 then csm P 1 b else csm P 0 b) := by
    rw [← hs1]
    exact (roz_made (w := w1) (n := m) (by omega)).congr (fun b _ => by rw [if_neg (by omega)]; rfl)
  have HB1 : Hid (Below R w (w1.alloc (.cells (madeCells #[Value.int .i64 0] m) 3))) := by
    rw [HR.out]
    exact HB0.out.alloc HB0.out.size _
  have HT1 : Hid (TblV (w1.alloc (.cells (madeCells #[Value.int .i64 0] m) 3)) R (.slice (some ⟨R, 0, none⟩) m m) (List.replicate m (.slice none 0 0)) (tst m P 0 0)) := HT0.out.same (fun k _ hk => Below.heap_alloc w1 _ k hk)
  have HV1 : Hid (∀ a, a < m → (rowv (List.replicate m (Value.slice none 0 0)) a).ownBlock ≠ some X) := fun a _ => by
    have e : rowv (List.replicate m (Value.slice none 0 0)) a = .slice none 0 0 := by
      unfold rowv
      simp only [List.getD, List.getElem?_replicate]
      split <;> rfl
    rw [e]; simp [Value.ownBlock]
  have HXR : Hid (R < X) := by show _ < _; rw [HR.out, HX.out]; omega
  clear HT0 HB0
  go_enter Try.func31, Try.ntmps31
  go_wp2_with fail
  clear hmR hmP
  rw [← HX.out, ← HR.out, ← Hw1.out]
  obtain ⟨w2, Hw2⟩ : ∃ w2, Hid (w2 = w1.alloc (.cells (madeCells #[Value.int .i64 0] m) 3)) := ⟨_, rfl⟩
  rw [← Hw2.out] at HR0 HB1 HT1 ⊢
  clear Hw2 hs1
  go_loopw [17] (fun q wr => ∃ (i : Nat) (vs : List Value), i ≤ m ∧ q = .int .i64 i ∧ Hid (TblV wr R (.slice (some ⟨R, 0, none⟩) m m) vs (tst m P i 0)) ∧ Hid (∀ a, a < m → (rowv vs a).ownBlock ≠ some X) ∧ Hid (Roz wr X m (csm P i)) ∧ Hid (Below R w wr)) (fun q _ => m - (intOf q).toNat)
  case atStart => exact ⟨0, _, Nat.zero_le _, rfl, HT1, HV1, HR0.out.congr (fun b _ => by rw [if_neg (by omega)]), HB1⟩
  case round =>
    clear HT1 HV1 HR0 HB1 Hw1
    obtain ⟨i, vs0, hi, rfl, HT, HV, HO, HB⟩ := hrel
    by_cases hil : i < m
    · have hil' : (i : Int) < (m : Int) := by omega
      obtain ⟨b, off, ai, ci, rfl, HCi, HSi⟩ := HS.out.rowZ (i := i) hil
      have hci := HCi.out wr (by rw [← HR.out]; exact HB.out)
      have HO0 : Hid (Roz wr X m fun b => if b < 0 then csm P (i + 1) b else csm P i b) := HO.out.congr (fun b _ => by rw [if_neg (by omega)])
      go_wp2
      clear hci
      go_loopw [24] (fun q wr => ∃ (j : Nat) (vs : List Value), j ≤ m ∧ q = .int .i64 j ∧ Hid (TblV wr R (.slice (some ⟨R, 0, none⟩) m m) vs (tst m P i j)) ∧ Hid (∀ a, a < m → (rowv vs a).ownBlock ≠ some X) ∧ Hid (Roz wr X m fun b => if b < j then csm P (i + 1) b else csm P i b) ∧ Hid (Below R w wr)) (fun q _ => m - (intOf q).toNat)
      case atStart => exact ⟨0, vs0, Nat.zero_le _, rfl, HT, HV, HO0, HB⟩
      case round =>
        clear HT HV HO HO0 HB
        obtain ⟨j, vs, hj, rfl, HT, HV, HO, HB⟩ := hrel
        by_cases hjl : j < m
        · have hjl' : (j : Int) < (m : Int) := by omega
          obtain ⟨b1, o1, hai, hcx, -, -⟩ := (HSi.out wr (by rw [← HR.out]; exact HB.out)).boxZ hjl
          subst hai
          obtain ⟨cX, fX, hXs⟩ := HO.out.cell hjl
          rw [if_neg (by omega)] at cX
          obtain ⟨z, HZ⟩ : ∃ z, Hid (z = P i j) := ⟨_, rfl⟩
          obtain ⟨x, HXx⟩ : ∃ z, Hid (z = csm P i j) := ⟨_, rfl⟩
          rw [← HZ.out] at hcx
          rw [← HXx.out] at cX
          have bz : -1 ≤ z ∧ z ≤ 1 := by rw [HZ.out]; exact HP.out.place hil hjl
          have bx : x = 0 ∨ x = 1 := by rw [HXx.out]; exact HP.out.col j hjl i (by omega)
          have by1 : x + z = 0 ∨ x + z = 1 := by rw [HXx.out, HZ.out]; exact HP.out.col j hjl (i + 1) (by omega)
          have HY : Hid (x + z = csm P (i + 1) j) := by show _ = _; rw [HXx.out, HZ.out, csm_succ]
          have ew : IntKind.i64.wrap (x + z) = x + z := by rw [IntKind.wrap_i64]; omega
          obtain ⟨y, hy⟩ : ∃ y, x + z = y := ⟨_, rfl⟩
          rw [hy] at by1 HY
          have hRX : R ≠ X := by have := HXR.out; omega
          obtain ⟨W2, HW2⟩ : ∃ W2, Hid (W2 = wr.setCell ⟨X, j, none⟩ (.int .i64 y)) := ⟨_, rfl⟩
          have HO2 : Hid (Roz W2 X m fun b => if b < j + 1 then csm P (i + 1) b else csm P i b) := by
            rw [HW2.out]
            refine (HO.out.set j y rfl).congr (fun b _ => ?_)
            by_cases e : b = j
            · subst e; rw [if_pos rfl, if_pos (by omega), HY.out]
            · rw [if_neg e]
              by_cases h : b < j
              · rw [if_pos h, if_pos (by omega)]
              · rw [if_neg h, if_neg (by omega)]
          have HT2 : Hid (TblV W2 R (.slice (some ⟨R, 0, none⟩) m m) vs (tst m P i j)) := by
            rw [HW2.out]
            refine HT.out.keep (fun k e => ?_) (fun a ha k e => ?_)
            · simp only [Value.ownBlock, Option.some.injEq] at e
              subst e
              exact heap_setCell_other _ _ _ _ hRX
            · rw [tst_len] at ha
              exact heap_setCell_other _ _ _ _ (fun q => HV.out a ha (by rw [e]; exact congrArg some q))
          have HB2 : Hid (Below R w W2) := by rw [HW2.out]; exact HB.out.setCell (p := ⟨X, j, none⟩) (Nat.le_of_lt HXR.out) _
          have cX2 : W2.cell? ⟨X, j, none⟩ = some (.int .i64 y) := by
            have := (HO2.out.cell hjl).1
            rw [if_pos (by omega), ← HY.out] at this
            exact this
          obtain ⟨g9, n9, cap9, e9, -, hg9, hgs9, hfr9, hce9⟩ := HT2.out.head (by rw [tst_len]; omega)
          simp only [Value.slice.injEq, Option.some.injEq, Addr.mk.injEq, and_true] at e9
          obtain ⟨rfl, -, -⟩ := e9
          have cR2 : W2.cell? ⟨R, i, none⟩ = some (rowv vs i) := hce9 i (by rw [tst_len]; exact hil)
          have fR2 : W2.frozen? ⟨R, i, none⟩ = false := hfr9 i
          have cR : wr.cell? ⟨R, i, none⟩ = some (rowv vs i) := by
            rw [← cR2, HW2.out]
            exact (World.cell?_of_block (w := wr) (a := ⟨R, i, none⟩) (heap_setCell_other _ _ _ _ hRX)).symm
          have fR : wr.frozen? ⟨R, i, none⟩ = false := by
            rw [← fR2, HW2.out]
            exact (World.frozen?_of_block (w := wr) (a := ⟨R, i, none⟩) (heap_setCell_other _ _ _ _ hRX)).symm
          have hs2 : X < W2.heap.size := by rw [HW2.out]; simpa using hXs
          have HS2 : Hid (X < W2.heap.size) := hs2
          have hgsR : R < W2.heap.size := hgs9
          have HGR : Hid (R < W2.heap.size) := hgsR
          have HY1 : Hid (trF P i j = decide (y = 1)) := by show _ = _; unfold trF; rw [HY.out]
          clear HCi hfr9 hce9 HT HO HB hg9 cX2 cR2 fR2 hs2 hgs9 hgsR
          rcases by1 with h0 | h1
          · subst h0
            have HTf : Hid (TblV W2 R (.slice (some ⟨R, 0, none⟩) m m) vs (tst m P i (j + 1))) := by
              rw [tst_no (by rw [HY1.out]; rfl)]; exact HT2
            rw [HW2.out] at HTf HO2 HB2
            go_wp2_with fail
            go_roundw
            case rel => exact ⟨j + 1, vs, by omega, by go_num, HTf, HV, HO2, HB2⟩
            case measure => simp [intOf]; omega
          · subst h1
            have HTy : Hid (trF P i j = true) := by show _ = _; rw [HY1.out]; rfl
            have HRw : Hid (Owns W2 R (rowv vs i) (trP (trF P i) j)) := by
              have := HT2.out.rows i (by rw [tst_len]; exact hil)
              rw [tst_get hil, if_neg (by omega), if_pos rfl] at this
              exact this
            have HLe : Hid ((trP (trF P i) j).length ≤ j) := trP_le _ _
            obtain ⟨ra, rc, hrv⟩ := HRw.out.shape
            obtain ⟨rl, Hrl⟩ : ∃ rl, Hid (rl = (trP (trF P i) j).length) := ⟨_, rfl⟩
            rw [← Hrl.out] at hrv
            rw [hrv] at cR
            have HOw : Hid ((wr.setCell ⟨X, j, none⟩ (.int .i64 1)).ownsRow R 3 1 (.slice ra rl rc) ((trP (trF P i) j).map (Value.int .i64)).length ((trP (trF P i) j).map (Value.int .i64))) := by
              rw [← HW2.out, ← hrv]; exact vals_of_owns HRw.out
            go_wp2_with (at_builtin; refine append_one elem_int (w := wr.setCell ⟨X, j, none⟩ (.int .i64 1)) (N := wr.heap.size) (x := .int .i64 ((j : Int) + 1)) rfl _ _ rfl rfl rfl (by simp) HOw.out rfl ?c3 ?c4 ?c5 ?_)
            case c3 => have := HLe.out; unfold maxLen; omega
            case c4 => have := HLe.out; omega
            case c5 => have := HGR.out; rw [HW2.out] at this; simp at this; omega
            intro v' w3 hO3 hb3 hk3
            have hO4 : Owns w3 R v' (trP (trF P i) j ++ [(j : Int) + 1]) := owns_of_vals (by simpa using hO3)
            obtain ⟨a4, c4, hv4⟩ := hO4.shape
            obtain ⟨r4, Hr4⟩ : ∃ r, Hid (r = (trP (trF P i) j ++ [(j : Int) + 1]).length) := ⟨_, rfl⟩
            rw [← Hr4.out] at hv4
            subst hv4
            clear hO3
            rw [← HW2.out, ← hrv] at hk3
            rw [← HW2.out] at hb3
            have hoff : (rowv vs i).ownBlock ≠ some R := fun e => HT2.out.off i (by rw [tst_len]; exact hil) R rfl e
            have c3 : w3.cell? ⟨R, i, none⟩ = some (.slice ra rl rc) := by
              rw [World.cell?_of_block (w := W2) (a := ⟨R, i, none⟩) (hk3.block R HGR.out hoff), HW2.out, World.cell?_of_block (w := wr) (a := ⟨R, i, none⟩) (heap_setCell_other _ _ _ _ hRX)]
              exact cR
            have f3 : w3.frozen? ⟨R, i, none⟩ = false := by
              rw [World.frozen?_of_block (w := W2) (a := ⟨R, i, none⟩) (hk3.block R HGR.out hoff), HW2.out, World.frozen?_of_block (w := wr) (a := ⟨R, i, none⟩) (heap_setCell_other _ _ _ _ hRX)]
              exact fR
            have HT3 : Hid (TblV (w3.setCell ⟨R, i, none⟩ (.slice a4 r4 c4)) R (.slice (some ⟨R, 0, none⟩) m m) (vs.set i (.slice a4 r4 c4)) (tst m P i (j + 1))) := by
              rw [← tst_yes HTy.out]
              exact HT2.out.setRow (by rw [tst_len]; exact hil) hO4 hk3
            have hvl : vs.length = m := by rw [HT2.out.len, tst_len]
            have HV3 : Hid (∀ a, a < m → (rowv (vs.set i (.slice a4 r4 c4)) a).ownBlock ≠ some X) := fun a ha => by
              rw [rowv_set _ _ _ _ (by omega)]
              by_cases e : a = i
              · rw [if_pos e]
                intro q
                rcases hk3.lies X q with q1 | q1
                · exact HV.out i hil q1
                · have := HS2.out; omega
              · rw [if_neg e]; exact HV.out a ha
            have HO3 : Hid (Roz (w3.setCell ⟨R, i, none⟩ (.slice a4 r4 c4)) X m fun b => if b < j + 1 then csm P (i + 1) b else csm P i b) := by
              refine ownsRow_blocks HO2.out (fun k e => ?_)
              simp only [Value.ownBlock, Option.some.injEq] at e
              subst e
              rw [heap_setCell_other _ _ _ _ (fun e => hRX e.symm)]
              exact hk3.block X HS2.out (HV.out i hil)
            have HB3 : Hid (Below R w (w3.setCell ⟨R, i, none⟩ (.slice a4 r4 c4))) := (HB2.out.trans hb3).setCell (p := ⟨R, i, none⟩) (Nat.le_refl _) _
            clear hO4 hb3 hk3 hrv hvl hoff
            go_wp2_with fail
            go_roundw
            case rel => exact ⟨j + 1, vs.set i (.slice a4 r4 c4), by omega, by go_num, HT3, HV3, HO3, HB3⟩
            case measure => simp [intOf]; omega
        · obtain rfl : j = m := by omega
          have HT2 : Hid (TblV wr R (.slice (some ⟨R, 0, none⟩) j j) vs (tst j P (i + 1) 0)) := by rw [← tst_next]; exact HT
          have HO2 : Hid (Roz wr X j (csm P (i + 1))) := HO.out.congr (fun b hb => by rw [if_pos hb])
          go_wp2
          go_roundw
          case rel => exact ⟨i + 1, vs, by omega, by go_num, HT2, HV, HO2, HB⟩
          case measure => simp [intOf]; omega
    · obtain rfl : i = m := by omega
      have HTe : Hid (Tbl wr R (.slice (some ⟨R, 0, none⟩) i i) (tri i P)) := by rw [← tst_end i P 0]; exact ⟨_, HT.out⟩
      go_wp2
      go_ret
      refine ⟨_, rfl, by rw [← HR.out]; exact HTe, by rw [← HR.out]; exact HB⟩

end Go.Proofs.Ytfpbccahmipliaa
