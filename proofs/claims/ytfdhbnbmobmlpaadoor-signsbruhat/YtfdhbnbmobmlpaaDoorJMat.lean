/-
  The contract of ferkeep.matrix.
-/
import Derived.Test.YtfdhbnbmobmlpaaDoorJChk
import Derived.Test.YtfdhbnbmobmlpaaDoorJPrm
namespace Go.Proofs.YtfdhbnbmobmlpaaDoor
open Go.RowKit

set_option maxHeartbeats 4000000 in
set_option maxRecDepth 100000 in
theorem matrix_at (a : Option Addr) (n cap : Nat) (xs : List Int) (w : World) (hs : Shows w a xs) (hn : n = xs.length) (p : IsPerm xs) :
    Calls Tryd.prog 10 #[.slice a n cap] w fun e w' => ∃ v, e = .returned v ∧ Hid (Tbl w' w.heap.size v (tz n n (pmt xs))) ∧ Hid (Below w.heap.size w w') := by
  have HS : Hid (∀ W, Below w.heap.size w W → Shows W a xs) := fun W hW => hs.below hW
  have HP : Hid (IsPerm xs) := p
  have HN : Hid (n = xs.length) := hn
  have n40 : n ≤ 40 := by rw [hn]; exact p.len
  clear hs p hn
  have HmP : Hid (∀ W, (Instr.makeSlice 22 (.int .i64 (n : Int)) (.int .i64 (n : Int))).run Tryd.prog W = .ok (.slice (some ⟨W.heap.size, 0, none⟩) n n) (W.alloc (.cells (madeCells #[Value.int .i64 0] n) 3))) := fun W =>
        run_make_row' (P := Tryd.prog) 22 3 (.int .i64 0) 8 Tryd.underlying22 (by kernel_rfl) rfl .i64 .i64 n (by omega) (by omega) W
  go_enter Tryd.func10, Tryd.ntmps10
  go_wp2
  go_loopw [3, 9] (fun v q wr => ∃ i : Nat, i ≤ n ∧ q = .int .i64 i ∧ Hid (Tbl wr w.heap.size v ((tz n n (pmt xs)).take i)) ∧ Hid (Below w.heap.size w wr)) (fun _ q _ => n - (intOf q).toNat)
  case atStart => exact ⟨0, Nat.zero_le _, rfl, by rw [List.take_zero]; exact Tbl.nil _ _, Below.refl _ _⟩
  case round =>
    obtain ⟨i, hi, rfl, HT, HB⟩ := hrel
    by_cases hil : i < n
    · have hil' : (i : Int) < (n : Int) := by omega
      have HIl : Hid (i < xs.length) := by show _ < _; rw [← HN.out]; exact hil
      obtain ⟨vs, hV⟩ := HT.out
      have HV0 : Hid (TblV wr w.heap.size u3 vs ((tz n n (pmt xs)).take i)) := hV
      have HLv : Hid (vs.length = i) := by show _ = _; rw [hV.len, List.length_take, tz_len]; omega
      clear hV HT
      obtain ⟨b1, o1, z, e1, HZ, -, -, cz⟩ := (HS.out wr HB.out).elem (k := i) HIl.out
      subst e1
      have hzb := HP.out.bounds HIl.out
      rw [← HZ.out, ← HN.out] at hzb
      obtain ⟨j, Hj⟩ : ∃ j : Nat, Hid (z = (j : Int) + 1) := ⟨(z - 1).toNat, by show _ = _; omega⟩
      have hjl : j < n := by have := Hj.out; omega
      have hjl' : (j : Int) < (n : Int) := by omega
      have hwz : IntKind.i64.wrap (z - 1) = (j : Int) := by rw [IntKind.wrap_i64, Hj.out]; omega
      have hmP := HmP.out
      have HR0 : Hid (Roz (wr.alloc (.cells (madeCells #[Value.int .i64 0] n) 3)) wr.heap.size n fun _ => 0) := roz_made (by omega)
      obtain ⟨cX, fX, hXs⟩ := HR0.out.cell hjl
      have HR1 : Hid (Roz ((wr.alloc (.cells (madeCells #[Value.int .i64 0] n) 3)).setCell ⟨wr.heap.size, j, none⟩ (.int .i64 1)) wr.heap.size n (pmt xs i)) := by
        refine (HR0.out.set j 1 rfl).congr (fun b _ => ?_)
        unfold pmt
        rw [← HZ.out]
        have := Hj.out
        by_cases e : b = j
        · rw [if_pos e, if_pos (by omega)]
        · rw [if_neg e, if_neg (by omega)]
      have HB1 : Hid (Below wr.heap.size wr ((wr.alloc (.cells (madeCells #[Value.int .i64 0] n) 3)).setCell ⟨wr.heap.size, j, none⟩ (.int .i64 1))) := ((Below.refl _ _).alloc (Nat.le_refl _) _).setCell (p := ⟨wr.heap.size, j, none⟩) (Nat.le_refl _) _
      have eW : (wr.alloc (.cells (madeCells #[Value.int .i64 0] n) 3)).setCell ⟨wr.heap.size, j, none⟩ (.int .i64 1) = wr.alloc (.cells ((madeCells #[Value.int .i64 0] n).setIfInBounds j (.int .i64 1)) 3) := by simp [go_sem]
      rw [eW] at HR1 HB1
      obtain ⟨W, HW⟩ : ∃ W, Hid (W = wr.alloc (.cells ((madeCells #[Value.int .i64 0] n).setIfInBounds j (.int .i64 1)) 3)) := ⟨_, rfl⟩
      rw [← HW.out] at HR1 HB1
      clear eW
      have HV2 : Hid (TblV W w.heap.size u3 vs ((tz n n (pmt xs)).take i)) := HV0.out.same (fun q _ hq => HB1.out.block q hq)
      have HOw : Hid ((wr.alloc (.cells ((madeCells #[Value.int .i64 0] n).setIfInBounds j (.int .i64 1)) 3)).ownsRow w.heap.size 22 1 u3 vs.length vs) := by rw [← HW.out]; exact HV2.out.own
      have HWs : Hid (W.heap.size = wr.heap.size + 1) := by show _ = _; rw [HW.out]; simp
      clear hzb
      go_wp2_with (at_builtin; refine append_one elem_row (w := wr.alloc (.cells ((madeCells #[Value.int .i64 0] n).setIfInBounds j (.int .i64 1)) 3)) (N := wr.heap.size + 1) (x := .slice (some ⟨wr.heap.size, 0, none⟩) n n) rfl _ _ rfl rfl rfl (by simp) HOw.out rfl ?c3 ?c4 ?c5 ?_)
      case c3 => have := HLv.out; unfold maxLen; omega
      case c4 => have := HLv.out; omega
      case c5 => have := HB.out.size; simp; omega
      intro v' w3 hO3 hb3 hk3
      rw [← HW.out] at hb3 hk3
      have hO3' : w3.ownsRow w.heap.size 22 1 v' (vs ++ [Value.slice (some ⟨wr.heap.size, 0, none⟩) n n]).length (vs ++ [Value.slice (some ⟨wr.heap.size, 0, none⟩) n n]) := by simpa using hO3
      have HT3 : Hid (Tbl w3 w.heap.size v' ((tz n n (pmt xs)).take (i + 1))) := by
        show Tbl _ _ _ _
        rw [tz_take hil]
        exact Tbl.push HV0.out HV2.out (Nat.le_refl _) HB.out.size HR1.out hO3' hk3
      have HB3 : Hid (Below w.heap.size w w3) := (HB.out.trans (HB1.out.mono HB.out.size)).trans hb3
      clear hO3 hO3' hb3 hk3
      go_wp2
      go_roundw
      case rel => exact ⟨i + 1, by omega, by go_num, HT3, HB3⟩
      case measure => simp [intOf]; omega
    · obtain rfl : i = n := by omega
      have HE : Hid (Tbl wr w.heap.size u3 (tz i i (pmt xs))) := by have := HT.out; rw [tz_takeAll] at this; exact this
      go_wp2
      go_ret
      exact ⟨_, rfl, HE, HB⟩

end Go.Proofs.YtfdhbnbmobmlpaaDoor
