/-
  The contract of ferref.Across, of any shape.
-/
import Derived.Test.YtampjdebnaapaacITwn
import Derived.Test.YtampjdebnaapaacICol
namespace Go.Proofs.Ytampjdebnaapaac
open Go.RowKit

theorem cols_take_i (ls : List (List Int)) (j : Nat) (hj : j < width ls) : (cols ls).take (j + 1) = (cols ls).take j ++ [colOf ls j] := by
  rw [List.take_succ_eq_append_getElem (by rw [cols_length]; exact hj)]
  simp [cols]

set_option maxHeartbeats 4000000 in
theorem Across_sh (a : Option Addr) (n cap : Nat) (ls : List (List Int)) (w : World) (hs : Table w a ls) (hn : n = ls.length) (hp : Shp ls) (h40 : ls.length ≤ 1000) (hwd : width ls ≤ 1000) :
    Calls Try.prog 17 #[.slice a n cap] w fun e w' => ∃ v, e = .returned v ∧ Tbl w' w.heap.size v (cols ls) ∧ Below w.heap.size w w' := by
  subst hn
  have HT : Hid (Shp ls) := hp
  have HS : Hid (Table w a ls) := hs
  clear hp hs
  by_cases h0 : 0 < ls.length
  · have h0' : (0 : Int) < (ls.length : Int) := by omega
    have g0 : decide ((ls.length : Int) > 0) = true := decide_eq_true (by omega)
    obtain ⟨b, off, a0, wd, c0, rfl, HC0, HW0, -, -, hw0⟩ := HS.out.elemB h0
    have HWd : Hid (wd = width ls) := HW0.out
    rw [← HWd.out] at hwd
    rw [Nat.add_zero] at HC0
    go_enter Try.func17, Try.ntmps17
    go_wp2
    go_loopw [3, 4] (fun v q wr => ∃ j : Nat, j ≤ wd ∧ q = .int .i64 j ∧ Hid (Tbl wr w.heap.size v ((cols ls).take j)) ∧ Hid (Below w.heap.size w wr)) (fun _ q _ => wd - (intOf q).toNat)
    case atStart => exact ⟨0, Nat.zero_le _, rfl, by rw [List.take_zero]; exact Tbl.nil _ _, Below.refl _ _⟩
    case round =>
      obtain ⟨j, hj, rfl, HTj, HBj⟩ := hrel
      have hc0 := HC0.out _ HBj.out
      by_cases hjl : j < wd
      · have hjl' : (j : Int) < (wd : Int) := by omega
        have HJW : Hid (j < width ls) := by rw [← HWd.out]; exact hjl
        have HJL : Hid (j < wd) := hjl
        obtain ⟨vs, hV⟩ := HTj.out
        obtain ⟨wo, hwo⟩ : ∃ wo, wr = wo := ⟨_, rfl⟩
        subst hwo
        obtain ⟨uo, huo⟩ : ∃ uo, u3 = uo := ⟨_, rfl⟩
        subst huo
        have HV0 : Hid (TblV wr w.heap.size u3 vs ((cols ls).take j)) := hV
        have HLv : Hid (vs.length = j) := by show _ = _; rw [hV.len, List.length_take, cols_length]; have := HJW.out; omega
        have HBo : Hid (Below w.heap.size w wr) := HBj.out
        obtain ⟨H, HH⟩ : ∃ H, Hid (H = wr.heap.size) := ⟨_, rfl⟩
        have HIn : Hid (∃ W : World, W.heap.size = H ∧ TblV W w.heap.size u3 vs ((cols ls).take j) ∧ Below w.heap.size w W ∧ Below H W wr) := ⟨wr, HH.out.symm, hV, HBj.out, Below.refl _ _⟩
        clear hV HTj HBj
        go_wp2
        go_loopw [5, 6] (fun r q wq => ∃ i : Nat, i ≤ ls.length ∧ q = .int .i64 i ∧ Hid (Owns wq H r (colOf (ls.take i) j)) ∧ Hid (∃ W : World, W.heap.size = H ∧ TblV W w.heap.size u3 vs ((cols ls).take j) ∧ Below w.heap.size w W ∧ Below H W wq)) (fun _ q _ => ls.length - (intOf q).toNat)
        case atStart => exact ⟨0, Nat.zero_le _, rfl, by rw [colOf_zero]; exact World.ownsRow_nil _ _ _ _, HIn⟩
        case round =>
          obtain ⟨i, hi, rfl, HO, HI⟩ := hrel
          have HBw : Hid (Below w.heap.size w wr) := by
            obtain ⟨W, h1, h2, h3, h4⟩ := HI.out
            exact h3.trans (h4.mono (by rw [← h1]; exact h3.size))
          clear hc0 HBo
          by_cases hgo : i < ls.length ∧ j < (row ls i).length
          · obtain ⟨hil, hjr⟩ := hgo
            have hil' : (i : Int) < (ls.length : Int) := by omega
            obtain ⟨b1, off1, ai, m, ci, hbb, HCe, HM, HSk, -, hmb⟩ := HS.out.elemB hil
            simp only [Option.some.injEq, Addr.mk.injEq, and_true] at hbb
            obtain ⟨rfl, rfl⟩ := hbb
            have hc := HCe.out _ HBw.out
            have hjm : j < m := by rw [HM.out]; exact hjr
            have hjm' : (j : Int) < (m : Int) := by omega
            have g1 : decide ((m : Int) > (j : Int)) = true := by simp; omega
            obtain ⟨b2, off2, z, rfl, HZ, -, -, hcz⟩ := (HSk.out.below HBw.out).elem hjr
            have HZ' : Hid (z = box ls i j) := HZ.out
            have HCl : Hid ((colOf (ls.take i) j).length ≤ 1000) := by have := colOf_le (ls.take i) j; rw [List.length_take] at this; show _ ≤ _; omega
            have HST : Hid (colOf (ls.take (i + 1)) j = colOf (ls.take i) j ++ [z]) := by show _ = _; rw [colOf_take hil, if_pos hjr, HZ'.out]
            have HIL : Hid (i < ls.length) := hil
            clear hjr HZ
            go_wp2_with (at_builtin; refine append_int (x := z) rfl _ _ rfl rfl HO.out rfl ?c1 ?c2 ?_)
            case c1 => have := HCl.out; omega
            case c2 =>
              obtain ⟨W, h1, h2, h3, h4⟩ := HI.out
              rw [← h1]; exact h4.size
            intro v' w2 hO' hb'
            have HO3 : Hid (Owns w2 H v' (colOf (ls.take (i + 1)) j)) := by show Owns _ _ _ _; rw [HST.out]; exact hO'
            have HI3 : Hid (∃ W : World, W.heap.size = H ∧ TblV W w.heap.size u3 vs ((cols ls).take j) ∧ Below w.heap.size w W ∧ Below H W w2) := by
              obtain ⟨W, h1, h2, h3, h4⟩ := HI.out
              exact ⟨W, h1, h2, h3, h4.trans hb'⟩
            clear hO' hb'
            go_wp2
            go_roundw
            case rel => exact ⟨i + 1, by omega, by go_num, HO3, HI3⟩
            case measure => simp [intOf]; omega
          · have HE : Hid (Owns wr H u5 (colOf ls j)) := by
              by_cases hil : i < ls.length
              · have := HO.out
                rw [colOf_stop HT.out hil (by omega)] at this; exact this
              · obtain rfl : i = ls.length := by omega
                have := HO.out
                rw [List.take_length] at this; exact this
            have HGo : Hid (¬ (i < ls.length ∧ j < (row ls i).length)) := hgo
            obtain ⟨a5, c5, hsh⟩ := HE.out.shape
            obtain ⟨n5, Hn5⟩ : ∃ n5, Hid (n5 = (colOf ls j).length) := ⟨_, rfl⟩
            rw [← Hn5.out] at hsh
            subst hsh
            clear hgo
            by_cases hil : i < ls.length
            all_goals
              try (obtain ⟨b1, off1, ai, m, ci, hbb, HCe, HM, -, -, hmb⟩ := HS.out.elemB hil
                   simp only [Option.some.injEq, Addr.mk.injEq, and_true] at hbb
                   obtain ⟨rfl, rfl⟩ := hbb
                   have hc := HCe.out _ HBw.out
                   have hjm : ¬ j < m := by rw [HM.out]; have := HGo.out; omega
                   have hjm' : ¬ (j : Int) < (m : Int) := by omega)
              obtain ⟨W, h1, h2, h3, h4⟩ := HI.out
              have HV2 : Hid (TblV wr w.heap.size u3 vs ((cols ls).take j)) := h2.same (fun q _ hq => h4.block q (by rw [← h1]; exact hq))
              have HVW : Hid (TblV W w.heap.size u3 vs ((cols ls).take j)) := h2
              have HWs : Hid (W.heap.size = H) := h1
              have HHw : Hid (w.heap.size ≤ H) := by rw [← h1]; exact h3.size
              clear h1 h2 h3 h4
              go_wp2_with (at_builtin; refine append_one elem_row (x := .slice a5 n5 c5) rfl _ _ rfl rfl rfl rfl HV2.out.own rfl ?c3 ?c4 ?c5 ?_)
              case c3 => have := HLv.out; unfold maxLen; omega
              case c4 => have := HLv.out; omega
              case c5 => exact HBw.out.size
              intro v' w3 hO3 hb3 hk3
              have hO3' : w3.ownsRow w.heap.size 22 1 v' (vs ++ [Value.slice a5 n5 c5]).length (vs ++ [Value.slice a5 n5 c5]) := by simpa using hO3
              have HT3 : Hid (Tbl w3 w.heap.size v' ((cols ls).take (j + 1))) := by
                show Tbl _ _ _ _
                rw [cols_take_i ls j HJW.out]
                exact Tbl.push HVW.out HV2.out (by rw [HWs.out]; exact Nat.le_refl _) HHw.out HE.out hO3' hk3
              have HB3 : Hid (Below w.heap.size w w3) := HBw.out.trans hb3
              clear hO3 hO3' hb3 hk3
              go_wp2
              go_roundw
              case rel => exact ⟨j + 1, by omega, by go_num, HT3, HB3⟩
              case measure => simp [intOf]; omega
      · obtain rfl : j = wd := by omega
        have HE : Hid (Tbl wr w.heap.size u3 (cols ls)) := by
          have := HTj.out
          rw [List.take_of_length_le (by rw [cols_length, ← HWd.out]; exact Nat.le_refl _)] at this; exact this
        have hjl' : ¬ (j : Int) < (j : Int) := by omega
        go_wp2
        go_ret
        exact ⟨_, rfl, HE.out, HBj.out⟩
  · obtain rfl : ls = [] := List.eq_nil_of_length_eq_zero (by omega)
    go_enter Try.func17, Try.ntmps17
    go_wp2
    go_loopw [3, 4] (fun v q wr => v = .slice none 0 0 ∧ q = .int .i64 (0 : Nat) ∧ wr = w) (fun _ _ _ => 0)
    case atStart => exact ⟨rfl, rfl, by trivial⟩
    case round =>
      obtain ⟨rfl, rfl, rfl⟩ := hrel
      go_wp2
      go_ret
      exact ⟨_, rfl, Tbl.nil _ _, Below.refl _ _⟩

end Go.Proofs.Ytampjdebnaapaac
