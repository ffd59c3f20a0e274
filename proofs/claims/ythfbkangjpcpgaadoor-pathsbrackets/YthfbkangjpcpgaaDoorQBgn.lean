/-
  ferref.Begins.
-/
import Derived.Test.YthfbkangjpcpgaaDoorQCal
import Derived.Test.YthfbkangjpcpgaaDoorQAhd
import Derived.Deep.QuietTactic
import Derived.Laws.DeepStrings4
namespace Go.Proofs.YthfbkangjpcpgaaDoor
open Go.RowKit

set_option maxHeartbeats 4000000 in
set_option maxRecDepth 100000 in
theorem Begins_at (s : ByteArray) (hs : s.size ≤ 60) (w : World) :
    Calls Tryd.prog 13 #[.string s] w fun e w' => ∃ v, e = .returned v ∧ Hid (Owns w' w.heap.size v (plN s.data.toList s.size)) ∧ Hid (Below w.heap.size w w') := by
  go_enter Tryd.func13, Tryd.ntmps13
  go_wp2_with fail
  go_loopw [4, 3] (fun iv ov wr => ∃ k : Nat, k ≤ s.size ∧ iv = .int .i64 (k : Int) ∧ Hid (Owns wr w.heap.size ov (plN s.data.toList k)) ∧ Hid (Below w.heap.size w wr)) (fun iv _ _ => s.size - (intOf iv).toNat)
  case atStart => exact ⟨0, Nat.zero_le _, rfl, World.ownsRow_nil _ _ _ _, Below.refl _ _⟩
  case round =>
    obtain ⟨k, hk, rfl, HO, HB⟩ := hrel
    by_cases hlt : k < s.size
    · have hlt' : (k : Int) < (s.size : Int) := by omega
      have hss : (s ++ s).size = s.size + s.size := ByteArray.size_append
      have hsz2 : s.size + s.size ≤ 120 := by omega
      obtain ⟨T, HT⟩ : ∃ T, Hid (T = (s ++ s).extract k (k + s.size)) := ⟨_, rfl⟩
      have HTl : Hid (T.data.toList = s.data.toList.drop k ++ s.data.toList.take k) := by show _ = _; rw [HT.out]; exact ext_twice s k (by omega)
      have hTs : T.size = s.size := by
        have h1 : T.data.toList.length = T.size := by simp
        rw [← h1, HTl.out, List.length_append, List.length_drop, List.length_take]
        have h2 : s.data.toList.length = s.size := by simp
        omega
      have HTn : Hid (tnB s.data.toList k = bgB T.data.toList T.size) := by
        show _ = _
        have h1 : T.data.toList.length = T.size := by simp
        rw [← h1, bg_sty]
        unfold tnB
        rw [HTl.out]
      have hsl : ∀ W : World, (Instr.slice 9 (.string (s ++ s)) (some (.int .i64 (k : Int))) (some (.int .i64 ((k : Int) + (s.size : Int)))) none).run Tryd.prog W = .ok (.string T) W := fun W => by
        rw [run_slice_string_if W 9 (s ++ s) .i64 .i64 _ _ Tryd.underlying9, if_pos (by rw [hss]; omega), if_pos (by omega), HT.out, Int.toNat_natCast, show ((k : Int) + (s.size : Int)).toNat = k + s.size by omega]
      clear hss
      go_upto_region 6 with fail
      clear hsl
      have hT60 : T.size ≤ 60 := by omega
      clear hTs
      go_wp2_with fail
      go_loopw [7, 6] (fun qv bv wr => ∃ (q : Nat) (b : Bool), q ≤ T.size ∧ qv = .int .i64 ((q : Int) + 1) ∧ bv = .bool b ∧ Hid (b = bgB T.data.toList q) ∧ Hid (Owns wr w.heap.size u3 (plN s.data.toList k)) ∧ Hid (Below w.heap.size w wr)) (fun qv _ _ => T.size + 1 - (intOf qv).toNat)
      case atStart => exact ⟨0, true, Nat.zero_le _, rfl, rfl, rfl, HO, HB⟩
      case round =>
        clear HO HB
        obtain ⟨q, b, hq, rfl, rfl, Hb, HO, HB⟩ := hrel
        by_cases hql : q < T.size
        · obtain ⟨q1, hq1⟩ : ∃ q1 : Nat, q1 = q + 1 := ⟨_, rfl⟩
          have hqq : (q : Int) + 1 = (q1 : Int) := by omega
          have hq1T : q1 ≤ T.size := by omega
          have hql' : (q1 : Int) ≤ (T.size : Int) := by omega
          obtain ⟨x4, HX4⟩ : ∃ x4, Hid (x4 = (T.data.toList.take q1).count 40) := ⟨_, rfl⟩
          obtain ⟨x5, HX5⟩ : ∃ x5, Hid (x5 = (T.data.toList.take q1).count 41) := ⟨_, rfl⟩
          have HK4 : Hid (∀ W, Calls Tryd.prog 20 #[.string (T.extract 0 q1), .string ⟨#[40]⟩] W fun e w' => e = .returned (.int .i64 (x4 : Int)) ∧ w' = W) := fun W => by
            have h := Count_at (T.extract 0 q1) 40 W
            rw [ext_front, ← HX4.out] at h; exact h
          have HK5 : Hid (∀ W, Calls Tryd.prog 20 #[.string (T.extract 0 q1), .string ⟨#[41]⟩] W fun e w' => e = .returned (.int .i64 (x5 : Int)) ∧ w' = W) := fun W => by
            have h := Count_at (T.extract 0 q1) 41 W
            rw [ext_front, ← HX5.out] at h; exact h
          have HO2 : Hid (∀ d, Owns (wr.drewN d) w.heap.size u3 (plN s.data.toList k)) := fun d => HO.out.below (below_drewN (Below.refl _ _) d)
          have HB2 : Hid (∀ d, Below w.heap.size w (wr.drewN d)) := fun d => below_drewN HB.out d
          have Hb2 : Hid ((b && decide (x5 < x4)) = bgB T.data.toList q1) := by
            show _ = _
            rw [HX4.out, HX5.out, hq1, bgB, ← Hb.out]
          have Hq1 : Hid (q1 = q + 1) := hq1
          rw [hqq]
          clear hqq hq1
          go_upto_region 10 with fail
          refine Go.wp_region_quiet_lit (by kernel_rfl) (by kernel_rfl) ?_
          cases b with
          | false =>
            repeat (go_big_quiet_step (fail))
            refine Go.wpQuiet_nil ?_
            intro _ hw'
            obtain ⟨nq, hw''⟩ := hw'
            subst hw''
            go_wp2
            go_roundw
            case rel => exact ⟨q1, false, hq1T, by go_num, rfl, Hb2, HO2.out _, HB2.out _⟩
            case measure => have := Hq1.out; simp [intOf]; omega
          | true =>
            repeat (go_big_quiet_step ((go_at_call 20; first | (with_reducible exact Calls.quiet_of_same (HK4.out _)) | (with_reducible exact Calls.quiet_of_same (HK5.out _)))))
            refine Go.wpQuiet_nil ?_
            intro _ hw'
            obtain ⟨nq, hw''⟩ := hw'
            subst hw''
            have Hb3 : Hid (decide (x5 < x4) = bgB T.data.toList q1) := Hb2
            go_wp2
            go_roundw
            case rel => exact ⟨q1, decide (x5 < x4), hq1T, by go_num, by simp, Hb3, HO2.out _, HB2.out _⟩
            case measure => have := Hq1.out; simp [intOf]; omega
        · obtain rfl : q = T.size := by omega
          obtain ⟨e1, he1⟩ : ∃ e1 : Int, e1 = (T.size : Int) + 1 := ⟨_, rfl⟩
          have hql' : (T.size : Int) < e1 := by omega
          have hqd : decide (e1 ≤ (T.size : Int)) = false := by simpa using hql'
          have hqe : (e1 ≤ (T.size : Int)) = False := by simpa using hql'
          rw [← he1]
          clear he1
          have Hbt : Hid (b = tnB s.data.toList k) := by show _ = _; rw [HTn.out, ← Hb.out]
          have HO2 : Hid (∀ d, Owns (wr.drewN d) w.heap.size u3 (plN s.data.toList k)) := fun d => HO.out.below (below_drewN (Below.refl _ _) d)
          have HB2 : Hid (∀ d, Below w.heap.size w (wr.drewN d)) := fun d => below_drewN HB.out d
          cases b with
          | false =>
            have HO3 : Hid (∀ d, Owns (wr.drewN d) w.heap.size u3 (plN s.data.toList (k + 1))) := fun d => by
              rw [plN_succ, ← Hbt.out, if_neg (by simp), List.append_nil]; exact HO2.out d
            go_wp2_with fail
            go_roundw
            case rel => exact ⟨k + 1, by omega, by go_num, HO3.out 0, HB2.out 0⟩
            case measure => simp [intOf]; omega
          | true =>
            have HLk := plN_len s.data.toList k
            go_wp2_with (at_builtin; refine append_int_at (N := wr.heap.size) (x := (k : Int)) rfl _ _ rfl rfl rfl rfl HO.out ?c1 ?c2 ?_)
            case c1 => omega
            case c2 => exact HB.out.size
            intro v' w3 hO3 hb3 _
            have HO4 : Hid (Owns w3 w.heap.size v' (plN s.data.toList (k + 1))) := by
              show Owns _ _ _ _
              rw [plN_succ, ← Hbt.out, if_pos rfl]; exact hO3
            have HB3 : Hid (Below w.heap.size w w3) := HB.out.trans hb3
            clear hO3 hb3
            go_wp2
            go_roundw
            case rel => exact ⟨k + 1, by omega, by go_num, HO4, HB3⟩
            case measure => simp [intOf]; omega
    · obtain rfl : k = s.size := by omega
      have hltk' : ¬ ((s.size : Int) < (s.size : Int)) := by omega
      go_wp2
      go_ret
      exact ⟨_, rfl, HO, HB⟩
end Go.Proofs.YthfbkangjpcpgaaDoor
