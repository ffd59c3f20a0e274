/-
  paths.Turns.
-/
import Derived.Test.YthfbkangjpcpgaaDoorQStr
import Derived.Deep.DeepCutAuto
namespace Go.Proofs.YthfbkangjpcpgaaDoor
open Go.RowKit

/-- All bytes are brackets. -/
def allB (s : List UInt8) : Bool := s.all fun b => decide (stB b ≠ 0)
theorem Turns_long (s : ByteArray) (hs : 60 < s.size) (w : World) :
    Calls Tryd.prog 10 #[.string s] w fun e w' => e = .returned (.tuple #[.slice none 0 0, .int .i64 2]) ∧ w' = w := by
  have hs' : (s.size : Int) > 60 := by omega
  go_enter Tryd.func10, Tryd.ntmps10
  go_wp2
  go_ret2
  exact ⟨rfl, rfl⟩

set_option maxHeartbeats 4000000 in
set_option maxRecDepth 100000 in
theorem Turns_bad (s : ByteArray) (hs : s.size ≤ 60) (hb : allB s.data.toList = false) (w : World) :
    Calls Tryd.prog 10 #[.string s] w fun e w' => e = .returned (.tuple #[.slice none 0 0, .int .i64 1]) ∧ w' = w := by
  have hs' : ¬ ((s.size : Int) > 60) := by omega
  have HB0 : Hid (allB s.data.toList = false) := hb
  clear hb
  go_enter Tryd.func10, Tryd.ntmps10
  go_wp2_with fail
  go_loopw [12] (fun i wr => ∃ k : Nat, k ≤ s.size ∧ i = .int .i64 (k : Int) ∧ Hid (allB (s.data.toList.drop k) = false) ∧ wr = w) (fun i _ => s.size - (intOf i).toNat)
  case atStart => exact ⟨0, Nat.zero_le _, rfl, HB0, rfl⟩
  case round =>
    obtain ⟨k, hk, rfl, HR, rfl⟩ := hrel
    by_cases hlt : k < s.size
    · have hlt' : (k : Int) < (s.size : Int) := by omega
      have HD : Hid (s.data.toList.drop k = s[k] :: s.data.toList.drop (k + 1)) := drop_byteQ s k hlt
      obtain ⟨c, hcc⟩ : ∃ c, c = s[k] := ⟨_, rfl⟩
      obtain ⟨x, HX⟩ : ∃ x, Hid (x = c.toNat) := ⟨_, rfl⟩
      obtain ⟨st, HS⟩ : ∃ st, Hid (st = stB c) := ⟨_, rfl⟩
      have hs0 : s[k].toNat = x := by rw [HX.out, hcc]
      have hcb : x < 256 := by rw [HX.out]; exact c.toNat_lt
      have HR2 : Hid ((decide (st ≠ 0) && allB (s.data.toList.drop (k + 1))) = false) := by
        show _ = _
        rw [← HR.out, HD.out, HS.out, hcc]; rfl
      clear hcc HD HR
      by_cases h0 : st = 0
      · subst h0
        go_wp2_with (go_at_call 24; refine (stepOf_at x c 0 HX HS _).mono ?_; rintro e w' ⟨rfl, rfl⟩)
        go_ret2
        exact ⟨rfl, rfl⟩
      · have HR3 : Hid (allB (s.data.toList.drop (k + 1)) = false) := by
          show _ = _
          rw [← HR2.out, decide_eq_true h0]; rfl
        have h0b : (st == 0) = false := by simp [h0]
        go_wp2_with (go_at_call 24; refine (stepOf_at x c st HX HS _).mono ?_; rintro e w' ⟨rfl, rfl⟩)
        go_roundw
        case rel => exact ⟨k + 1, by omega, by go_num, HR3, trivial⟩
        case measure => simp [intOf]; omega
    · exfalso
      have h := HR.out
      rw [List.drop_of_length_le (by simp; omega)] at h
      cases h

theorem ext_list (s : ByteArray) (k : Nat) (hk : k ≤ s.size) : (s.extract k s.size ++ s.extract 0 k).data.toList = s.data.toList.drop k ++ s.data.toList.take k := by
  have h1 : s.data.toList.length = s.size := by simp
  rw [ByteArray.data_append, Array.toList_append, ByteArray.data_extract, ByteArray.data_extract, Array.toList_extract, Array.toList_extract]
  rw [List.extract_eq_take_drop, List.extract_eq_take_drop, List.take_of_length_le (by rw [List.length_drop]; omega), List.drop_zero, Nat.sub_zero]

/-- The places, as far as k. -/
def plN (s : List UInt8) (k : Nat) : List Int := ((List.range k).filter (tnB s)).map fun i : Nat => (i : Int)
theorem plN_succ (s : List UInt8) (k : Nat) : plN s (k + 1) = plN s k ++ if tnB s k = true then [(k : Int)] else [] := by
  unfold plN
  rw [List.range_succ, List.filter_append, List.map_append]
  congr 1
  by_cases h : tnB s k = true
  · rw [List.filter_cons_of_pos h, if_pos h]; rfl
  · rw [List.filter_cons_of_neg h, if_neg h]; rfl
theorem plN_len (s : List UInt8) (k : Nat) : (plN s k).length ≤ k := by
  unfold plN
  rw [List.length_map]
  exact Nat.le_trans (List.length_filter_le _ _) (by rw [List.length_range]; exact Nat.le_refl _)

set_option maxHeartbeats 4000000 in
set_option maxRecDepth 100000 in
theorem Turns_ok (s : ByteArray) (hs : s.size ≤ 60) (hb : allB s.data.toList = true) (w : World) :
    Calls Tryd.prog 10 #[.string s] w fun e w' => ∃ v, e = .returned (.tuple #[v, .int .i64 0]) ∧ Hid (Owns w' w.heap.size v (plN s.data.toList s.size)) ∧ Hid (Below w.heap.size w w') := by
  have hs' : ¬ ((s.size : Int) > 60) := by omega
  have HB0 : Hid (allB s.data.toList = true) := hb
  clear hb
  go_enter Tryd.func10, Tryd.ntmps10
  go_wp2_with fail
  go_loopw [12] (fun i wr => ∃ k : Nat, k ≤ s.size ∧ i = .int .i64 (k : Int) ∧ Hid (allB (s.data.toList.drop k) = true) ∧ Hid (wr = w)) (fun i _ => s.size - (intOf i).toNat)
  case atStart => exact ⟨0, Nat.zero_le _, rfl, HB0, rfl⟩
  case round =>
    obtain ⟨k, hk, rfl, HR, HW⟩ := hrel
    obtain rfl : w = wr := HW.out.symm
    clear HW
    by_cases hlt : k < s.size
    · have hlt' : (k : Int) < (s.size : Int) := by omega
      have HD : Hid (s.data.toList.drop k = s[k] :: s.data.toList.drop (k + 1)) := drop_byteQ s k hlt
      obtain ⟨c, hcc⟩ : ∃ c, c = s[k] := ⟨_, rfl⟩
      obtain ⟨x, HX⟩ : ∃ x, Hid (x = c.toNat) := ⟨_, rfl⟩
      obtain ⟨st, HS⟩ : ∃ st, Hid (st = stB c) := ⟨_, rfl⟩
      have hs0 : s[k].toNat = x := by rw [HX.out, hcc]
      have hcb : x < 256 := by rw [HX.out]; exact c.toNat_lt
      have hR2 : (decide (st ≠ 0) && allB (s.data.toList.drop (k + 1))) = true := by
        rw [← HR.out, HD.out, HS.out, hcc]; rfl
      rw [Bool.and_eq_true, decide_eq_true_eq] at hR2
      have h0b : (st == 0) = false := by simp [hR2.1]
      have HR3 : Hid (allB (s.data.toList.drop (k + 1)) = true) := hR2.2
      clear hcc HD HR hR2
      go_wp2_with (go_at_call 24; refine (stepOf_at x c st HX HS _).mono ?_; rintro e w' ⟨rfl, rfl⟩)
      go_roundw
      case rel => exact ⟨k + 1, by omega, by go_num, HR3, (show True from trivial)⟩
      case measure => simp [intOf]; omega
    · obtain rfl : k = s.size := by omega
      have hlt' : ¬ ((s.size : Int) < (s.size : Int)) := by omega
      clear HR
      go_wp2_with fail
      go_loopw [5, 23] (fun v i wr => ∃ k : Nat, k ≤ s.size ∧ i = .int .i64 (k : Int) ∧ Hid (Owns wr w.heap.size v (plN s.data.toList k)) ∧ Hid (Below w.heap.size w wr)) (fun _ i _ => s.size - (intOf i).toNat)
      case atStart => exact ⟨0, Nat.zero_le _, rfl, World.ownsRow_nil _ _ _ _, Below.refl _ _⟩
      case round =>
        obtain ⟨k, hk, rfl, HO, HB⟩ := hrel
        by_cases hltk : k < s.size
        · have hltk' : (k : Int) < (s.size : Int) := by omega
          obtain ⟨t, HT⟩ : ∃ t, Hid (tnB s.data.toList k = t) := ⟨_, rfl⟩
          have HSt : Hid (∀ W, Calls Tryd.prog 25 #[.string (s.extract k s.size ++ s.extract 0 k)] W fun e w' => e = .returned (.bool t) ∧ w' = W) := fun W => by
            refine staysOpen_at _ t ?_ ?_ W
            · rw [ByteArray.size_append, ByteArray.size_extract, ByteArray.size_extract]; omega
            · show _ = _
              rw [← HT.out]
              unfold tnB
              rw [ext_list s k (by omega)]
          go_upto_region 13 with fail
          go_region_with (go_at_call 25; with_reducible (refine (HSt.out _).mono ?_); rintro e W1 ⟨rfl, hW1⟩; subst hW1)
          have HO2 : Hid (Owns wr.drew w.heap.size u5 (plN s.data.toList k)) := HO.out.below (below_drewN (Below.refl _ _) 1)
          have HB2 : Hid (Below w.heap.size w wr.drew) := below_drewN HB.out 1
          cases t with
          | false =>
            have HO3 : Hid (Owns wr.drew w.heap.size u5 (plN s.data.toList (k + 1))) := by
              show Owns _ _ _ _
              rw [plN_succ, HT.out, if_neg (by simp), List.append_nil]; exact HO2.out
            go_wp2
            go_roundw
            case rel => exact ⟨k + 1, by omega, by go_num, HO3, HB2⟩
            case measure => simp [intOf]; omega
          | true =>
            have HLk := plN_len s.data.toList k
            go_wp2_with (at_builtin; refine append_int_at (N := wr.drew.heap.size) (x := (k : Int)) rfl _ _ rfl rfl rfl rfl HO2.out ?c1 ?c2 ?_)
            case c1 => omega
            case c2 => exact HB2.out.size
            intro v' w3 hO3 hb3 _
            have HO4 : Hid (Owns w3 w.heap.size v' (plN s.data.toList (k + 1))) := by
              show Owns _ _ _ _
              rw [plN_succ, HT.out, if_pos rfl]; exact hO3
            have HB3 : Hid (Below w.heap.size w w3) := HB2.out.trans hb3
            clear hO3 hb3
            go_wp2
            go_roundw
            case rel => exact ⟨k + 1, by omega, by go_num, HO4, HB3⟩
            case measure => simp [intOf]; omega
        · obtain rfl : k = s.size := by omega
          have hltk' : ¬ ((s.size : Int) < (s.size : Int)) := by omega
          go_wp2
          go_ret2
          exact ⟨_, rfl, HO, HB⟩

end Go.Proofs.YthfbkangjpcpgaaDoor
