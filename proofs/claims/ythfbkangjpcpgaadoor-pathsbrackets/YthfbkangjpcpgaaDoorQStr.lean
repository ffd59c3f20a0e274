/-
  paths.stepOf, staysOpen, isRight.
-/
import Derived.Test.YthfbkangjpcpgaaDoorBApp
import Derived.Test.YthfbkangjpcpgaaDoorQEnd
namespace Go.Proofs.YthfbkangjpcpgaaDoor
open Go.RowKit

theorem drop_byteQ (s : ByteArray) (k : Nat) (h : k < s.size) : s.data.toList.drop k = s[k] :: s.data.toList.drop (k + 1) := by
  rw [List.drop_eq_getElem_cons (by simpa using h)]; rfl
theorem byte_is {c : UInt8} {x n : Nat} (hx : x = c.toNat) (hn : n < 256) : x = n ↔ c = UInt8.ofNat n := by
  rw [hx]
  constructor
  · intro h
    apply UInt8.toNat_inj.1
    rw [h, UInt8.toNat_ofNat']; omega
  · intro h
    rw [h, UInt8.toNat_ofNat']; omega

theorem stepOf_at (x : Nat) (c : UInt8) (st : Int) (HX : Hid (x = c.toNat)) (HS : Hid (st = stB c)) (w : World) :
    Calls Tryd.prog 24 #[.int .u8 (x : Int)] w fun e w' => e = .returned (.int .i64 st) ∧ w' = w := by
  by_cases h1 : x = 40
  · have hc : c = 40 := (byte_is (n := 40) HX.out (by decide)).1 h1
    obtain rfl : st = 1 := by rw [HS.out, hc]; rfl
    subst h1
    go_enter Tryd.func24, Tryd.ntmps24
    go_wp2
    go_ret
    exact ⟨rfl, rfl⟩
  · have hc : ¬ c = 40 := fun q => h1 ((byte_is (n := 40) HX.out (by decide)).2 q)
    have g1 : ((x : Int) == 40) = false := by simp; omega
    by_cases h2 : x = 41
    · have hc2 : c = 41 := (byte_is (n := 41) HX.out (by decide)).1 h2
      obtain rfl : st = -1 := by rw [HS.out, hc2]; rfl
      subst h2
      go_enter Tryd.func24, Tryd.ntmps24
      go_wp2
      go_ret
      exact ⟨rfl, rfl⟩
    · have hc2 : ¬ c = 41 := fun q => h2 ((byte_is (n := 41) HX.out (by decide)).2 q)
      have g2 : ((x : Int) == 41) = false := by simp; omega
      obtain rfl : st = 0 := by rw [HS.out]; unfold stB; rw [if_neg hc, if_neg hc2]
      clear hc hc2 h1 h2
      go_enter Tryd.func24, Tryd.ntmps24
      go_wp2
      go_ret
      exact ⟨rfl, rfl⟩
theorem stB_low (b : UInt8) : -1 ≤ stB b := by unfold stB; split <;> (try split) <;> omega

set_option maxHeartbeats 4000000 in
set_option maxRecDepth 100000 in
theorem staysOpen_at (s : ByteArray) (B : Bool) (hs : s.size ≤ 60) (HBb : Hid (sty 0 s.data.toList = B)) (w : World) :
    Calls Tryd.prog 25 #[.string s] w fun e w' => e = .returned (.bool B) ∧ w' = w := by
  go_enter Tryd.func25, Tryd.ntmps25
  go_wp2
  go_loopw [3, 7] (fun v i wr => ∃ (k : Nat) (o : Int), k ≤ s.size ∧ o ≤ k ∧ -(k : Int) ≤ o ∧ i = .int .i64 k ∧ v = .int .i64 o ∧ Hid (sty o (s.data.toList.drop k) = B) ∧ wr = w) (fun _ i _ => s.size - (intOf i).toNat)
  case atStart => exact ⟨0, 0, Nat.zero_le _, by omega, by omega, rfl, rfl, HBb, rfl⟩
  case round =>
    obtain ⟨k, o, hk, ho1, ho2, rfl, rfl, HR, rfl⟩ := hrel
    by_cases hlt : k < s.size
    · have hlt' : (k : Int) < (s.size : Int) := by omega
      have HD : Hid (s.data.toList.drop k = s[k] :: s.data.toList.drop (k + 1)) := drop_byteQ s k hlt
      obtain ⟨c, hcc⟩ : ∃ c, c = s[k] := ⟨_, rfl⟩
      obtain ⟨x, HX⟩ : ∃ x, Hid (x = c.toNat) := ⟨_, rfl⟩
      obtain ⟨st, HS⟩ : ∃ st, Hid (st = stB c) := ⟨_, rfl⟩
      have hs0 : s[k].toNat = x := by rw [HX.out, hcc]
      have hcb : x < 256 := by rw [HX.out]; exact c.toNat_lt
      have hb1 : st ≤ 1 := by rw [HS.out]; exact stB_one c
      have hb2 : -1 ≤ st := by rw [HS.out]; exact stB_low c
      have HR2 : Hid ((decide (0 < o + st) && sty (o + st) (s.data.toList.drop (k + 1))) = B) := by
        show _ = _
        rw [← HR.out, HD.out, sty, ← hcc, ← HS.out]
      clear hcc HD HR
      by_cases h0 : o + st ≤ 0
      · have hE : B = false := by rw [← HR2.out, decide_eq_false (by omega)]; rfl
        subst hE
        go_wp2_with (go_at_call 24; refine (stepOf_at x c st HX HS _).mono ?_; rintro e w' ⟨rfl, rfl⟩)
        go_ret
        exact ⟨rfl, rfl⟩
      · have HR3 : Hid (sty (o + st) (s.data.toList.drop (k + 1)) = B) := by
          show _ = _
          rw [← HR2.out, decide_eq_true (by omega)]; rfl
        go_wp2_with (go_at_call 24; refine (stepOf_at x c st HX HS _).mono ?_; rintro e w' ⟨rfl, rfl⟩)
        go_roundw
        case rel => exact ⟨k + 1, o + st, by omega, by omega, by omega, by go_num, by go_num, HR3, trivial⟩
        case measure => simp [intOf]; omega
    · obtain rfl : k = s.size := by omega
      have hE : B = true := by rw [← HR.out, List.drop_of_length_le (by simp)]; rfl
      subst hE
      go_wp2
      go_ret
      exact ⟨rfl, rfl⟩

set_option maxHeartbeats 4000000 in
set_option maxRecDepth 100000 in
theorem isRight_at (s : ByteArray) (B : Bool) (hs : s.size ≤ 60) (HBb : Hid (rt 0 s.data.toList = B)) (w : World) :
    Calls Tryd.prog 23 #[.string s] w fun e w' => e = .returned (.bool B) ∧ w' = w := by
  go_enter Tryd.func23, Tryd.ntmps23
  go_wp2
  go_loopw [3, 8] (fun v i wr => ∃ (k o : Nat), k ≤ s.size ∧ o ≤ k ∧ i = .int .i64 k ∧ v = .int .i64 (o : Int) ∧ Hid (rt o (s.data.toList.drop k) = B) ∧ wr = w) (fun _ i _ => s.size - (intOf i).toNat)
  case atStart => exact ⟨0, 0, Nat.zero_le _, by omega, rfl, rfl, HBb, rfl⟩
  case round =>
    obtain ⟨k, o, hk, ho1, rfl, rfl, HR, rfl⟩ := hrel
    by_cases hlt : k < s.size
    · have hlt' : (k : Int) < (s.size : Int) := by omega
      have HD : Hid (s.data.toList.drop k = s[k] :: s.data.toList.drop (k + 1)) := drop_byteQ s k hlt
      obtain ⟨c, hcc⟩ : ∃ c, c = s[k] := ⟨_, rfl⟩
      obtain ⟨x, HX⟩ : ∃ x, Hid (x = c.toNat) := ⟨_, rfl⟩
      obtain ⟨st, HS⟩ : ∃ st, Hid (st = stB c) := ⟨_, rfl⟩
      have hs0 : s[k].toNat = x := by rw [HX.out, hcc]
      have hcb : x < 256 := by rw [HX.out]; exact c.toNat_lt
      have HR2 : Hid ((if c = 40 then rt (o + 1) (s.data.toList.drop (k + 1)) else if c = 41 then decide (0 < o) && rt (o - 1) (s.data.toList.drop (k + 1)) else false) = B) := by
        show _ = _
        rw [← HR.out, HD.out, rt, ← hcc]
      clear hcc HD HR
      by_cases h1 : c = 40
      · obtain rfl : st = 1 := by rw [HS.out, h1]; rfl
        have HR3 : Hid (rt (o + 1) (s.data.toList.drop (k + 1)) = B) := by show _ = _; rw [← HR2.out, if_pos h1]
        have hneg : ¬ ((o : Int) + 1 < 0) := by omega
        go_wp2_with (go_at_call 24; refine (stepOf_at x c 1 HX HS _).mono ?_; rintro e w' ⟨rfl, rfl⟩)
        go_roundw
        case rel => exact ⟨k + 1, o + 1, by omega, by omega, by go_num, by go_num, HR3, trivial⟩
        case measure => simp [intOf]; omega
      · by_cases h2 : c = 41
        · obtain rfl : st = -1 := by rw [HS.out, h2]; rfl
          by_cases h0 : o = 0
          · have hE : B = false := by rw [← HR2.out, if_neg h1, if_pos h2, h0]; rfl
            subst hE h0
            go_wp2_with (go_at_call 24; refine (stepOf_at x c (-1) HX HS _).mono ?_; rintro e w' ⟨rfl, rfl⟩)
            go_ret
            exact ⟨rfl, rfl⟩
          · obtain ⟨q, rfl⟩ : ∃ q, o = q + 1 := ⟨o - 1, by omega⟩
            have HR3 : Hid (rt q (s.data.toList.drop (k + 1)) = B) := by show _ = _; rw [← HR2.out, if_neg h1, if_pos h2, decide_eq_true (by omega)]; rfl
            go_wp2_with (go_at_call 24; refine (stepOf_at x c (-1) HX HS _).mono ?_; rintro e w' ⟨rfl, rfl⟩)
            go_roundw
            case rel => exact ⟨k + 1, q, by omega, by omega, by go_num, by go_num, HR3, trivial⟩
            case measure => simp [intOf]; omega
        · obtain rfl : st = 0 := by rw [HS.out]; unfold stB; rw [if_neg h1, if_neg h2]
          have hE : B = false := by rw [← HR2.out, if_neg h1, if_neg h2]
          subst hE
          go_wp2_with (go_at_call 24; refine (stepOf_at x c 0 HX HS _).mono ?_; rintro e w' ⟨rfl, rfl⟩)
          go_ret
          exact ⟨rfl, rfl⟩
    · obtain rfl : k = s.size := by omega
      have hE : B = decide (o = 0) := by rw [← HR.out, List.drop_of_length_le (by simp), rt]; cases o <;> rfl
      have hO : B = ((o : Int) == 0) := by
        rw [hE]
        by_cases h : o = 0
        · subst h; rfl
        · rw [decide_eq_false h]; symm; rw [beq_eq_false_iff_ne]; omega
      clear hE
      go_wp2
      go_ret
      exact ⟨by rw [hO]; rfl, rfl⟩

end Go.Proofs.YthfbkangjpcpgaaDoor
