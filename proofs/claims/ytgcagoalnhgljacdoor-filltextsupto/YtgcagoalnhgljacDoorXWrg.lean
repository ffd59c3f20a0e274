/-
  The contracts of fill.isNextDigit, fill.wrongByte.
-/
import Derived.Test.YtgcagoalnhgljacDoorUTrn
import Derived.Test.YtgcagoalnhgljacDoorXMath
namespace Go.Proofs.YtgcagoalnhgljacDoor
open Go.RowKit

def nextX (x d : Nat) : Bool := if d = 0 then decide (49 ≤ x) && decide (x ≤ 57) else if d = 1 then decide (48 ≤ x) && decide (x ≤ 57) else false
theorem nextX_eq (c : UInt8) (d : Nat) : nextX c.toNat d = nextB c d := rfl

set_option maxHeartbeats 1000000 in
theorem isNextDigit_any (x d : Nat) (hc : x < 256) (w : World) (t : Bool) (E : Hid (nextX x d = t)) :
    Calls Tryd.prog 34 #[.int .u8 (x : Nat), .int .i64 (d : Nat)] w fun e w' => e = .returned (.bool t) ∧ w' = w := by
  have E0 : Hid ((if d = 0 then decide (49 ≤ x) && decide (x ≤ 57) else if d = 1 then decide (48 ≤ x) && decide (x ≤ 57) else false) = t) := E.out
  clear E
  by_cases h0 : d = 0
  · subst h0
    have E1 := E0.out
    rw [if_pos rfl] at E1
    by_cases h1 : 49 ≤ x
    · by_cases h2 : x ≤ 57
      · obtain rfl : t = true := by rw [← E1]; simp [h1, h2]
        clear E1 E0
        go_enter Tryd.func34, Tryd.ntmps34
        go_wp2
        go_ret
        exact ⟨ret_bool (decide_eq_true (by omega)), rfl⟩
      · obtain rfl : t = false := by rw [← E1]; simp [h2]
        clear E1 E0
        go_enter Tryd.func34, Tryd.ntmps34
        go_wp2
        go_ret
        exact ⟨ret_bool (decide_eq_false (by omega)), rfl⟩
    · obtain rfl : t = false := by rw [← E1]; simp [h1]
      clear E1 E0
      go_enter Tryd.func34, Tryd.ntmps34
      go_wp2
      go_ret
      exact ⟨rfl, rfl⟩
  · by_cases h1 : d = 1
    · subst h1
      have E1 := E0.out
      rw [if_neg (by omega), if_pos rfl] at E1
      by_cases h1 : 48 ≤ x
      · by_cases h2 : x ≤ 57
        · obtain rfl : t = true := by rw [← E1]; simp [h1, h2]
          clear E1 E0
          go_enter Tryd.func34, Tryd.ntmps34
          go_wp2
          go_ret
          exact ⟨ret_bool (decide_eq_true (by omega)), rfl⟩
        · obtain rfl : t = false := by rw [← E1]; simp [h2]
          clear E1 E0
          go_enter Tryd.func34, Tryd.ntmps34
          go_wp2
          go_ret
          exact ⟨ret_bool (decide_eq_false (by omega)), rfl⟩
      · obtain rfl : t = false := by rw [← E1]; simp [h1]
        clear E1 E0
        go_enter Tryd.func34, Tryd.ntmps34
        go_wp2
        go_ret
        exact ⟨rfl, rfl⟩
    · have E1 := E0.out
      rw [if_neg h0, if_neg h1] at E1
      subst E1
      have g0 : ((d : Int) == 0) = false := by simp; omega
      have g1 : ((d : Int) == 1) = false := by simp; omega
      clear E0 h0 h1
      go_enter Tryd.func34, Tryd.ntmps34
      go_wp2
      go_ret
      exact ⟨rfl, rfl⟩

theorem drop_byte (s : ByteArray) (k : Nat) (h : k < s.size) : s.data.toList.drop k = s[k] :: s.data.toList.drop (k + 1) := by
  rw [List.drop_eq_getElem_cons (by simpa using h)]; rfl

set_option maxHeartbeats 4000000 in
set_option maxRecDepth 100000 in
theorem wrongByte_any (s : ByteArray) (w : World) (hs : s.size ≤ maxLen) :
    Calls Tryd.prog 19 #[.string s] w fun e w' => e = .returned (.int .i64 (wrongAt 0 0 s.data.toList)) ∧ ∃ n, w' = w.drewN n := by
  unfold maxLen at hs
  have hk47 : ((⟨#[47]⟩ : ByteArray)[0]'(by decide)).toNat = 47 := rfl
  have hk32 : ((⟨#[32]⟩ : ByteArray)[0]'(by decide)).toNat = 32 := rfl
  go_enter Tryd.func19, Tryd.ntmps19
  go_wp2
  go_loopw [3, 7] (fun v i wr => ∃ (k d : Nat), k ≤ s.size ∧ d ≤ 2 ∧ i = .int .i64 k ∧ v = .int .i64 d ∧ Hid (wrongAt 0 0 s.data.toList = wrongAt d k (s.data.toList.drop k)) ∧ ∃ n, wr = w.drewN n) (fun _ i _ => s.size - (intOf i).toNat)
  case atStart => exact ⟨0, 0, Nat.zero_le _, by omega, rfl, rfl, by simp [Hid], 0, rfl⟩
  case round =>
    obtain ⟨k, d, hk, hd, rfl, rfl, HR, n, rfl⟩ := hrel
    by_cases hlt : k < s.size
    · have hlt' : (k : Int) < (s.size : Int) := by omega
      have HD : Hid (s.data.toList.drop k = s[k] :: s.data.toList.drop (k + 1)) := drop_byte s k hlt
      obtain ⟨c, hcc⟩ : ∃ c, c = s[k] := ⟨_, rfl⟩
      have HC : Hid (c = s[k]) := hcc
      obtain ⟨x, HX⟩ : ∃ x, Hid (x = c.toNat) := ⟨_, rfl⟩
      have hs0 : s[k].toNat = x := by rw [HX.out, hcc]
      have hcb : x < 256 := by rw [HX.out]; exact c.toNat_lt
      clear hcc
      have HIn : Hid (nextB c d = false → ¬ (0 < d ∧ sepB c = true) → wrongAt 0 0 s.data.toList = (k : Int)) := fun h1 h2 => by
        rw [HR.out, HD.out, wrongAt, ← HC.out, if_neg (by rw [h1]; simp), if_neg h2]
      have HSp : Hid (nextB c d = false → (0 < d ∧ sepB c = true) → wrongAt 0 0 s.data.toList = wrongAt 0 (k + 1) (s.data.toList.drop (k + 1))) := fun h1 h2 => by
        rw [HR.out, HD.out, wrongAt, ← HC.out, if_neg (by rw [h1]; simp), if_pos h2]
      cases en : nextB c d with
      | true =>
        have EN : Hid (nextB c d = true) := en
        have hd1 : d ≤ 1 := by
          by_cases h : d ≤ 1
          · exact h
          · unfold nextB at en; rw [if_neg (by omega), if_neg (by omega)] at en; cases en
        have HN : Hid (wrongAt 0 0 s.data.toList = wrongAt (d + 1) (k + 1) (s.data.toList.drop (k + 1))) := by
          show _ = _; rw [HR.out, HD.out, wrongAt, ← HC.out, if_pos EN.out]
        have EX : Hid (nextX x d = true) := by show _ = _; rw [HX.out]; exact EN.out
        clear en
        go_wp2_with (go_at_call 34; refine (isNextDigit_any x d hcb _ true EX).mono ?_; rintro e w' ⟨rfl, rfl⟩)
        refine ⟨⟨k + 1, d + 1, by omega, by omega, by go_num, by go_num, HN, n, rfl⟩, ?_⟩
        simp [intOf]; omega
      | false =>
        have EN : Hid (nextB c d = false) := en
        have EX : Hid (nextX x d = false) := by show _ = _; rw [HX.out]; exact EN.out
        clear en
        have HSb : Hid (sepB c = (decide (x = 47) || decide (x = 32))) := by show _ = _; rw [HX.out]; rfl
        by_cases hd0 : 0 < d
        · have g0 : decide ((d : Int) > 0) = true := decide_eq_true (by omega)
          by_cases h47 : x = 47
          · have HN : Hid (wrongAt 0 0 s.data.toList = wrongAt 0 (k + 1) (s.data.toList.drop (k + 1))) := HSp.out EN.out ⟨hd0, by rw [HSb.out, h47]; rfl⟩
            have g1 : ((x : Int) == 47) = true := by simp; omega
            have hd' : (0 : Int) < (d : Int) := by omega
            clear h47
            go_wp2_with (go_at_call 34; refine (isNextDigit_any x d hcb _ false EX).mono ?_; rintro e w' ⟨rfl, rfl⟩)
            go_quiet (fail)
            go_wp2
            go_roundw
            case rel => exact ⟨k + 1, 0, by omega, by omega, by go_num, rfl, HN, _, by first | exact rfl | exact drewN_two _ _ _⟩
            case measure => simp [intOf]; omega
          · by_cases h32 : x = 32
            · have HN : Hid (wrongAt 0 0 s.data.toList = wrongAt 0 (k + 1) (s.data.toList.drop (k + 1))) := HSp.out EN.out ⟨hd0, by rw [HSb.out, h32]; rfl⟩
              have g1 : ((x : Int) == 47) = false := by simp; omega
              have g2 : ((x : Int) == 32) = true := by simp; omega
              clear h47 h32
              go_wp2_with (go_at_call 34; refine (isNextDigit_any x d hcb _ false EX).mono ?_; rintro e w' ⟨rfl, rfl⟩)
              go_quiet (fail)
              go_wp2
              go_roundw
              case rel => exact ⟨k + 1, 0, by omega, by omega, by go_num, rfl, HN, _, by first | exact rfl | exact drewN_two _ _ _⟩
              case measure => simp [intOf]; omega
            · have HE : Hid (wrongAt 0 0 s.data.toList = (k : Int)) := HIn.out EN.out (by rw [HSb.out, decide_eq_false h47, decide_eq_false h32]; simp)
              have g1 : ((x : Int) == 47) = false := by simp; omega
              have g2 : ((x : Int) == 32) = false := by simp; omega
              clear h47 h32
              go_wp2_with (go_at_call 34; refine (isNextDigit_any x d hcb _ false EX).mono ?_; rintro e w' ⟨rfl, rfl⟩)
              go_quiet (fail)
              go_wp2
              go_ret
              exact ⟨ret_int HE.out.symm, _, by first | exact rfl | exact drewN_two _ _ _⟩
        · have HE : Hid (wrongAt 0 0 s.data.toList = (k : Int)) := HIn.out EN.out (by omega)
          obtain rfl : d = 0 := by omega
          go_wp2_with (go_at_call 34; refine (isNextDigit_any x 0 hcb _ false EX).mono ?_; rintro e w' ⟨rfl, rfl⟩)
          go_quiet (fail)
          go_wp2
          go_ret
          exact ⟨ret_int HE.out.symm, _, by first | exact rfl | exact drewN_two _ _ _⟩
    · obtain rfl : k = s.size := by omega
      have HE : Hid (wrongAt 0 0 s.data.toList = if d = 0 ∧ 0 < s.size then (s.size : Int) else -1) := by
        show _ = _
        rw [HR.out, List.drop_of_length_le (by simp)]; rfl
      by_cases hd0 : d = 0
      · subst hd0
        by_cases h0 : 0 < s.size
        · have HF : Hid (wrongAt 0 0 s.data.toList = (s.size : Int)) := by show _ = _; rw [HE.out, if_pos ⟨rfl, h0⟩]
          have hne : s.toList.isEmpty = false := by
            rw [Lib.toList_data]
            cases e : s.data.toList with
            | nil => have : s.size = 0 := by rw [Lib.size_eq, e]; rfl
                     omega
            | cons _ _ => rfl
          go_wp2
          go_ret
          exact ⟨ret_int HF.out.symm, n, rfl⟩
        · have HF : Hid (wrongAt 0 0 s.data.toList = -1) := by show _ = _; rw [HE.out, if_neg (fun h => h0 h.2)]
          have hne : s.toList.isEmpty = true := by
            rw [Lib.toList_data]
            have : s.data.toList.length = 0 := by rw [← Lib.size_eq]; omega
            rw [List.eq_nil_of_length_eq_zero this]; rfl
          go_wp2
          go_ret
          exact ⟨ret_int HF.out.symm, n, rfl⟩
      · have HF : Hid (wrongAt 0 0 s.data.toList = -1) := by show _ = _; rw [HE.out, if_neg (fun h => hd0 h.1)]
        have g0 : ((d : Int) == 0) = false := by simp; omega
        clear hd0
        go_wp2
        go_ret
        exact ⟨ret_int HF.out.symm, n, rfl⟩

end Go.Proofs.YtgcagoalnhgljacDoor
