/-
  paths.Rank.
-/
import Derived.Test.YthfbkangjpcpgaaDoorQAll
import Derived.Test.YthfbkangjpcpgaaDoorQStr
namespace Go.Proofs.YthfbkangjpcpgaaDoor
open Go.RowKit

theorem Rank_long (s : ByteArray) (hs : 60 < s.size) (w : World) :
    Calls Tryd.prog 9 #[.string s] w fun e w' => e = .returned (.tuple #[.int .i64 0, .int .i64 2]) ∧ w' = w := by
  have hs' : (s.size : Int) > 60 := by omega
  go_enter Tryd.func9, Tryd.ntmps9
  go_wp2
  go_ret2
  exact ⟨rfl, rfl⟩
theorem Rank_wrong (s : ByteArray) (hs : s.size ≤ 60) (hr : rt 0 s.data.toList = false) (w : World) :
    Calls Tryd.prog 9 #[.string s] w fun e w' => e = .returned (.tuple #[.int .i64 0, .int .i64 1]) ∧ w' = w := by
  have hs' : ¬ ((s.size : Int) > 60) := by omega
  have hidR := hid_w (isRight_at s false hs hr w)
  go_enter Tryd.func9, Tryd.ntmps9
  go_wp2_with fail
  refine hidR.out.mono ?_
  rintro e w1 ⟨rfl, hw1⟩
  obtain rfl : w = w1 := hw1.symm
  clear hw1
  go_wp2
  go_ret2
  exact ⟨rfl, rfl⟩

set_option maxHeartbeats 4000000 in
set_option maxRecDepth 100000 in
theorem Rank_ok (s : ByteArray) (hs : s.size ≤ 60) (hr : rt 0 s.data.toList = true) (w : World) :
    Calls Tryd.prog 9 #[.string s] w fun e w' => e = .returned (.tuple #[.int .i64 (rk 0 s.data.toList : Int), .int .i64 0]) ∧ Hid (Below w.heap.size w w') := by
  have hs' : ¬ ((s.size : Int) > 60) := by omega
  have hidR := hid_w (isRight_at s true hs hr w)
  have hidE := hid_w (allEndings_at w)
  obtain ⟨R, HRr⟩ : ∃ R, Hid (R = rk 0 s.data.toList) := ⟨_, rfl⟩
  have HRt : Hid (rt 0 s.data.toList = true) := hr
  rw [← HRr.out]
  have hRb : R ≤ 1152921504606846976 := by
    rw [HRr.out]
    have h1 := rk_lt _ 0 hr
    have h2 := Nat.le_trans (eW_le s.data.toList.length 0) (Nat.pow_le_pow_right (by omega) (show s.data.toList.length ≤ 60 by simpa using hs))
    omega
  clear hr
  go_enter Tryd.func9, Tryd.ntmps9
  go_wp2_with fail
  refine hidR.out.mono ?_
  rintro e w1 ⟨rfl, hw1⟩
  obtain rfl : w = w1 := hw1.symm
  clear hw1
  go_wp2_with fail
  refine hidE.out.mono ?_
  rintro e w2 ⟨rfl, HA, HB⟩
  clear hidE hidR
  obtain ⟨g, HG⟩ : ∃ g, Hid (g = w.heap.size) := ⟨_, rfl⟩
  rw [← HG.out] at HA ⊢
  go_wp2_with fail
  go_loopw [5, 6, 17] (fun rv v i wr => ∃ (k o r : Nat), k ≤ s.size ∧ o ≤ k ∧ i = .int .i64 k ∧ v = .int .i64 (o : Int) ∧ rv = .int .i64 (r : Int) ∧ r ≤ R ∧ Hid (r + rk o (s.data.toList.drop k) = R) ∧ Hid (rt o (s.data.toList.drop k) = true) ∧ Hid (∃ q, wr = w2.drewN q)) (fun _ _ i _ => s.size - (intOf i).toNat)
  case atStart => exact ⟨0, 0, 0, Nat.zero_le _, by omega, rfl, rfl, rfl, by omega, by show _ = _; rw [Nat.zero_add, HRr.out]; rfl, HRt, ⟨0, rfl⟩⟩
  case round =>
    obtain ⟨k, o, r, hk, ho1, rfl, rfl, rfl, hrR, HR, HT, HW⟩ := hrel
    have HAr : Hid (ArrE wr g tF) := by
      obtain ⟨q, hq⟩ := HW.out
      rw [hq]; exact HA.out.same rfl
    by_cases hlt : k < s.size
    · have hlt' : (k : Int) < (s.size : Int) := by omega
      have HD : Hid (s.data.toList.drop k = s[k] :: s.data.toList.drop (k + 1)) := drop_byteQ s k hlt
      obtain ⟨c, hcc⟩ : ∃ c, c = s[k] := ⟨_, rfl⟩
      obtain ⟨x, HX⟩ : ∃ x, Hid (x = c.toNat) := ⟨_, rfl⟩
      have hs0 : s[k].toNat = x := by rw [HX.out, hcc]
      have hcb : x < 256 := by rw [HX.out]; exact c.toNat_lt
      have hl : (s.data.toList.drop (k + 1)).length = s.size - (k + 1) := by rw [List.length_drop]; simp
      have HR2 : Hid (r + (if c = 40 then rk (o + 1) (s.data.toList.drop (k + 1)) else eW (s.size - (k + 1)) (o + 1) + rk (o - 1) (s.data.toList.drop (k + 1))) = R) := by
        show _ = _
        rw [← HR.out, HD.out, rk, ← hcc, hl]
      have HT2 : Hid ((if c = 40 then rt (o + 1) (s.data.toList.drop (k + 1)) else if c = 41 then decide (0 < o) && rt (o - 1) (s.data.toList.drop (k + 1)) else false) = true) := by
        show _ = _
        rw [← HT.out, HD.out, rt, ← hcc]
      clear hcc HD HR HT hl
      by_cases h1 : c = 40
      · have HR3 : Hid (r + rk (o + 1) (s.data.toList.drop (k + 1)) = R) := by
          show _ = _
          rw [← HR2.out, if_pos h1]
        have HT3 : Hid (rt (o + 1) (s.data.toList.drop (k + 1)) = true) := by
          show _ = _
          rw [← HT2.out, if_pos h1]
        obtain rfl : x = 40 := (byte_is (n := 40) HX.out (by decide)).2 h1
        go_wp2
        go_roundw
        case rel => exact ⟨k + 1, o + 1, r, by omega, by omega, by go_num, by go_num, rfl, hrR, HR3, HT3, HW⟩
        case measure => simp [intOf]; omega
      · have hT := HT2.out
        rw [if_neg h1] at hT
        have hR := HR2.out
        rw [if_neg h1] at hR
        by_cases h2 : c = 41
        · rw [if_pos h2, Bool.and_eq_true, decide_eq_true_eq] at hT
          obtain ⟨q, rfl⟩ : ∃ q, o = q + 1 := ⟨o - 1, by omega⟩
          have HT3 : Hid (rt q (s.data.toList.drop (k + 1)) = true) := hT.2
          obtain ⟨e, HE⟩ : ∃ e, Hid (e = eW (s.size - (k + 1)) (q + 1 + 1)) := ⟨_, rfl⟩
          rw [← HE.out, Nat.add_sub_cancel, ← Nat.add_assoc] at hR
          have HR3 : Hid (r + e + rk q (s.data.toList.drop (k + 1)) = R) := hR
          have hre : r + e ≤ R := by omega
          have hc : wr.cell? ⟨g, (s.size - k - 1) * 62 + (q + 1 + 1), none⟩ = some (.int .i64 (e : Int)) := by
            rw [HAr.out.cell (by omega), tF_at (by omega), HE.out, Nat.sub_sub]
          have g1 : ((x : Int) == 40) = false := by
            have : ¬ x = 40 := fun q => h1 ((byte_is (n := 40) HX.out (by decide)).1 q)
            rw [beq_eq_false_iff_ne]; omega
          clear hT hR
          go_wp2
          go_roundw
          case rel => exact ⟨k + 1, q, r + e, by omega, by omega, by go_num, by go_num, by go_num, hre, HR3, HT3, HW⟩
          case measure => simp [intOf]; omega
        · rw [if_neg h2] at hT; cases hT
    · obtain rfl : k = s.size := by omega
      have hE : r = R := by
        have := HR.out
        rw [List.drop_of_length_le (by simp), rk] at this; omega
      subst hE
      have HB2 : Hid (Below w.heap.size w wr) := by
        obtain ⟨q, hq⟩ := HW.out
        rw [hq]; exact below_drewN HB.out q
      go_wp2
      go_ret2
      exact ⟨rfl, HB2⟩

end Go.Proofs.YthfbkangjpcpgaaDoor
