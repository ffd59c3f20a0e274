/-
  Contracts of ferref.Part and ferlaw.list.
-/
import Derived.Test.YtnjbkiegeielhaaRef
namespace Go.Proofs.Ytnjbkiegeielhaa
open Go.RowKit

theorem sum_take_le {zs : List Int} (h : ∀ z ∈ zs, 0 ≤ z) (k : Nat) : sum (zs.take k) ≤ sum zs := by
  have h1 : sum zs = sum (zs.take k) + sum (zs.drop k) := by rw [← sum_append, List.take_append_drop]
  have h2 := sum_ge (zs := zs.drop k) (m := 0) (fun z hz => h z (List.mem_of_mem_drop hz))
  omega

set_option maxHeartbeats 2000000 in
theorem Part_any (a : Option Addr) (cap : Nat) (zs : List Int) (w : World) (hs : Shows w a zs) :
    Calls Try.prog 8 #[.slice a zs.length cap] w fun e w' => e = .returned (.int .i64 (chk zs)) ∧ ∃ n, w' = w.drewN n := by
  have hl := hs.len
  go_enter Try.func8, Try.ntmps8
  go_wp2
  go_loopw [3] (fun i wr => ∃ k : Nat, k ≤ zs.length ∧ i = .int .i64 k ∧ Hid (∀ j, j < k → stepOk 1 0 zs j) ∧ ∃ n, wr = w.drewN n) (fun i _ => zs.length - (intOf i).toNat)
  case atStart => exact ⟨0, Nat.zero_le _, rfl, fun j hj => by omega, 0, rfl⟩
  case round =>
    obtain ⟨k, hk, rfl, HR, n, rfl⟩ := hrel
    by_cases hlt : k < zs.length
    · have hltI : (k : Int) < (zs.length : Int) := by omega
      rcases Nat.eq_zero_or_pos k with rfl | hpos
      · obtain ⟨b, off, z, rfl, HZ, hz1, hz2, hc⟩ := hs.elem hlt
        rw [Nat.add_zero] at hc
        by_cases h1 : z < 1
        · go_wp2_with fail
          go_quiet (fail)
          go_wp2
          go_ret
          exact ⟨ret_i64 (by rw [chk, goesB_neg (fun h => by have := (h 0 hlt).1; rw [← HZ.out] at this; omega)]; rfl), _, by first | exact rfl | exact drewN_two _ _ _⟩
        · have hd : decide (z < 1) = false := by simp; omega
          go_wp2_with fail
          go_quiet (fail)
          go_wp2
          go_roundw
          case rel => exact ⟨1, by omega, by go_num, fun j hj => by obtain rfl : j = 0 := (by omega); exact ⟨by rw [← HZ.out]; omega, fun h => by omega⟩, _, by first | exact rfl | exact drewN_two _ _ _⟩
          case measure => simp [intOf]; omega
      · obtain ⟨m, rfl⟩ : ∃ m, k = m + 1 := ⟨k - 1, by omega⟩
        obtain ⟨b, off, z, y, rfl, HZ, HY, hz1, hz2, hy1, hy2, hc, hcy⟩ := hs.elem2 hlt (show m < zs.length by omega)
        have hltm : (m : Int) < (zs.length : Int) := by omega
        have hm0 : (0 : Int) < ((m + 1 : Nat) : Int) := by omega
        by_cases h1 : z < 1
        · go_wp2_with fail
          go_quiet (fail)
          go_wp2
          go_ret
          exact ⟨ret_i64 (by rw [chk, goesB_neg (fun h => by have := (h (m + 1) hlt).1; rw [← HZ.out] at this; omega)]; rfl), _, by first | exact rfl | exact drewN_two _ _ _⟩
        · have hd : decide (z < 1) = false := by simp; omega
          by_cases h2 : y < z
          · go_wp2_with fail
            go_quiet (fail)
            go_wp2
            go_ret
            exact ⟨ret_i64 (by rw [chk, goesB_neg (fun h => by have := (h (m + 1) hlt).2 (by omega); rw [← HZ.out, Nat.add_sub_cancel, ← HY.out] at this; omega)]; rfl), _, by first | exact rfl | exact drewN_two _ _ _⟩
          · have hd2 : decide (y < z) = false := by simp; omega
            go_wp2_with fail
            go_quiet (fail)
            go_wp2
            go_roundw
            case rel => exact ⟨m + 2, by omega, by go_num, fun j hj => by
                          by_cases hj' : j < m + 1
                          · exact HR.out j hj'
                          · obtain rfl : j = m + 1 := by omega
                            exact ⟨by rw [← HZ.out]; omega, fun h => by rw [← HZ.out, Nat.add_sub_cancel, ← HY.out]; omega⟩, _, by first | exact rfl | exact drewN_two _ _ _⟩
            case measure => simp [intOf]; omega
    · have hg : Hid (Goes 1 0 zs) := fun j hj => HR.out j (by omega)
      have h1 : Hid (∀ z ∈ zs, 1 ≤ z) := fun z hz => hg.out.mem hz
      have h0 : Hid (∀ z ∈ zs, 0 ≤ z) := fun z hz => by have := h1.out z hz; omega
      have hchk : Hid (chk zs = if sum zs ≤ 40 then 0 else 2) := by
        show _ = _
        rw [chk, goesB_pos hg.out, if_pos rfl, room_eq zs 40 h0.out (by omega)]
        by_cases hs40 : sum zs ≤ 40
        · rw [if_pos hs40, if_pos hs40, if_neg (by omega)]
        · rw [if_neg hs40, if_neg hs40]; rfl
      have hd : decide ((k : Int) < (zs.length : Int)) = false := by simp; omega
      go_wp2_with fail
      go_loop [4, 5] (fun s i => ∃ (j : Nat) (x : Int), j ≤ zs.length ∧ i = .int .i64 j ∧ s = .int .i64 x ∧ 0 ≤ x ∧ x ≤ 40 ∧ Hid (x = sum (zs.take j))) (fun _ i => zs.length - (intOf i).toNat)
      case atStart => exact ⟨0, 0, Nat.zero_le _, rfl, rfl, by omega, by omega, by simp [Hid, sum]⟩
      case round =>
        obtain ⟨j, x, hj, rfl, rfl, hx0, hx1, HX⟩ := hrel
        by_cases hjl : j < zs.length
        · obtain ⟨b, off, z, rfl, HZ, hz1, hz2, hc⟩ := hs.elem hjl
          have hz0 : 1 ≤ z := h1.out z (by rw [HZ.out]; exact getD_mem hjl)
          have hnx : Hid (sum (zs.take (j + 1)) = x + z) := by
            show _ = _
            rw [take_snoc zs j hjl, sum_append, ← HX.out, ← HZ.out]; simp [sum]
          have hle := sum_take_le h0.out (j + 1)
          by_cases h40 : 40 < z
          · go_wp2
            go_ret
            exact ⟨ret_i64 (by rw [hchk.out, if_neg (by have := hnx.out; omega)]), _, by first | exact rfl | exact drewN_two _ _ _⟩
          · have hd4 : decide (40 < z) = false := by simp; omega
            by_cases h41 : 40 < x + z
            · go_wp2
              go_ret
              exact ⟨ret_i64 (by rw [hchk.out, if_neg (by have := hnx.out; omega)]), _, by first | exact rfl | exact drewN_two _ _ _⟩
            · have hd5 : decide (40 < x + z) = false := by simp; omega
              go_wp2
              go_round
              case rel => exact ⟨j + 1, x + z, by omega, by go_num, by go_num, by omega, by omega, hnx.out.symm⟩
              case measure => simp [intOf]; omega
        · have hd6 : decide ((j : Int) < (zs.length : Int)) = false := by simp; omega
          go_wp2
          go_ret
          refine ⟨ret_i64 ?_, _, by first | exact rfl | exact drewN_two _ _ _⟩
          have : x = sum zs := by rw [HX.out, List.take_of_length_le (by omega)]
          rw [hchk.out, if_pos (by omega)]

theorem Part_is {c : Int} (a : Option Addr) (cap : Nat) (zs : List Int) (w : World) (hs : Shows w a zs) (E : Hid (chk zs = c)) :
    Calls Try.prog 8 #[.slice a zs.length cap] w fun e w' => e = .returned (.int .i64 c) ∧ ∃ n, w' = w.drewN n := by
  have := Part_any a cap zs w hs; rw [E.out] at this; exact this

set_option maxHeartbeats 1000000 in
/-- 'list' where an error is wanted, and nothing. -/
theorem list_err (a b : Option Addr) (ca cb n : Nat) (w : World) (c : Int) (hc : (c != 0) = true) :
    Calls Try.prog 14 #[.slice a 0 ca, .int .i64 c, .slice b n cb, .int .i64 c] w fun e w' => e = .returned (.bool true) ∧ ∃ n, w' = w.drewN n := by
  go_enter Try.func14, Try.ntmps14
  go_wp2
  go_ret
  exact ⟨rfl, 0, rfl⟩
set_option maxHeartbeats 1000000 in
/-- 'list' of two that are the same. -/
theorem list_ok (a b : Option Addr) (ca cb n m : Nat) (w : World) (zs : List Int) (hs : Shows w a zs) (ht : Shows w b zs) (hn : Hid (n = zs.length)) (hm : Hid (m = zs.length)) :
    Calls Try.prog 14 #[.slice a n ca, .int .i64 0, .slice b m cb, .int .i64 0] w fun e w' => e = .returned (.bool true) ∧ ∃ n, w' = w.drewN n := by
  go_enter Try.func14, Try.ntmps14
  go_wp2_with (go_at_call 27; refine (Same_at _ _ _ _ _ _ zs zs _ hs ht hn.out hm.out true (by simp)).mono ?_; rintro e w1 ⟨rfl, hd⟩)
  go_ret
  exact ⟨rfl, hd⟩

#print axioms Part_any
#print axioms list_ok
end Go.Proofs.Ytnjbkiegeielhaa
