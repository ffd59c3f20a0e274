/-
  The contracts of fill.rises, fill.liesUnder, fill.Check.
-/
import Derived.Test.YtpbmcaoomcippadLMath
import Derived.Test.YtpbmcaoomcippadFJoi
namespace Go.Proofs.Ytpbmcaoomcippad
open Go.RowKit

theorem risesB_no {zs : List Int} {k : Nat} (hk : k < zs.length) (h : zs.getD k 0 < 1 ∨ 99 < zs.getD k 0 ∨ 0 < k ∧ zs.getD k 0 < zs.getD (k - 1) 0) : risesB zs = false := by
  cases e : risesB zs with
  | false => rfl
  | true =>
    obtain ⟨h1, h2, h3⟩ := risesB_iff.1 e k hk
    rcases h with h | h | ⟨h0, h⟩
    · omega
    · omega
    · have := h3 h0; omega

set_option maxHeartbeats 2000000 in
theorem rises_any (a : Option Addr) (cap : Nat) (zs : List Int) (w : World) (hs : Shows w a zs) :
    Calls Try.prog 93 #[.slice a zs.length cap] w fun e w' => e = .returned (.bool (risesB zs)) ∧ w' = w := by
  have hl := hs.len
  go_enter Try.func93, Try.ntmps93
  go_wp2
  go_loop [3, 8] (fun s i => ∃ (k : Nat) (y : Int), k ≤ zs.length ∧ i = .int .i64 k ∧ s = .int .i64 y ∧ 1 ≤ y ∧ y ≤ 99 ∧ Hid (0 < k → y = zs.getD (k - 1) 0) ∧ Hid (k = 0 → y = 1) ∧ Hid (∀ j, j < k → 1 ≤ zs.getD j 0 ∧ zs.getD j 0 ≤ 99 ∧ (0 < j → zs.getD (j - 1) 0 ≤ zs.getD j 0))) (fun _ i => zs.length - (intOf i).toNat)
  case atStart => exact ⟨0, 1, Nat.zero_le _, rfl, rfl, by omega, by omega, fun h => by omega, fun _ => rfl, fun j hj => by omega⟩
  case round =>
    obtain ⟨k, y, hk, rfl, rfl, hy1, hy2, HY, HY0, HR⟩ := hrel
    by_cases hlt : k < zs.length
    · obtain ⟨b, off, z, rfl, HZ, hz1, hz2, hc⟩ := hs.elem hlt
      by_cases h1 : z < y
      · have HF : Hid (risesB zs = false) := by
          refine risesB_no hlt ?_
          rw [← HZ.out]
          rcases Nat.eq_zero_or_pos k with h0 | h0
          · left; have := HY0.out h0; omega
          · right; right; have := HY.out h0; omega
        go_wp2
        go_ret
        exact ⟨ret_bool HF.out.symm, rfl⟩
      · by_cases h2 : 99 < z
        · have HF : Hid (risesB zs = false) := by
            refine risesB_no hlt ?_
            rw [← HZ.out]; right; left; exact h2
          go_wp2
          go_ret
          exact ⟨ret_bool HF.out.symm, rfl⟩
        · go_wp2
          go_round
          case rel => exact ⟨k + 1, z, by omega, by go_num, rfl, by omega, by omega, fun _ => HZ.out, fun h => by omega, fun j hj => by
                        by_cases hj' : j < k
                        · exact HR.out j hj'
                        · obtain rfl : j = k := by omega
                          rw [← HZ.out]
                          exact ⟨by omega, by omega, fun h0 => by have := HY.out h0; omega⟩⟩
          case measure => simp [intOf]; omega
    · obtain rfl : k = zs.length := by omega
      have HT : Hid (risesB zs = true) := risesB_iff.2 HR.out
      go_wp2
      go_ret
      exact ⟨ret_bool HT.out.symm, rfl⟩

theorem rises_is {t : Bool} (a : Option Addr) (n cap : Nat) (zs : List Int) (w : World) (hs : Shows w a zs) (hn : n = zs.length) (E : Hid (risesB zs = t)) :
    Calls Try.prog 93 #[.slice a n cap] w fun e w' => e = .returned (.bool t) ∧ w' = w := by
  subst hn; have := rises_any a cap zs w hs; rw [E.out] at this; exact this

theorem underB_no {zs ys : List Int} {k : Nat} (hk : k < zs.length) (hk2 : k < ys.length) (h : zs.getD k 0 ≤ ys.getD k 0) : underB zs ys = false := by
  cases e : underB zs ys with
  | false => rfl
  | true => have := underB_iff.1 e k hk hk2; omega

set_option maxHeartbeats 2000000 in
theorem liesUnder_any (a b : Option Addr) (ca cb : Nat) (zs ys : List Int) (w : World) (hs : Shows w a zs) (ht : Shows w b ys) :
    Calls Try.prog 94 #[.slice a zs.length ca, .slice b ys.length cb] w fun e w' => e = .returned (.bool (underB zs ys)) ∧ ∃ n, w' = w.drewN n := by
  have hl := hs.len
  have hl2 := ht.len
  obtain ⟨m, hm⟩ : ∃ m, m = min zs.length ys.length := ⟨_, rfl⟩
  have hm1 : m ≤ zs.length := by omega
  have hm2 : m ≤ ys.length := by omega
  have HM : Hid (m = min zs.length ys.length) := hm
  have hmin : (if (ys.length : Int) < (zs.length : Int) then (ys.length : Int) else (zs.length : Int)) = (m : Int) := by split <;> omega
  clear hm
  by_cases hc : (ys.length : Int) < (zs.length : Int)
  all_goals
    go_enter Try.func94, Try.ntmps94
    go_wp2
    go_loopw [11] (fun i wr => ∃ k : Nat, k ≤ m ∧ i = .int .i64 k ∧ Hid (∀ i, i < k → ys.getD i 0 < zs.getD i 0) ∧ ∃ n, wr = w.drewN n) (fun i _ => m - (intOf i).toNat)
    case atStart => exact ⟨0, Nat.zero_le _, rfl, fun j hj => by omega, 0, rfl⟩
    case round =>
      obtain ⟨k, hk, rfl, HR, n, rfl⟩ := hrel
      by_cases hlt : k < m
      · have hlt1 : k < zs.length := by omega
        have hlt2 : k < ys.length := by omega
        have hlt1' : (k : Int) < (zs.length : Int) := by omega
        have hlt2' : (k : Int) < (ys.length : Int) := by omega
        obtain ⟨b1, off, z, rfl, HZ, hz1, hz2, hcz⟩ := hs.elem hlt1
        obtain ⟨b2, off2, y, rfl, HY, hy1, hy2, hcy⟩ := ht.elem hlt2
        by_cases he : z ≤ y
        · have HF : Hid (underB zs ys = false) := underB_no hlt1 hlt2 (by rw [← HZ.out, ← HY.out]; exact he)
          go_wp2_with fail
          go_quiet (fail)
          go_wp2
          go_ret
          exact ⟨ret_bool HF.out.symm, _, by first | exact rfl | exact drewN_two _ _ _⟩
        · go_wp2_with fail
          go_quiet (fail)
          go_wp2
          go_roundw
          case rel => exact ⟨k + 1, by omega, by go_num, fun j hj => by
                        by_cases hj' : j < k
                        · exact HR.out j hj'
                        · obtain rfl : j = k := by omega
                          rw [← HZ.out, ← HY.out]; omega, _, by first | exact rfl | exact drewN_two _ _ _⟩
          case measure => simp [intOf]; omega
      · obtain rfl : k = m := by omega
        have HT : Hid (underB zs ys = true) := underB_iff.2 (fun j h1 h2 => HR.out j (by have := HM.out; omega))
        have he1 : decide ((k : Int) < (ys.length : Int)) = decide (¬ (ys.length : Int) ≤ k) := by simp
        have hcut : ¬ ((k : Int) < (ys.length : Int) ∧ (k : Int) < (zs.length : Int)) := by have := HM.out; omega
        first
          | (have hx : ¬ (k : Int) < (ys.length : Int) := by have := HM.out; omega
             go_wp2
             go_ret
             exact ⟨ret_bool HT.out.symm, _, rfl⟩)
          | (have hx : ¬ (k : Int) < (zs.length : Int) := by have := HM.out; omega
             go_wp2
             go_ret
             exact ⟨ret_bool HT.out.symm, _, rfl⟩)

theorem liesUnder_is {t : Bool} (a b : Option Addr) (n m ca cb : Nat) (zs ys : List Int) (w : World) (hs : Shows w a zs) (ht : Shows w b ys) (hn : n = zs.length) (hm : m = ys.length) (E : Hid (underB zs ys = t)) :
    Calls Try.prog 94 #[.slice a n ca, .slice b m cb] w fun e w' => e = .returned (.bool t) ∧ ∃ n, w' = w.drewN n := by
  subst hn; subst hm; have := liesUnder_any a b ca cb zs ys w hs ht; rw [E.out] at this; exact this

end Go.Proofs.Ytpbmcaoomcippad
