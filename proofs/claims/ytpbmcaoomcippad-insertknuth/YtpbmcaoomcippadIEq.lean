/-
  The contracts of ferlaw.Rows[int], ferlaw.table, ferlaw.list, over fewer texts.
-/
import Derived.Test.YtpbmcaoomcippadUChkB
namespace Go.Proofs.Ytpbmcaoomcippad
open Go.RowKit

set_option maxHeartbeats 2000000 in
theorem RowsL_i (a b : Option Addr) (ca cb n m : Nat) (ls : List (List Int)) (w : World) (hs : Table w a ls) (ht : Table w b ls) (hn : n = ls.length) (hm : m = ls.length) (hl : ls.length ≤ 17592186044416) :
    Calls Try.prog 26 #[.slice a n ca, .slice b m cb] w fun e w' => e = .returned (.bool true) ∧ ∃ n, w' = w.drewN n := by
  subst hn; subst hm
  have HS : Hid (Table w a ls) := hs
  have HT : Hid (Table w b ls) := ht
  clear hs ht
  go_enter Try.func26, Try.ntmps26
  go_wp2
  go_loopw [13] (fun i wr => ∃ k : Nat, k ≤ ls.length ∧ i = .int .i64 k ∧ Hid (∃ n, wr = w.drewN n)) (fun i _ => ls.length - (intOf i).toNat)
  case atStart => exact ⟨0, Nat.zero_le _, rfl, 0, rfl⟩
  case round =>
    obtain ⟨k, hk, rfl, HD⟩ := hrel
    have HBw : Hid (Below w.heap.size w wr) := by obtain ⟨n, hn⟩ := HD.out; rw [hn]; exact below_drewN (Below.refl _ w) n
    by_cases hlt : k < ls.length
    · have hlt' : (k : Int) < (ls.length : Int) := by omega
      obtain ⟨b1, off1, a1, m1, c1, rfl, hc1, HM1, HS1, -, -⟩ := (HS.out.below HBw.out).elem hlt
      obtain ⟨b2, off2, a2, m2, c2, rfl, hc2, HM2, HS2, -, -⟩ := (HT.out.below HBw.out).elem hlt
      go_wp2_with fail
      go_quiet ((go_at_call 28; exact Calls.quiet_of (Same_at _ _ _ _ _ _ (row ls k) (row ls k) _ (HS1.out.drewN _) (HS2.out.drewN _) HM1.out HM2.out true (by simp))))
      go_wp2
      go_roundw
      case rel => exact ⟨k + 1, by omega, by go_num, by obtain ⟨n, hn⟩ := HD.out; exact ⟨_, by rw [hn]; exact drewN_two _ _ _⟩⟩
      case measure => simp [intOf]; omega
    · obtain rfl : k = ls.length := by omega
      go_wp2
      go_ret
      exact ⟨rfl, HD.out⟩

set_option maxHeartbeats 1000000 in
theorem tabi_err (a b : Option Addr) (ca cb n : Nat) (w : World) (c : Int) (hc : (c != 0) = true) :
    Calls Try.prog 13 #[.slice a 0 ca, .int .i64 c, .slice b n cb, .int .i64 c] w fun e w' => e = .returned (.bool true) ∧ ∃ n, w' = w.drewN n := by
  go_enter Try.func13, Try.ntmps13
  go_wp2
  go_ret
  exact ⟨rfl, 0, rfl⟩
set_option maxHeartbeats 1000000 in
theorem tabi_ok (a b : Option Addr) (ca cb n m : Nat) (w : World) (ls : List (List Int)) (hs : Table w a ls) (ht : Table w b ls) (hn : Hid (n = ls.length)) (hm : Hid (m = ls.length)) (hl : ls.length ≤ 17592186044416) :
    Calls Try.prog 13 #[.slice a n ca, .int .i64 0, .slice b m cb, .int .i64 0] w fun e w' => e = .returned (.bool true) ∧ ∃ n, w' = w.drewN n := by
  go_enter Try.func13, Try.ntmps13
  go_wp2_with (go_at_call 26; refine (RowsL_i _ _ _ _ _ _ ls _ hs ht hn.out hm.out hl).mono ?_; rintro e w1 ⟨rfl, hd⟩)
  go_ret
  exact ⟨rfl, hd⟩

set_option maxHeartbeats 1000000 in
theorem listi_err (a b : Option Addr) (ca cb n : Nat) (w : World) (c : Int) (hc : (c != 0) = true) :
    Calls Try.prog 18 #[.slice a 0 ca, .int .i64 c, .slice b n cb, .int .i64 c] w fun e w' => e = .returned (.bool true) ∧ ∃ n, w' = w.drewN n := by
  go_enter Try.func18, Try.ntmps18
  go_wp2
  go_ret
  exact ⟨rfl, 0, rfl⟩
set_option maxHeartbeats 1000000 in
theorem listi_ok (a b : Option Addr) (ca cb n m : Nat) (w : World) (zs : List Int) (hs : Shows w a zs) (ht : Shows w b zs) (hn : Hid (n = zs.length)) (hm : Hid (m = zs.length)) :
    Calls Try.prog 18 #[.slice a n ca, .int .i64 0, .slice b m cb, .int .i64 0] w fun e w' => e = .returned (.bool true) ∧ ∃ n, w' = w.drewN n := by
  go_enter Try.func18, Try.ntmps18
  go_wp2_with (go_at_call 28; refine (Same_at _ _ _ _ _ _ zs zs _ hs ht hn.out hm.out true (by simp)).mono ?_; rintro e w1 ⟨rfl, hd⟩)
  go_ret
  exact ⟨rfl, hd⟩

end Go.Proofs.Ytpbmcaoomcippad
