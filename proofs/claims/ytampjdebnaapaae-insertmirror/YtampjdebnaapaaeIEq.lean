/-
  The contracts of ferlaw.Rows[int], ferlaw.table, ferlaw.list, over fewer texts.
-/
import Derived.Test.YtampjdebnaapaaeUChkB
namespace Go.Proofs.Ytampjdebnaapaae
open Go.RowKit

set_option maxHeartbeats 2000000 in
theorem RowsL_i (a b : Option Addr) (ca cb n m : Nat) (ls : List (List Int)) (w : World) (hs : Table w a ls) (ht : Table w b ls) (hn : n = ls.length) (hm : m = ls.length) (hl : ls.length ≤ 17592186044416) :
    Calls Try.prog 10 #[.slice a n ca, .slice b m cb] w fun e w' => e = .returned (.bool true) ∧ ∃ n, w' = w.drewN n := by
  subst hn; subst hm
  have HS : Hid (Table w a ls) := hs
  have HT : Hid (Table w b ls) := ht
  clear hs ht
  go_enter Try.func10, Try.ntmps10
  go_wp2
  go_loopw [13] (fun i wr => ∃ k : Nat, k ≤ ls.length ∧ i = .int .i64 k ∧ Hid (∃ n, wr = w.drewN n)) (fun i _ => ls.length - (intOf i).toNat)
  case atStart => exact ⟨0, Nat.zero_le _, rfl, 0, rfl⟩
  case round =>
    obtain ⟨k, hk, rfl, HD⟩ := hrel
    have HBw : Hid (Below w.heap.size w wr) := by obtain ⟨n, hn⟩ := HD.out; rw [hn]; exact below_drewN (Below.refl _ w) n
    by_cases hlt : k < ls.length
    · have hlt' : (k : Int) < (ls.length : Int) := by omega
      obtain ⟨b1, off1, a1, m1, c1, rfl, hc1, HM1, HS1, -, -⟩ := (HS.out.below HBw.out).elem hlt
      obtain ⟨b2, off2, a2, m2, c2, rfl, hc2, HM2, HS2, -, -⟩ := (HT.out.below HBw.out).elem hlt
      go_wp2_with fail
      go_quiet ((go_at_call 18; exact Calls.quiet_of (Same_at _ _ _ _ _ _ (row ls k) (row ls k) _ (HS1.out.drewN _) (HS2.out.drewN _) HM1.out HM2.out true (by simp))))
      go_wp2
      go_roundw
      case rel => exact ⟨k + 1, by omega, by go_num, by obtain ⟨n, hn⟩ := HD.out; exact ⟨_, by rw [hn]; exact drewN_two _ _ _⟩⟩
      case measure => simp [intOf]; omega
    · obtain rfl : k = ls.length := by omega
      go_wp2
      go_ret
      exact ⟨rfl, HD.out⟩

end Go.Proofs.Ytampjdebnaapaae
