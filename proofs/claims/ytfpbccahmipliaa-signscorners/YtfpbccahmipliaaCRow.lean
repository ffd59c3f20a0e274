/-
  The contract of ferlaw.Rows[int] (from IEq: for seats without tables of insert).
-/
import Derived.Test.YtfpbccahmipliaaTTab
namespace Go.Proofs.Ytfpbccahmipliaa
open Go.RowKit

theorem Shows.drewR {w : World} {a : Option Addr} {zs : List Int} (h : Shows w a zs) (n : Nat) : Shows (w.drewN n) a zs := h.below (below_drewN (Below.refl _ _) n)
theorem Table.elemR {w : World} {a : Option Addr} {ls : List (List Int)} (h : Table w a ls) {k : Nat} (hk : k < ls.length) :
    ∃ b off ai m ci, a = some ⟨b, off, none⟩ ∧ w.cell? ⟨b, off + k, none⟩ = some (.slice ai m ci) ∧ Hid (m = (ls.getD k []).length) ∧ Hid (Shows w ai (ls.getD k [])) ∧ Hid (ai = none → ls.getD k [] = [] ∧ ci = 0) ∧ m ≤ 17592186044416 := by
  obtain ⟨b, off, ai, ci, h1, _, h3, h4, h5⟩ := h k hk
  exact ⟨b, off, ai, _, ci, h1, h3, rfl, h4, h5, h4.len⟩

set_option maxHeartbeats 2000000 in
theorem RowsL_r (a b : Option Addr) (ca cb n m : Nat) (ls : List (List Int)) (w : World) (hs : Table w a ls) (ht : Table w b ls) (hn : n = ls.length) (hm : m = ls.length) (hl : ls.length ≤ 17592186044416) :
    Calls Try.prog 19 #[.slice a n ca, .slice b m cb] w fun e w' => e = .returned (.bool true) ∧ ∃ n, w' = w.drewN n := by
  subst hn; subst hm
  have HS : Hid (Table w a ls) := hs
  have HT : Hid (Table w b ls) := ht
  clear hs ht
  go_enter Try.func19, Try.ntmps19
  go_wp2
  go_loopw [13] (fun i wr => ∃ k : Nat, k ≤ ls.length ∧ i = .int .i64 k ∧ Hid (∃ n, wr = w.drewN n)) (fun i _ => ls.length - (intOf i).toNat)
  case atStart => exact ⟨0, Nat.zero_le _, rfl, 0, rfl⟩
  case round =>
    obtain ⟨k, hk, rfl, HD⟩ := hrel
    have HBw : Hid (Below w.heap.size w wr) := by obtain ⟨n, hn⟩ := HD.out; rw [hn]; exact below_drewN (Below.refl _ w) n
    by_cases hlt : k < ls.length
    · have hlt' : (k : Int) < (ls.length : Int) := by omega
      obtain ⟨b1, off1, a1, m1, c1, rfl, hc1, HM1, HS1, -, -⟩ := (HS.out.below HBw.out).elemR hlt
      obtain ⟨b2, off2, a2, m2, c2, rfl, hc2, HM2, HS2, -, -⟩ := (HT.out.below HBw.out).elemR hlt
      go_wp2_with fail
      go_quiet ((go_at_call 35; exact Calls.quiet_of (Same_at _ _ _ _ _ _ (ls.getD k []) (ls.getD k []) _ (HS1.out.drewR _) (HS2.out.drewR _) HM1.out HM2.out true (by simp))))
      go_wp2
      go_roundw
      case rel => exact ⟨k + 1, by omega, by go_num, by obtain ⟨n, hn⟩ := HD.out; exact ⟨_, by rw [hn]; exact drewN_two _ _ _⟩⟩
      case measure => simp [intOf]; omega
    · obtain rfl : k = ls.length := by omega
      go_wp2
      go_ret
      exact ⟨rfl, HD.out⟩

end Go.Proofs.Ytfpbccahmipliaa
