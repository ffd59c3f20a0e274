/-
  ferlaw.Same of points.
-/
import Derived.Test.YtcnmndbckjmliaaDoorNPt
namespace Go.Proofs.YtcnmndbckjmliaaDoor
open Go.RowKit

set_option maxHeartbeats 1000000 in
theorem SamePt_at (a b : Option Addr) (n m ca cb : Nat) (ps : List (Int × Int)) (w : World) (h1 : PtI w a ps) (h2 : PtI w b ps) (hn : n = ps.length) (hm : m = ps.length) (hl : ps.length ≤ 1000) :
    Calls Tryd.prog 23 #[.slice a n ca, .slice b m cb] w fun e w' => e = .returned (.bool true) ∧ Hid (Below w.heap.size w w') := by
  subst hn
  subst hm
  have H1 : Hid (PtI w a ps) := h1
  have H2 : Hid (PtI w b ps) := h2
  obtain ⟨n, HN⟩ : ∃ n, Hid (n = ps.length) := ⟨_, rfl⟩
  rw [← HN.out] at hl ⊢
  clear h1 h2
  go_enter Tryd.func23, Tryd.ntmps23
  go_wp2
  go_loopw [13] (fun q wr => ∃ i : Nat, i ≤ n ∧ q = .int .i64 (i : Int) ∧ Hid (∃ m, wr = w.drewN m)) (fun q _ => n - (intOf q).toNat)
  case atStart => exact ⟨0, Nat.zero_le _, rfl, 0, rfl⟩
  case round =>
    obtain ⟨i, hi, rfl, HD⟩ := hrel
    have HBr : Hid (Below w.heap.size w wr) := by obtain ⟨n, hn⟩ := HD.out; rw [hn]; exact below_drewN (Below.refl _ _) n
    by_cases hil : i < n
    · have hil' : (i : Int) < (n : Int) := by omega
      obtain ⟨b1, o1, rfl, -, c1, c2⟩ := H1.out.below HBr.out i (by rw [← HN.out]; exact hil)
      obtain ⟨b2, o2, rfl, -, d1, d2⟩ := H2.out.below HBr.out i (by rw [← HN.out]; exact hil)
      go_wp2_with fail
      go_quiet (fail)
      go_wp2
      go_roundw
      case rel => exact ⟨i + 1, by omega, by go_num, by obtain ⟨m, hm⟩ := HD.out; exact ⟨_, by rw [hm]; exact drewN_two _ _ _⟩⟩
      case measure => simp [intOf]; omega
    · obtain rfl : i = n := by omega
      go_wp2
      go_ret
      exact ⟨rfl, HBr⟩

end Go.Proofs.YtcnmndbckjmliaaDoor
