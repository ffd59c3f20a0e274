/-
  The contracts of ferlaw.Same[string], ferlaw.table.
-/
import Derived.Test.YtniedfecmakhpaaDoorEEdg
namespace Go.Proofs.YtniedfecmakhpaaDoor
open Go.RowKit

theorem STx.use {w : World} {lo : Nat} {v : Value} {n : Nat} {f : Nat → ByteArray} (h : STx w lo v n f) (h1 : 1 ≤ n) : ∃ g cap, v = .slice (some ⟨g, 0, none⟩) n cap ∧ Hid (∀ W, Below w.heap.size w W → ∀ i, i < n → W.cell? ⟨g, i, none⟩ = some (.string (f i))) := by
  have h0 : w.ownsRow lo 9 1 v n ((List.range n).map fun i => Value.string (f i)) := by
    have h2 : w.ownsRow lo 9 1 v ((List.range n).map fun i => Value.string (f i)).length ((List.range n).map fun i => Value.string (f i)) := h
    simpa using h2
  rcases h0.2 with ⟨hv, hn⟩ | ⟨g, cap, cur, hv, hg, hh, _⟩
  · omega
  · rw [hv] at h0
    refine ⟨g, cap, hv, fun W hW i hi => ?_⟩
    have hlt : g < w.heap.size := (h0.lt g rfl).2
    rw [hW.cell (p := ⟨g, i, none⟩) hlt, World.ownsRow.cellAt h0 i (by omega)]
    simp [hi]

set_option maxHeartbeats 1000000 in
theorem SameS_at (X g n ca cb : Nat) (f : Nat → ByteArray) (w : World) (h1 : ∀ i, i < n → w.cell? ⟨X, i, none⟩ = some (.string (f i))) (h2 : ∀ i, i < n → w.cell? ⟨g, i, none⟩ = some (.string (f i))) (hn : n ≤ 1000) :
    Calls Tryd.prog 13 #[.slice (some ⟨X, 0, none⟩) n ca, .slice (some ⟨g, 0, none⟩) n cb] w fun e w' => e = .returned (.bool true) ∧ ∃ m, w' = w.drewN m := by
  have H1 : Hid (∀ i, i < n → w.cell? ⟨X, i, none⟩ = some (.string (f i))) := h1
  have H2 : Hid (∀ i, i < n → w.cell? ⟨g, i, none⟩ = some (.string (f i))) := h2
  clear h1 h2
  go_enter Tryd.func13, Tryd.ntmps13
  go_wp2
  go_loopw [13] (fun q wr => ∃ i : Nat, i ≤ n ∧ q = .int .i64 i ∧ Hid (∃ m, wr = w.drewN m)) (fun q _ => n - (intOf q).toNat)
  case atStart => exact ⟨0, Nat.zero_le _, rfl, 0, rfl⟩
  case round =>
    obtain ⟨i, hi, rfl, HD⟩ := hrel
    by_cases hil : i < n
    · have hil' : (i : Int) < (n : Int) := by omega
      obtain ⟨s, HSs⟩ : ∃ s, Hid (s = f i) := ⟨_, rfl⟩
      have c1 : wr.cell? ⟨X, i, none⟩ = some (.string s) := by obtain ⟨m, rfl⟩ := HD.out; rw [HSs.out]; exact H1.out i hil
      have c2 : wr.cell? ⟨g, i, none⟩ = some (.string s) := by obtain ⟨m, rfl⟩ := HD.out; rw [HSs.out]; exact H2.out i hil
      go_wp2_with fail
      go_quiet (fail)
      go_wp2
      go_roundw
      case rel => exact ⟨i + 1, by omega, by go_num, by obtain ⟨m, hm⟩ := HD.out; exact ⟨_, by rw [hm]; exact drewN_two _ _ _⟩⟩
      case measure => simp [intOf]; omega
    · obtain rfl : i = n := by omega
      go_wp2
      go_ret
      exact ⟨rfl, HD.out⟩

set_option maxHeartbeats 1000000 in
theorem tabd_err (a b : Option Addr) (ca cb n : Nat) (w : World) (c : Int) (hc : (c != 0) = true) :
    Calls Tryd.prog 10 #[.slice a 0 ca, .int .i64 c, .slice b n cb, .int .i64 c] w fun e w' => e = .returned (.bool true) ∧ ∃ n, w' = w.drewN n := by
  go_enter Tryd.func10, Tryd.ntmps10
  go_wp2
  go_ret
  exact ⟨rfl, 0, rfl⟩
set_option maxHeartbeats 1000000 in
theorem tabd_ok (a b : Option Addr) (ca cb n m : Nat) (w : World) (ls : List (List Int)) (hs : Table w a ls) (ht : Table w b ls) (hn : Hid (n = ls.length)) (hm : Hid (m = ls.length)) (hl : ls.length ≤ 17592186044416) :
    Calls Tryd.prog 10 #[.slice a n ca, .int .i64 0, .slice b m cb, .int .i64 0] w fun e w' => e = .returned (.bool true) ∧ ∃ n, w' = w.drewN n := by
  go_enter Tryd.func10, Tryd.ntmps10
  go_wp2_with (go_at_call 27; refine (RowsL_r _ _ _ _ _ _ ls _ hs ht hn.out hm.out hl).mono ?_; rintro e w1 ⟨rfl, hd⟩)
  go_ret
  exact ⟨rfl, hd⟩

end Go.Proofs.YtniedfecmakhpaaDoor
