/-
  domino.isOf: is each byte of a row one of the letters?
-/
import Derived.Test.YtcnmndbckjmliaaDoorNShf
import Derived.Test.YtcnmndbckjmliaaDoorNPr
namespace Go.Proofs.YtcnmndbckjmliaaDoor
open Go.RowKit

theorem drop_byteN (s : ByteArray) (k : Nat) (h : k < s.size) : s.data.toList.drop k = s[k] :: s.data.toList.drop (k + 1) := by
  rw [List.drop_eq_getElem_cons (by simpa using h)]; rfl
/-- All bytes are letters. -/
def isL (lt s : List UInt8) : Bool := s.all fun b => decide (b ∈ lt)
theorem isL_iff {lt s : List UInt8} : isL lt s = true ↔ ∀ b ∈ s, b ∈ lt := by simp [isL]
theorem isL_cons (lt : List UInt8) (b : UInt8) (s : List UInt8) : isL lt (b :: s) = (decide (b ∈ lt) && isL lt s) := rfl

set_option maxHeartbeats 4000000 in
set_option maxRecDepth 100000 in
theorem isOf_at (s lt : ByteArray) (B : Bool) (hs : s.size ≤ 4000000000) (hB : isL lt.data.toList s.data.toList = B) (w : World) :
    Calls Tryd.prog 68 #[.string s, .string lt] w fun e w' => e = .returned (.bool B) ∧ w' = w := by
  have HBb : Hid (isL lt.data.toList (s.data.toList.drop 0) = B) := hB
  clear hB
  go_enter Tryd.func68, Tryd.ntmps68
  go_wp2_with fail
  go_loopw [8] (fun i wr => ∃ k : Nat, k ≤ s.size ∧ i = .int .i64 (k : Int) ∧ Hid (isL lt.data.toList (s.data.toList.drop k) = B) ∧ wr = w) (fun i _ => s.size - (intOf i).toNat)
  case atStart => exact ⟨0, Nat.zero_le _, rfl, HBb, rfl⟩
  case round =>
    obtain ⟨k, hk, rfl, HR, rfl⟩ := hrel
    by_cases hlt : k < s.size
    · have hlt' : (k : Int) < (s.size : Int) := by omega
      have HD : Hid (s.data.toList.drop k = s[k] :: s.data.toList.drop (k + 1)) := drop_byteN s k hlt
      obtain ⟨c, hcc⟩ : ∃ c, c = s[k] := ⟨_, rfl⟩
      obtain ⟨x, HX⟩ : ∃ x, Hid (x = c.toNat) := ⟨_, rfl⟩
      obtain ⟨st, HS⟩ : ∃ st, Hid (st = Lib.indexByte lt.data.toList c) := ⟨_, rfl⟩
      have hs0 : s[k].toNat = x := by rw [HX.out, hcc]
      have hcb : x < 256 := by rw [HX.out]; exact c.toNat_lt
      have HC := hid_w (IndexB_z lt c wr)
      rw [← HX.out, ← HS.out] at HC
      have HR2 : Hid ((decide (c ∈ lt.data.toList) && isL lt.data.toList (s.data.toList.drop (k + 1))) = B) := by
        show _ = _
        rw [← HR.out, HD.out, isL_cons, ← hcc]
      clear hcc HD HR
      by_cases h0 : st < 0
      · have hE : B = false := by
          rw [← HR2.out, decide_eq_false (fun q => ?_)]; rfl
          have := (index_mem lt.data.toList c).2 q
          rw [← HS.out] at this; omega
        subst hE
        clear HS HX HR2
        go_wp2_with (go_at_call 29; with_reducible (refine HC.out.mono ?_); rintro e w' ⟨rfl, rfl⟩)
        go_ret
        exact ⟨rfl, rfl⟩
      · have HR3 : Hid (isL lt.data.toList (s.data.toList.drop (k + 1)) = B) := by
          show _ = _
          rw [← HR2.out, decide_eq_true ((index_mem lt.data.toList c).1 (by rw [← HS.out]; omega))]; rfl
        clear HS HX HR2
        go_wp2_with (go_at_call 29; with_reducible (refine HC.out.mono ?_); rintro e w' ⟨rfl, rfl⟩)
        go_roundw
        case rel => exact ⟨k + 1, by omega, by go_num, HR3, trivial⟩
        case measure => simp [intOf]; omega
    · obtain rfl : k = s.size := by omega
      have hE : B = true := by rw [← HR.out, List.drop_of_length_le (by simp)]; rfl
      subst hE
      go_wp2
      go_ret
      exact ⟨rfl, rfl⟩

end Go.Proofs.YtcnmndbckjmliaaDoor
