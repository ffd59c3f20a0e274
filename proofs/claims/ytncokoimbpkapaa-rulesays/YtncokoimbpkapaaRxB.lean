/-
  The contracts of ferlaw.ruled, ferref.enough and ferref.Rows.
-/
import Derived.Test.YtncokoimbpkapaaRxA
namespace Go.Proofs.Ytncokoimbpkapaa
open Go.RowKit

theorem any_take {ls : List (List Int)} {k : Nat} (f : List Int → Bool) (h : k < ls.length) : (ls.take (k + 1)).any f = ((ls.take k).any f || f (ls.getD k [])) := by
  rw [List.take_succ_eq_append_getElem h, List.any_append]
  simp [List.getD, h]
theorem firstBad_zero : ∀ (ls : List (List Int)), firstBad ls = 0 → ∀ z ∈ ls, ptC z = 0 := by
  intro ls
  induction ls with
  | nil => intro _ z hz; simp at hz
  | cons a r ih =>
    intro h z hz
    simp only [firstBad] at h
    by_cases ea : ptC a = 0
    · simp only [ea, ne_eq, not_true_eq_false, if_false] at h
      rcases List.mem_cons.1 hz with rfl | hz
      · exact ea
      · exact ih h z hz
    · rw [if_pos ea] at h; exact absurd h ea

set_option maxHeartbeats 4000000 in
theorem ruled_at (a : Option Addr) (n ca : Nat) (ls : List (List Int)) (w : World) (hs : Table w a ls) (hn : n = ls.length) (hl : ls.length ≤ 1000) :
    Calls Try.prog 6 #[.slice a n ca] w fun e w' => e = .returned (.int .i64 (chkL ls)) ∧ ∃ q, w' = w.drewN q := by
  subst hn
  have HS : Hid (Table w a ls) := hs
  obtain ⟨p, HPp⟩ : ∃ p, Hid (p = firstBad ls) := ⟨_, rfl⟩
  have HPS : Hid (Calls Try.prog 16 #[.slice a ls.length ca] w fun e w' => e = .returned (.int .i64 p) ∧ ∃ q, w' = w.drewN q) := by
    rw [HPp.out]; exact RParts_at a _ ca ls w hs rfl hl
  clear hs
  by_cases h0 : p = 0
  · subst h0
    have HZ : Hid (∀ z ∈ ls, ptC z = 0) := firstBad_zero ls HPp.out.symm
    go_enter Try.func6, Try.ntmps6
    go_wp2_with fail
    refine HPS.out.mono ?_
    rintro e w1 ⟨rfl, q1, hw1⟩
    subst hw1
    go_wp2
    go_loopw [3, 9] (fun ev iv wr => ∃ (k : Nat) (b : Bool) (v : Int), k ≤ ls.length ∧ iv = .int .i64 k ∧ ev = .int .i64 v ∧ Hid (v = if b then 2 else 0) ∧ Hid (b = (ls.take k).any fun z => decide (16 < (natL z).sum)) ∧ wr = w.drewN q1) (fun _ iv _ => ls.length - (intOf iv).toNat)
    case atStart => exact ⟨0, false, 0, Nat.zero_le _, rfl, rfl, rfl, by show _ = _; simp, rfl⟩
    case round =>
      obtain ⟨k, b, v, hk, rfl, rfl, HV, HBb, hwr⟩ := hrel
      subst hwr
      by_cases hlt : k < ls.length
      · have hlt' : (k : Int) < (ls.length : Int) := by omega
        have hat := any_take (fun z => decide (16 < (natL z).sum)) hlt
        cases b with
        | true =>
          obtain rfl : v = 2 := HV.out
          have HB2 : Hid (true = (ls.take (k + 1)).any fun z => decide (16 < (natL z).sum)) := by
            show _ = _
            rw [hat, ← HBb.out]; rfl
          clear hat
          go_wp2
          go_roundw
          case rel => exact ⟨k + 1, true, 2, by omega, by go_num, rfl, rfl, HB2, by first | rfl | trivial⟩
          case measure => simp [intOf]; omega
        | false =>
          obtain rfl : v = 0 := HV.out
          obtain ⟨b1, off, ai, ni, ci, rfl, hc, HNi, hsh, _, _⟩ := (HS.out.drewX q1).elemR hlt
          have hpz := pt_zero (HZ.out (ls.getD k []) (by simp [List.getD, hlt]))
          obtain ⟨l, HL⟩ : ∃ l, Hid (l = natL (ls.getD k [])) := ⟨_, rfl⟩
          have hcl : castL l = ls.getD k [] := by rw [HL.out]; exact natL_cast (fun x hx => by have := hpz.1 x hx; omega)
          obtain ⟨S, HSS⟩ : ∃ S, Hid (S = l.sum) := ⟨_, rfl⟩
          have hS40 : S ≤ 40 := by rw [HSS.out, HL.out]; exact hpz.2
          rw [← hcl] at hsh HNi
          have HSZ : Hid (Calls Try.prog 17 #[.slice ai ni ci] (w.drewN q1) fun e w' => e = .returned (.int .i64 (S : Int)) ∧ w' = w.drewN q1) := by
            rw [HSS.out]; exact RSize_at ai ni ci l _ hsh.out (by rw [HNi.out, castL_len]) (by rw [← HSS.out]; omega)
          have hfz : (decide (16 < (natL (ls.getD k [])).sum)) = decide (16 < S) := by rw [← HL.out, ← HSS.out]
          rw [← HBb.out, hfz] at hat
          clear hsh hcl hfz
          by_cases h16 : S ≤ 16
          · have h16' : ¬ ((S : Int) > 16) := by omega
            have d16 : decide ((S : Int) > 16) = false := decide_eq_false h16'
            have HB2 : Hid (false = (ls.take (k + 1)).any fun z => decide (16 < (natL z).sum)) := by
              show _ = _
              rw [hat]; simp; omega
            clear hat
            go_wp2_with fail
            refine HSZ.out.mono ?_
            rintro e w2 ⟨rfl, hw2⟩
            subst hw2
            go_wp2
            go_roundw
            case rel => exact ⟨k + 1, false, 0, by omega, by go_num, rfl, rfl, HB2, by first | rfl | trivial⟩
            case measure => simp [intOf]; omega
          · have h16' : (S : Int) > 16 := by omega
            have HB2 : Hid (true = (ls.take (k + 1)).any fun z => decide (16 < (natL z).sum)) := by
              show _ = _
              rw [hat]; simp; omega
            clear hat
            go_wp2_with fail
            refine HSZ.out.mono ?_
            rintro e w2 ⟨rfl, hw2⟩
            subst hw2
            go_wp2
            go_roundw
            case rel => exact ⟨k + 1, true, 2, by omega, by go_num, rfl, rfl, HB2, by first | rfl | trivial⟩
            case measure => simp [intOf]; omega
      · obtain rfl : k = ls.length := by omega
        have hlt' : ¬ ((ls.length : Int) < (ls.length : Int)) := by omega
        have HC : Hid (chkL ls = v) := by
          show _ = _
          unfold chkL bigB
          have := HBb.out
          rw [List.take_length] at this
          rw [← HPp.out, HV.out, this]
          simp
        go_wp2
        go_ret
        exact ⟨by rw [HC.out]; rfl, _, rfl⟩
  · have HC : Hid (chkL ls = p) := by
      show _ = _
      unfold chkL
      rw [← HPp.out, if_pos h0]
    have hb0 : (p == 0) = false := by simpa using h0
    have hb1 : decide (p = 0) = false := decide_eq_false h0
    go_enter Try.func6, Try.ntmps6
    go_wp2_with fail
    refine HPS.out.mono ?_
    rintro e w1 ⟨rfl, q1, hw1⟩
    subst hw1
    go_wp2
    go_loopw [3, 9] (fun ev iv wr => ∃ (k : Nat), k ≤ ls.length ∧ iv = .int .i64 k ∧ ev = .int .i64 p ∧ wr = w.drewN q1) (fun _ iv _ => ls.length - (intOf iv).toNat)
    case atStart => exact ⟨0, Nat.zero_le _, rfl, rfl, rfl⟩
    case round =>
      obtain ⟨k, hk, rfl, rfl, hwr⟩ := hrel
      subst hwr
      by_cases hlt : k < ls.length
      · have hlt' : (k : Int) < (ls.length : Int) := by omega
        go_wp2
        go_roundw
        case rel => exact ⟨k + 1, by omega, by go_num, rfl, by first | rfl | trivial⟩
        case measure => simp [intOf]; omega
      · obtain rfl : k = ls.length := by omega
        have hlt' : ¬ ((ls.length : Int) < (ls.length : Int)) := by omega
        go_wp2
        go_ret
        exact ⟨by rw [HC.out]; rfl, _, rfl⟩

end Go.Proofs.Ytncokoimbpkapaa
