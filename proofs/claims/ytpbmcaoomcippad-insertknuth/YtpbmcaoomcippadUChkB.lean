/-
  The contract of fill.Check.
-/
import Derived.Test.YtpbmcaoomcippadUChk
namespace Go.Proofs.Ytpbmcaoomcippad
open Go.RowKit

theorem Table.drewN {w : World} {a : Option Addr} {ls : List (List Int)} (h : Table w a ls) (n : Nat) : Table (w.drewN n) a ls := h.below (below_drewN (Below.refl _ _) n)
theorem Shows.drewN {w : World} {a : Option Addr} {zs : List Int} (h : Shows w a zs) (n : Nat) : Shows (w.drewN n) a zs := h.below (below_drewN (Below.refl _ _) n)

/-- Row k of a table: its cell, and what it shows. -/
theorem Table.elem {w : World} {a : Option Addr} {ls : List (List Int)} (h : Table w a ls) {k : Nat} (hk : k < ls.length) :
    ∃ b off ai m ci, a = some ⟨b, off, none⟩ ∧ w.cell? ⟨b, off + k, none⟩ = some (.slice ai m ci) ∧ Hid (m = (row ls k).length) ∧ Hid (Shows w ai (row ls k)) ∧ Hid (ai = none → row ls k = [] ∧ ci = 0) ∧ m ≤ 17592186044416 := by
  obtain ⟨b, off, ai, ci, h1, _, h3, h4, h5⟩ := h k hk
  exact ⟨b, off, ai, _, ci, h1, h3, rfl, h4, h5, h4.len⟩

/-- Row k, in this world and in all that follow. -/
theorem Table.elemB {w : World} {a : Option Addr} {ls : List (List Int)} (h : Table w a ls) {k : Nat} (hk : k < ls.length) :
    ∃ b off ai m ci, a = some ⟨b, off, none⟩ ∧ Hid (∀ w', Below w.heap.size w w' → w'.cell? ⟨b, off + k, none⟩ = some (.slice ai m ci)) ∧ Hid (m = (row ls k).length) ∧ Hid (Shows w ai (row ls k)) ∧ Hid (ai = none → row ls k = [] ∧ ci = 0) ∧ m ≤ 17592186044416 := by
  obtain ⟨b, off, ai, ci, h1, h2, h3, h4, h5⟩ := h k hk
  exact ⟨b, off, ai, _, ci, h1, fun w' hb => (hb.cell (p := ⟨b, off + k, none⟩) h2).trans h3, rfl, h4, h5, h4.len⟩

set_option maxHeartbeats 4000000 in
theorem TCheck_any (a : Option Addr) (cap : Nat) (ls : List (List Int)) (w : World) (hs : Table w a ls) (hl : ls.length ≤ 17592186044416) :
    Calls Try.prog 79 #[.slice a ls.length cap] w fun e w' => e = .returned (.int .i64 (tchk ls)) ∧ ∃ n, w' = w.drewN n := by
  have HS : Hid (Table w a ls) := hs
  clear hs
  go_enter Try.func79, Try.ntmps79
  go_wp2
  go_loop [3, 11] (fun s i => ∃ (k x : Nat), k ≤ ls.length ∧ i = .int .i64 k ∧ s = .int .i64 x ∧ x ≤ 40 ∧ Hid (x = (ls.take k).flatten.length)) (fun _ i => ls.length - (intOf i).toNat)
  case atStart => exact ⟨0, 0, Nat.zero_le _, rfl, rfl, by omega, by simp [Hid]⟩
  case round =>
    obtain ⟨k, x, hk, rfl, rfl, hx, HX⟩ := hrel
    by_cases hlt : k < ls.length
    · have hlt' : (k : Int) < (ls.length : Int) := by omega
      obtain ⟨b, off, ai, m, ci, rfl, hc, HM, -, -, hmb⟩ := HS.out.elem hlt
      have HN : Hid (x + m = (ls.take (k + 1)).flatten.length) := by show _ = _; rw [flat_take ls k hlt, List.length_append, ← HX.out, ← HM.out]
      by_cases h40 : 40 < x + m
      · have HF : Hid (tchk ls = 2) := by
          show _ = _
          have := flat_take_le ls (k + 1)
          unfold tchk
          rw [if_pos (by have := HN.out; omega)]
        have hg : decide ((x : Int) + (m : Int) > 40) = true := by simp; omega
        go_wp2
        go_ret
        exact ⟨ret_int HF.out.symm, 0, rfl⟩
      · have hg : decide ((x : Int) + (m : Int) > 40) = false := by simp; omega
        go_wp2
        go_round
        case rel => exact ⟨k + 1, x + m, by omega, by go_num, by go_num, by omega, HN⟩
        case measure => simp [intOf]; omega
    · obtain rfl : k = ls.length := by omega
      have HC : Hid (tchk ls = if okTab ls = true then 0 else 1) := by
        show _ = _
        have := HX.out
        rw [List.take_length] at this
        unfold tchk; rw [if_neg (by omega)]
      have hkk : ¬ ((ls.length : Int) < (ls.length : Int)) := by omega
      clear HX hx
      go_wp2
      go_loopw [6, 24] (fun v i wr => ∃ (k : Nat) (aa : Option Addr) (m ca : Nat), k ≤ ls.length ∧ i = .int .i64 k ∧ v = .slice aa m ca ∧ m ≤ 17592186044416 ∧ Hid (m = (upOf ls k).length) ∧ Hid (Shows w aa (upOf ls k)) ∧ Hid (∀ i, i < k → rowB i (upOf ls i) (row ls i) = true) ∧ ∃ n, wr = w.drewN n) (fun _ i _ => ls.length - (intOf i).toNat)
      case atStart => exact ⟨0, none, 0, 0, Nat.zero_le _, rfl, rfl, by omega, rfl, ⟨by simp [upOf], by simp [upOf], fun h => absurd rfl h⟩, fun i hi => by omega, 0, rfl⟩
      case round =>
        obtain ⟨k, aa, m, ca, hk, rfl, rfl, hmb, HM, HU, HR, n, rfl⟩ := hrel
        by_cases hlt : k < ls.length
        · have hlt' : (k : Int) < (ls.length : Int) := by omega
          obtain ⟨b, off, ai, q, ci, rfl, hc, HQ, HSk, -, hqb⟩ := (HS.out.drewN n).elem hlt
          have HU' : Hid (Shows (w.drewN n) aa (upOf ls k)) := HU.out.drewN n
          have HNo : Hid (rowB k (upOf ls k) (row ls k) = false → tchk ls = 1) := fun h => by rw [HC.out, okTab_no hlt h]; rfl
          have HS2 : Hid (Shows w ai (row ls k)) := by
            have := HSk.out
            exact ⟨this.len, this.wf, fun hne => by
              obtain ⟨b', off', e1, e2, e3⟩ := this.cells hne
              exact ⟨b', off', e1, e2, e3⟩⟩
          by_cases h0 : q = 0
          · have HF : Hid (tchk ls = 1) := HNo.out (by unfold rowB; rw [← HQ.out, h0]; simp)
            subst h0
            go_wp2
            go_ret
            exact ⟨ret_int HF.out.symm, n, rfl⟩
          · have hq0 : ((q : Int) == 0) = false := by simp; omega
            have hq0' : 0 < q := by omega
            clear h0
            by_cases hlong : 0 < k ∧ m < q
            · have HF : Hid (tchk ls = 1) := HNo.out (by unfold rowB; rw [← HQ.out, ← HM.out, decide_eq_false (show ¬ k = 0 by omega), decide_eq_false (show ¬ q ≤ m by omega)]; simp)
              obtain ⟨hk0, hmq⟩ := hlong
              have g1 : decide ((k : Int) > 0) = true := by simp; omega
              have g2 : decide ((q : Int) > (m : Int)) = true := by simp; omega
              go_wp2
              go_ret
              exact ⟨ret_int HF.out.symm, n, rfl⟩
            · have HL : Hid (¬ (0 < k ∧ m < q)) := hlong
              have HB0 : Hid (rowB k (upOf ls k) (row ls k) = (risesB (row ls k) && underB (row ls k) (upOf ls k))) := by
                show _ = _
                unfold rowB
                rw [← HQ.out, ← HM.out, decide_eq_true hq0']
                have : (decide (k = 0) || decide (q ≤ m)) = true := by
                  simp only [Bool.or_eq_true, decide_eq_true_eq]; omega
                rw [this]; simp
              clear hlong
              by_cases hk0 : 0 < k
              all_goals
                have hqm : 0 < k → q ≤ m := fun h => by have := HL.out; omega
                try (have hqm1 : q ≤ m := hqm hk0)
                try (have hqm2 : (q : Int) ≤ (m : Int) := by omega)
                clear hqm
                cases er : risesB (row ls k) with
                | false =>
                  have ER : Hid (risesB (row ls k) = false) := er
                  have HF : Hid (tchk ls = 1) := HNo.out (by rw [HB0.out, er]; rfl)
                  clear er
                  go_wp2_with (go_at_call 93; refine (rises_is _ _ _ _ _ HSk.out HQ.out ER).mono ?_; rintro e w' ⟨rfl, rfl⟩)
                  go_ret
                  exact ⟨ret_int HF.out.symm, n, rfl⟩
                | true =>
                  have ER : Hid (risesB (row ls k) = true) := er
                  clear er
                  cases eu : underB (row ls k) (upOf ls k) with
                  | false =>
                    have EU : Hid (underB (row ls k) (upOf ls k) = false) := eu
                    have HF : Hid (tchk ls = 1) := HNo.out (by rw [HB0.out, eu]; simp)
                    clear eu
                    go_wp2_with (first | (go_at_call 93; refine (rises_is _ _ _ _ _ HSk.out HQ.out ER).mono ?_; rintro e w' ⟨rfl, rfl⟩) | (go_at_call 94; refine (liesUnder_is _ _ _ _ _ _ _ _ _ HSk.out HU'.out HQ.out HM.out EU).mono ?_; rintro e w' ⟨rfl, n2, rfl⟩))
                    go_ret
                    exact ⟨ret_int HF.out.symm, _, rfl⟩
                  | true =>
                    have EU : Hid (underB (row ls k) (upOf ls k) = true) := eu
                    have HT : Hid (rowB k (upOf ls k) (row ls k) = true) := by show _ = _; rw [HB0.out, ER.out, eu]; rfl
                    clear eu
                    go_wp2_with (first | (go_at_call 93; refine (rises_is _ _ _ _ _ HSk.out HQ.out ER).mono ?_; rintro e w' ⟨rfl, rfl⟩) | (go_at_call 94; refine (liesUnder_is _ _ _ _ _ _ _ _ _ HSk.out HU'.out HQ.out HM.out EU).mono ?_; rintro e w' ⟨rfl, n2, rfl⟩))
                    go_roundw
                    case rel => exact ⟨k + 1, ai, q, ci, by omega, by go_num, rfl, hqb, by show _ = _; rw [upOf_succ]; exact HQ.out, by show Shows _ _ _; rw [upOf_succ]; exact HS2.out, fun i hi => by
                                  rcases Nat.lt_succ_iff_lt_or_eq.1 hi with h | h
                                  · exact HR.out i h
                                  · subst h; exact HT.out, _, rfl⟩
                    case measure => simp [intOf]; omega
        · obtain rfl : k = ls.length := by omega
          have HT : Hid (tchk ls = 0) := by show _ = _; rw [HC.out, if_pos (okTab_yes HR.out)]
          go_wp2
          go_ret
          exact ⟨ret_int HT.out.symm, n, rfl⟩

theorem TCheck_is {c : Int} (a : Option Addr) (n cap : Nat) (ls : List (List Int)) (w : World) (hs : Table w a ls) (hl : ls.length ≤ 17592186044416) (hn : n = ls.length) (E : Hid (tchk ls = c)) :
    Calls Try.prog 79 #[.slice a n cap] w fun e w' => e = .returned (.int .i64 c) ∧ ∃ n, w' = w.drewN n := by
  subst hn; have := TCheck_any a cap ls w hs hl; rw [E.out] at this; exact this

end Go.Proofs.Ytpbmcaoomcippad
