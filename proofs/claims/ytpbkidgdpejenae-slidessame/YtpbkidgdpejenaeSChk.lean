/-
  The contract of slides.Check.
-/
import Derived.Test.YtpbkidgdpejenaeSHol
namespace Go.Proofs.Ytpbkidgdpejenae
open Go.RowKit

theorem upOf_pred (ls : List (List Int)) {k : Nat} (h : 0 < k) : upOf ls k = row ls (k - 1) := by unfold upOf; rw [if_neg (by omega)]

set_option maxHeartbeats 8000000 in
theorem SkCheck_any (a : Option Addr) (cap : Nat) (ls : List (List Int)) (w : World) (hs : TableX w a ls) (hl : ls.length ≤ 17592186044416) :
    Calls Try.prog 22 #[.slice a ls.length cap] w fun e w' => e = .returned (.int .i64 (schk ls)) ∧ ∃ n, w' = w.drewN n := by
  have HS : Hid (TableX w a ls) := hs
  clear hs
  go_enter Try.func22, Try.ntmps22
  go_wp2
  go_loop [3, 10] (fun s i => ∃ (k x : Nat), k ≤ ls.length ∧ i = .int .i64 k ∧ s = .int .i64 x ∧ x ≤ 40 ∧ Hid (x = (ls.take k).flatten.length)) (fun _ i => ls.length - (intOf i).toNat)
  case atStart => exact ⟨0, 0, Nat.zero_le _, rfl, rfl, by omega, by simp [Hid]⟩
  case round =>
    obtain ⟨k, x, hk, rfl, rfl, hx, HX⟩ := hrel
    by_cases hlt : k < ls.length
    · have hlt' : (k : Int) < (ls.length : Int) := by omega
      obtain ⟨b, off, ai, m, ci, rfl, hc, HM, -, -, hmb⟩ := HS.out.elem hlt
      have HN : Hid (x + m = (ls.take (k + 1)).flatten.length) := by show _ = _; rw [flat_take ls k hlt, List.length_append, ← HX.out, ← HM.out]
      by_cases h40 : 40 < x + m
      · have HF : Hid (schk ls = 2) := by
          show _ = _
          have := flat_take_le ls (k + 1)
          unfold schk
          rw [if_pos (by have := HN.out; omega)]
        have hg : decide ((x : Int) + (m : Int) > 40) = true := by simp; omega
        go_wp2
        go_ret
        exact ⟨ret_int HF.out.symm, 0, rfl⟩
      · have hg : decide ((x : Int) + (m : Int) > 40) = false := by simp; omega
        go_wp2
        go_round
        case rel => exact ⟨k + 1, x + m, by omega, by go_num, by go_num, by omega, HN⟩
        case measure => simp [intOf]; omega
    · obtain rfl : k = ls.length := by omega
      have HC : Hid (schk ls = if okSk ls = true then 0 else 1) := by
        show _ = _
        have := HX.out
        rw [List.take_length] at this
        unfold schk; rw [if_neg (by omega)]
      have hkk : ¬ ((ls.length : Int) < (ls.length : Int)) := by omega
      clear HX hx
      go_wp2
      go_loopw [23] (fun i wr => ∃ (k : Nat), k ≤ ls.length ∧ i = .int .i64 k ∧ Hid (∀ i, i < k → skB i (upOf ls i) (row ls i) = true) ∧ Hid (∃ n, wr = w.drewN n)) (fun i _ => ls.length - (intOf i).toNat)
      case atStart => exact ⟨0, Nat.zero_le _, rfl, fun i hi => by omega, ⟨0, rfl⟩⟩
      case round =>
        obtain ⟨k, hk, rfl, HR, HD⟩ := hrel
        by_cases hlt : k < ls.length
        · have hlt' : (k : Int) < (ls.length : Int) := by omega
          have HSw : Hid (TableX wr a ls) := by obtain ⟨d, hd⟩ := HD.out; rw [hd]; exact HS.out.drewN d
          obtain ⟨b, off, ai, q, ci, rfl, hc, HQ, HSk, hqc, hqb⟩ := HSw.out.elem hlt
          have HNo : Hid (skB k (upOf ls k) (row ls k) = false → schk ls = 1) := fun h => by rw [HC.out, okSk_no hlt h]; rfl
          by_cases h0 : q = 0
          · have HF : Hid (schk ls = 1) := HNo.out (by unfold skB; rw [← HQ.out, h0]; simp)
            subst h0
            go_wp2
            go_ret
            exact ⟨ret_int HF.out.symm, HD.out⟩
          · have hq0 : ((q : Int) == 0) = false := beq_false_of_ne (by omega)
            have hq0' : 0 < q := by omega
            obtain ⟨b2, off2, hai, -, -⟩ := HSk.out.cells (fun e => by have := HQ.out; rw [e] at this; simp at this; omega)
            subst hai
            obtain ⟨h, hh⟩ : ∃ h, hol (row ls k) = h := ⟨_, rfl⟩
            have HH : Hid (hol (row ls k) = h) := hh
            have hhq : h ≤ q := by rw [← hh, HQ.out]; exact hol_le _
            have hhq' : (h : Int) ≤ (q : Int) := by omega
            have hqc' : (q : Int) ≤ (ci : Int) := by omega
            have HSd : Hid (Shows wr (some ⟨b2, off2 + h, none⟩) ((row ls k).drop h)) := HSk.out.dropO h
            have HLd : Hid (q - h = ((row ls k).drop h).length) := by show _ = _; rw [List.length_drop, HQ.out]
            have HB0 : Hid (skB k (upOf ls k) (row ls k) = (risesB ((row ls k).drop h) && (decide (k = 0) || lieB (row ls k) (upOf ls k)))) := by
              show _ = _
              unfold skB
              rw [← HQ.out, decide_eq_true hq0', hh]; simp
            clear h0 hh
            go_wp2_with fail
            refine (holesOf_is _ _ _ (row ls k) wr HSk.out HQ.out HH).mono ?_
            rintro e w1 ⟨rfl, hw1⟩
            obtain rfl : wr = w1 := hw1.symm
            clear hw1
            by_cases hch : ci = h
            · have HSe : Hid (Shows wr (some ⟨b2, off2, none⟩) ((row ls k).drop h)) := by
                show Shows _ _ _
                rw [List.drop_eq_nil_of_le (by have := HQ.out; omega)]
                exact ⟨by simp, fun z hz => by simp at hz, fun hne => absurd rfl hne⟩
              have hqh : q = h := by omega
              subst hqh
              subst hch
              cases er : risesB ((row ls k).drop ci) with
              | false =>
                have ER : Hid (risesB ((row ls k).drop ci) = false) := er
                have HF : Hid (schk ls = 1) := HNo.out (by rw [HB0.out, er]; rfl)
                clear er
                go_wp2_with fail
                refine (srises_is (some ⟨b2, off2, none⟩) _ _ ((row ls k).drop ci) wr HSe.out (by have := HLd.out; omega) ER).mono ?_
                rintro e w1 ⟨rfl, hw1⟩
                obtain rfl : wr = w1 := hw1.symm
                clear hw1
                go_wp2
                go_ret
                exact ⟨ret_int HF.out.symm, HD.out⟩
              | true =>
                have ER : Hid (risesB ((row ls k).drop ci) = true) := er
                clear er
                go_wp2_with fail
                refine (srises_is (some ⟨b2, off2, none⟩) _ _ ((row ls k).drop ci) wr HSe.out (by have := HLd.out; omega) ER).mono ?_
                rintro e w1 ⟨rfl, hw1⟩
                obtain rfl : wr = w1 := hw1.symm
                clear hw1
                by_cases hk0 : k = 0
                · have g0 : decide ((k : Int) > 0) = false := by simp [hk0]
                  have g1 : decide (0 < k) = false := by simp [hk0]
                  have HT : Hid (skB k (upOf ls k) (row ls k) = true) := by show _ = _; rw [HB0.out, ER.out, hk0]; rfl
                  clear hk0
                  go_wp2
                  go_roundw
                  case rel => exact ⟨k + 1, by omega, by go_num, fun i hi => by
                                rcases Nat.lt_succ_iff_lt_or_eq.1 hi with h | h
                                · exact HR.out i h
                                · subst h; exact HT.out, HD⟩
                  case measure => simp [intOf]; omega
                · have g0 : (k : Int) > 0 := by omega
                  have g1 : 0 < k := by omega
                  obtain ⟨P, HPP⟩ : ∃ P, Hid (k = P + 1) := ⟨k - 1, by show _ = _; omega⟩
                  have hP : IntKind.i64.wrap ((k : Int) - 1) = (P : Int) := by have := HPP.out; rw [IntWalk.i64_left, IntWalk.wrap64_in _ (by omega)]; omega
                  have hPl : (P : Int) < (ls.length : Int) := by have := HPP.out; omega
                  obtain ⟨b', off', au, mu, cu, hau, hcu, HMu, HSu, -, -⟩ := HSw.out.elem (k := P) (by have := HPP.out; omega)
                  simp only [Option.some.injEq, Addr.mk.injEq, and_true] at hau
                  obtain ⟨rfl, rfl⟩ := hau
                  have HUp : Hid (upOf ls k = row ls P) := by show _ = _; rw [HPP.out, upOf_succ]
                  have HK0 : Hid (¬ k = 0) := hk0
                  clear hk0
                  cases eu : lieB (row ls k) (row ls P) with
                  | false =>
                    have EU : Hid (lieB (row ls k) (row ls P) = false) := eu
                    have HF : Hid (schk ls = 1) := HNo.out (by rw [HB0.out, ER.out, HUp.out, eu, decide_eq_false HK0.out]; rfl)
                    clear eu
                    go_wp2_with fail
                    refine (sliesUnder_is _ _ _ _ _ _ _ _ wr HSk.out HSu.out HQ.out HMu.out EU).mono ?_
                    rintro e w1 ⟨rfl, d1, hw1⟩
                    have HD1 : Hid (∃ n, w1 = w.drewN n) := by obtain ⟨d, hd⟩ := HD.out; exact ⟨_, by rw [hw1, hd]; exact drewN_two _ _ _⟩
                    clear hw1
                    go_wp2
                    go_ret
                    exact ⟨ret_int HF.out.symm, HD1.out⟩
                  | true =>
                    have EU : Hid (lieB (row ls k) (row ls P) = true) := eu
                    have HT : Hid (skB k (upOf ls k) (row ls k) = true) := by show _ = _; rw [HB0.out, ER.out, HUp.out, eu]; simp
                    clear eu
                    go_wp2_with fail
                    refine (sliesUnder_is _ _ _ _ _ _ _ _ wr HSk.out HSu.out HQ.out HMu.out EU).mono ?_
                    rintro e w1 ⟨rfl, d1, hw1⟩
                    have HD1 : Hid (∃ n, w1 = w.drewN n) := by obtain ⟨d, hd⟩ := HD.out; exact ⟨_, by rw [hw1, hd]; exact drewN_two _ _ _⟩
                    clear hw1
                    go_wp2
                    go_roundw
                    case rel => exact ⟨k + 1, by omega, by go_num, fun i hi => by
                                  rcases Nat.lt_succ_iff_lt_or_eq.1 hi with h | h
                                  · exact HR.out i h
                                  · subst h; exact HT.out, HD1⟩
                    case measure => simp [intOf]; omega
            · have hch' : ¬ ci = h := hch
              cases er : risesB ((row ls k).drop h) with
              | false =>
                have ER : Hid (risesB ((row ls k).drop h) = false) := er
                have HF : Hid (schk ls = 1) := HNo.out (by rw [HB0.out, er]; rfl)
                clear er
                go_wp2_with fail
                refine (srises_is (some ⟨b2, off2 + h, none⟩) (q - h) (ci - h) ((row ls k).drop h) wr HSd.out HLd.out ER).mono ?_
                rintro e w1 ⟨rfl, hw1⟩
                obtain rfl : wr = w1 := hw1.symm
                clear hw1
                go_wp2
                go_ret
                exact ⟨ret_int HF.out.symm, HD.out⟩
              | true =>
                have ER : Hid (risesB ((row ls k).drop h) = true) := er
                clear er
                go_wp2_with fail
                refine (srises_is (some ⟨b2, off2 + h, none⟩) (q - h) (ci - h) ((row ls k).drop h) wr HSd.out HLd.out ER).mono ?_
                rintro e w1 ⟨rfl, hw1⟩
                obtain rfl : wr = w1 := hw1.symm
                clear hw1
                by_cases hk0 : k = 0
                · have g0 : decide ((k : Int) > 0) = false := by simp [hk0]
                  have g1 : decide (0 < k) = false := by simp [hk0]
                  have HT : Hid (skB k (upOf ls k) (row ls k) = true) := by show _ = _; rw [HB0.out, ER.out, hk0]; rfl
                  clear hk0
                  go_wp2
                  go_roundw
                  case rel => exact ⟨k + 1, by omega, by go_num, fun i hi => by
                                rcases Nat.lt_succ_iff_lt_or_eq.1 hi with h | h
                                · exact HR.out i h
                                · subst h; exact HT.out, HD⟩
                  case measure => simp [intOf]; omega
                · have g0 : (k : Int) > 0 := by omega
                  have g1 : 0 < k := by omega
                  obtain ⟨P, HPP⟩ : ∃ P, Hid (k = P + 1) := ⟨k - 1, by show _ = _; omega⟩
                  have hP : IntKind.i64.wrap ((k : Int) - 1) = (P : Int) := by have := HPP.out; rw [IntWalk.i64_left, IntWalk.wrap64_in _ (by omega)]; omega
                  have hPl : (P : Int) < (ls.length : Int) := by have := HPP.out; omega
                  obtain ⟨b', off', au, mu, cu, hau, hcu, HMu, HSu, -, -⟩ := HSw.out.elem (k := P) (by have := HPP.out; omega)
                  simp only [Option.some.injEq, Addr.mk.injEq, and_true] at hau
                  obtain ⟨rfl, rfl⟩ := hau
                  have HUp : Hid (upOf ls k = row ls P) := by show _ = _; rw [HPP.out, upOf_succ]
                  have HK0 : Hid (¬ k = 0) := hk0
                  clear hk0
                  cases eu : lieB (row ls k) (row ls P) with
                  | false =>
                    have EU : Hid (lieB (row ls k) (row ls P) = false) := eu
                    have HF : Hid (schk ls = 1) := HNo.out (by rw [HB0.out, ER.out, HUp.out, eu, decide_eq_false HK0.out]; rfl)
                    clear eu
                    go_wp2_with fail
                    refine (sliesUnder_is _ _ _ _ _ _ _ _ wr HSk.out HSu.out HQ.out HMu.out EU).mono ?_
                    rintro e w1 ⟨rfl, d1, hw1⟩
                    have HD1 : Hid (∃ n, w1 = w.drewN n) := by obtain ⟨d, hd⟩ := HD.out; exact ⟨_, by rw [hw1, hd]; exact drewN_two _ _ _⟩
                    clear hw1
                    go_wp2
                    go_ret
                    exact ⟨ret_int HF.out.symm, HD1.out⟩
                  | true =>
                    have EU : Hid (lieB (row ls k) (row ls P) = true) := eu
                    have HT : Hid (skB k (upOf ls k) (row ls k) = true) := by show _ = _; rw [HB0.out, ER.out, HUp.out, eu]; simp
                    clear eu
                    go_wp2_with fail
                    refine (sliesUnder_is _ _ _ _ _ _ _ _ wr HSk.out HSu.out HQ.out HMu.out EU).mono ?_
                    rintro e w1 ⟨rfl, d1, hw1⟩
                    have HD1 : Hid (∃ n, w1 = w.drewN n) := by obtain ⟨d, hd⟩ := HD.out; exact ⟨_, by rw [hw1, hd]; exact drewN_two _ _ _⟩
                    clear hw1
                    go_wp2
                    go_roundw
                    case rel => exact ⟨k + 1, by omega, by go_num, fun i hi => by
                                  rcases Nat.lt_succ_iff_lt_or_eq.1 hi with h | h
                                  · exact HR.out i h
                                  · subst h; exact HT.out, HD1⟩
                    case measure => simp [intOf]; omega
        · obtain rfl : k = ls.length := by omega
          have hlt' : ¬ (ls.length : Int) < (ls.length : Int) := by omega
          have HT : Hid (schk ls = 0) := by
            show _ = _
            rw [HC.out, if_pos]
            unfold okSk
            exact List.all_eq_true.2 (fun i hi => HR.out i (List.mem_range.1 hi))
          go_wp2
          go_ret
          exact ⟨ret_int HT.out.symm, HD.out⟩
theorem SkCheck_is {c : Int} (a : Option Addr) (n cap : Nat) (ls : List (List Int)) (w : World) (hs : TableX w a ls) (hl : ls.length ≤ 17592186044416) (hn : n = ls.length) (E : Hid (schk ls = c)) :
    Calls Try.prog 22 #[.slice a n cap] w fun e w' => e = .returned (.int .i64 c) ∧ ∃ n, w' = w.drewN n := by
  subst hn; have := SkCheck_any a cap ls w hs hl; rw [E.out] at this; exact this

end Go.Proofs.Ytpbkidgdpejenae
