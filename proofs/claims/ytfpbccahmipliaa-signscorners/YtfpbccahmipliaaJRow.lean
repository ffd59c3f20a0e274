/-
  The contracts of ferlaw.Rows, signs.sameRows: the same, or not.
-/
import Derived.Test.YtfpbccahmipliaaCRow
import Derived.Test.YtfpbccahmipliaaPMath
import Derived.Test.YtfpbccahmipliaaLMath
namespace Go.Proofs.Ytfpbccahmipliaa
open Go.RowKit

theorem same_ex (ls ms : List (List Int)) : ∃ t : Bool, Hid (t = true ↔ ls = ms) := by
  by_cases h : ls = ms
  · exact ⟨true, (fun _ => h), (fun _ => rfl)⟩
  · exact ⟨false, (fun e => by cases e), (fun e => absurd e h)⟩

set_option maxHeartbeats 2000000 in
theorem RowsL_b (a b : Option Addr) (ca cb n m : Nat) (ls ms : List (List Int)) (w : World) (t : Bool) (hs : Table w a ls) (ht : Table w b ms) (hn : n = ls.length) (hm : m = ms.length) (hl : ls.length ≤ 17592186044416) (Ht : Hid (t = true ↔ ls = ms)) :
    Calls Try.prog 19 #[.slice a n ca, .slice b m cb] w fun e w' => e = .returned (.bool t) ∧ ∃ n, w' = w.drewN n := by
  subst hn; subst hm
  have HS : Hid (Table w a ls) := hs
  have HT : Hid (Table w b ms) := ht
  have HF : Hid (ls ≠ ms → t = false) := fun h => by
    cases e : t with
    | false => rfl
    | true => exact absurd (Ht.out.1 e) h
  clear hs ht
  by_cases hlen : ls.length = ms.length
  · have HL : Hid (ls.length = ms.length) := hlen
    have hb : ((ls.length : Int) != (ms.length : Int)) = false := by rw [hlen]; simp
    clear hlen
    go_enter Try.func19, Try.ntmps19
    go_wp2
    go_loopw [13] (fun i wr => ∃ k : Nat, k ≤ ls.length ∧ i = .int .i64 k ∧ Hid (∀ i, i < k → ls.getD i [] = ms.getD i []) ∧ Hid (∃ n, wr = w.drewN n)) (fun i _ => ls.length - (intOf i).toNat)
    case atStart => exact ⟨0, Nat.zero_le _, rfl, fun i h => absurd h (by omega), 0, rfl⟩
    case round =>
      obtain ⟨k, hk1, rfl, HK, HD⟩ := hrel
      have HBw : Hid (Below w.heap.size w wr) := by obtain ⟨n, hn⟩ := HD.out; rw [hn]; exact below_drewN (Below.refl _ w) n
      by_cases hlt : k < ls.length
      · have hlt' : (k : Int) < (ls.length : Int) := by omega
        have hlt2 : k < ms.length := by have := HL.out; omega
        have hlt2' : (k : Int) < (ms.length : Int) := by omega
        obtain ⟨b1, off1, a1, m1, c1, rfl, hc1, HM1, HS1, -, -⟩ := (HS.out.below HBw.out).elemR hlt
        obtain ⟨b2, off2, a2, m2, c2, rfl, hc2, HM2, HS2, -, -⟩ := (HT.out.below HBw.out).elemR hlt2
        obtain ⟨d, HDd⟩ : ∃ d, Hid (decide (ls.getD k [] = ms.getD k []) = d) := ⟨_, rfl⟩
        cases d with
        | true =>
          have HK2 : Hid (∀ i, i < k + 1 → ls.getD i [] = ms.getD i []) := fun i hi => by
            by_cases e : i = k
            · subst e; exact of_decide_eq_true HDd.out
            · exact HK.out i (by omega)
          go_wp2_with fail
          go_quiet ((go_at_call 35; exact Calls.quiet_of (Same_at _ _ _ _ _ _ (ls.getD k []) (ms.getD k []) _ (HS1.out.drewR _) (HS2.out.drewR _) HM1.out HM2.out true HDd.out)))
          go_wp2
          go_roundw
          case rel => exact ⟨k + 1, by omega, by go_num, HK2, by obtain ⟨n, hn⟩ := HD.out; exact ⟨_, by rw [hn]; exact drewN_two _ _ _⟩⟩
          case measure => simp [intOf]; omega
        | false =>
          have htf : t = false := HF.out (fun e => of_decide_eq_false HDd.out (by rw [e]))
          subst htf
          go_wp2_with fail
          go_quiet ((go_at_call 35; exact Calls.quiet_of (Same_at _ _ _ _ _ _ (ls.getD k []) (ms.getD k []) _ (HS1.out.drewR _) (HS2.out.drewR _) HM1.out HM2.out false HDd.out)))
          go_wp2
          go_ret
          exact ⟨rfl, by obtain ⟨n, hn⟩ := HD.out; exact ⟨_, by rw [hn]; exact drewN_two _ _ _⟩⟩
      · obtain rfl : k = ls.length := by omega
        have htt : t = true := Ht.out.2 (ext_row HL.out (fun i hi => HK.out i hi))
        subst htt
        go_wp2
        go_ret
        exact ⟨rfl, HD.out⟩
  · have hb : ((ls.length : Int) != (ms.length : Int)) = true := by rw [bne_iff_ne]; omega
    have htf : t = false := HF.out (fun e => hlen (by rw [e]))
    subst htf
    clear hlen
    go_enter Try.func19, Try.ntmps19
    go_wp2
    go_ret
    exact ⟨rfl, 0, rfl⟩

set_option maxHeartbeats 2000000 in
theorem sameRows_at (a b : Option Addr) (ca cb n m : Nat) (ls ms : List (List Int)) (w : World) (t : Bool) (hs : Table w a ls) (ht : Table w b ms) (hn : n = ls.length) (hm : m = ms.length) (hl : ls.length ≤ 17592186044416) (Ht : Hid (t = true ↔ ls = ms)) :
    Calls Try.prog 34 #[.slice a n ca, .slice b m cb] w fun e w' => e = .returned (.bool t) ∧ w' = w := by
  subst hn; subst hm
  have HS : Hid (Table w a ls) := hs
  have HT : Hid (Table w b ms) := ht
  have HF : Hid (ls ≠ ms → t = false) := fun h => by
    cases e : t with
    | false => rfl
    | true => exact absurd (Ht.out.1 e) h
  clear hs ht
  by_cases hlen : ls.length = ms.length
  · have HL : Hid (ls.length = ms.length) := hlen
    have hb : ((ls.length : Int) != (ms.length : Int)) = false := by rw [hlen]; simp
    clear hlen
    go_enter Try.func34, Try.ntmps34
    go_wp2
    go_loopw [16] (fun i wr => ∃ k : Nat, k ≤ ls.length ∧ i = .int .i64 k ∧ Hid (∀ i, i < k → ls.getD i [] = ms.getD i []) ∧ w = wr) (fun i _ => ls.length - (intOf i).toNat)
    case atStart => exact ⟨0, Nat.zero_le _, rfl, fun i h => absurd h (by omega), rfl⟩
    case round =>
      obtain ⟨k, hk1, rfl, HK, rfl⟩ := hrel
      by_cases hlt : k < ls.length
      · have hlt' : (k : Int) < (ls.length : Int) := by omega
        have hlt2 : k < ms.length := by have := HL.out; omega
        have hlt2' : (k : Int) < (ms.length : Int) := by omega
        obtain ⟨b1, off1, a1, m1, c1, rfl, hc1, HM1, HS1, -, hm1b⟩ := HS.out.elemR hlt
        obtain ⟨b2, off2, a2, m2, c2, rfl, hc2, HM2, HS2, -, hm2b⟩ := HT.out.elemR hlt2
        by_cases e : m1 = m2
        · subst e
          have hbm : ((m1 : Int) != (m1 : Int)) = false := by simp
          go_wp2
          go_loopw [31] (fun i wr => ∃ j : Nat, j ≤ m1 ∧ i = .int .i64 j ∧ Hid (∀ i, i < j → (ls.getD k []).getD i 0 = (ms.getD k []).getD i 0) ∧ w = wr) (fun i _ => m1 - (intOf i).toNat)
          case atStart => exact ⟨0, Nat.zero_le _, rfl, fun i h => absurd h (by omega), rfl⟩
          case round =>
            obtain ⟨j, hj1, rfl, HJ, rfl⟩ := hrel
            by_cases hjl : j < m1
            · have hjl' : (j : Int) < (m1 : Int) := by omega
              obtain ⟨b3, o3, x, e3, HX, -, -, cx⟩ := HS1.out.elem (k := j) (by rw [← HM1.out]; exact hjl)
              subst e3
              obtain ⟨b4, o4, y, e4, HY, -, -, cy⟩ := HS2.out.elem (k := j) (by rw [← HM2.out]; exact hjl)
              subst e4
              by_cases hxy : x = y
              · subst hxy
                have hbx : (x != x) = false := by simp
                go_wp2
                go_roundw
                case rel => exact ⟨j + 1, by omega, by go_num, fun i hi => by
                  by_cases e : i = j
                  · subst e; rw [← HX.out, ← HY.out]
                  · exact HJ.out i (by omega), trivial⟩
                case measure => simp [intOf]; omega
              · have hbx : (x != y) = true := by simpa using hxy
                have htf : t = false := HF.out (fun e => hxy (by rw [HX.out, HY.out, e]))
                subst htf
                clear hxy
                go_wp2
                go_ret
                exact ⟨rfl, rfl⟩
            · obtain rfl : j = m1 := by omega
              have HK2 : Hid (∀ i, i < k + 1 → ls.getD i [] = ms.getD i []) := fun i hi => by
                by_cases e : i = k
                · subst e
                  exact ext_getD (by rw [← HM1.out, ← HM2.out]) (fun q hq => HJ.out q (by rw [HM1.out]; exact hq))
                · exact HK.out i (by omega)
              go_wp2
              go_roundw
              case rel => exact ⟨k + 1, by omega, by go_num, HK2, trivial⟩
              case measure => simp [intOf]; omega
        · have hbm : ((m1 : Int) != (m2 : Int)) = true := by rw [bne_iff_ne]; omega
          have htf : t = false := HF.out (fun q => e (by rw [HM1.out, HM2.out, q]))
          subst htf
          clear e
          go_wp2
          go_ret
          exact ⟨rfl, rfl⟩
      · obtain rfl : k = ls.length := by omega
        have htt : t = true := Ht.out.2 (ext_row HL.out (fun i hi => HK.out i hi))
        subst htt
        go_wp2
        go_ret
        exact ⟨rfl, rfl⟩
  · have hb : ((ls.length : Int) != (ms.length : Int)) = true := by rw [bne_iff_ne]; omega
    have htf : t = false := HF.out (fun e => hlen (by rw [e]))
    subst htf
    clear hlen
    go_enter Try.func34, Try.ntmps34
    go_wp2
    go_ret
    exact ⟨rfl, rfl⟩

end Go.Proofs.Ytfpbccahmipliaa
