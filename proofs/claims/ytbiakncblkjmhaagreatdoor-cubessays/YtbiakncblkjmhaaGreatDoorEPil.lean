/-
  The contract of ferref.Pile.
-/
import Derived.Test.YtbiakncblkjmhaaGreatDoorDTrn
namespace Go.Proofs.YtbiakncblkjmhaaGreatDoor
open Go.RowKit

theorem PileL.why {ls : List (List Int)} {h : Int} (p : PileL ls h) {i j : Nat} (hi : i < ls.length) (hj : j < (row ls i).length) :
    0 ≤ box ls i j ∧ box ls i j ≤ h ∧ (0 < j → box ls i j ≤ box ls i (j - 1)) ∧ (0 < i → box ls i j ≤ box ls (i - 1) j) := by
  have := (p.all i hi).2 j hj
  unfold most at this
  simp only [] at this
  refine ⟨this.1, ?_, fun h0 => ?_, fun h0 => ?_⟩
  · have := this.2; split at this <;> split at this <;> omega
  · have := this.2; rw [if_pos h0] at this; split at this <;> omega
  · have := this.2; rw [if_pos h0] at this; split at this <;> omega
theorem most_ok {ls : List (List Int)} {h : Int} {i j : Nat} {z : Int} (h1 : z ≤ h) (h2 : 0 < j → z ≤ box ls i (j - 1)) (h3 : 0 < i → z ≤ box ls (i - 1) j) : z ≤ most ls i j h := by
  unfold most
  simp only []
  split
  · have := h3 ‹_›; split
    · have := h2 ‹_›; omega
    · omega
  · split
    · have := h2 ‹_›; omega
    · omega

open Classical in
set_option maxHeartbeats 60000000 in
set_option maxRecDepth 100000 in
theorem Pile_at (a : Option Addr) (n cap : Nat) (ls : List (List Int)) (h : Int) (w : World) (hs : Table w a ls) (hn : n = ls.length) :
    Calls Tryz.prog 6 #[.slice a n cap, .int .i64 h] w fun e w' => e = .returned (.bool (decide (PileL ls h))) ∧ Hid (Below w.heap.size w w') := by
  subst hn
  have HS : Hid (Table w a ls) := hs
  clear hs
  by_cases c1 : (ls.length : Int) < 1
  · rw [decide_eq_false (fun p : PileL ls h => by have := p.ls1; omega)]
    go_enter Tryz.func6, Tryz.ntmps6
    go_wp2
    go_ret
    exact ⟨rfl, Below.refl _ _⟩
  by_cases c2 : 8 < (ls.length : Int)
  · rw [decide_eq_false (fun p : PileL ls h => by have := p.ls1; omega)]
    go_enter Tryz.func6, Tryz.ntmps6
    go_wp2
    go_ret
    exact ⟨rfl, Below.refl _ _⟩
  by_cases c3 : h < 1
  · rw [decide_eq_false (fun p : PileL ls h => by have := p.hs; omega)]
    go_enter Tryz.func6, Tryz.ntmps6
    go_wp2
    go_ret
    exact ⟨rfl, Below.refl _ _⟩
  by_cases c4 : 8 < h
  · rw [decide_eq_false (fun p : PileL ls h => by have := p.hs; omega)]
    go_enter Tryz.func6, Tryz.ntmps6
    go_wp2
    go_ret
    exact ⟨rfl, Below.refl _ _⟩
  have hl0 : (0 : Int) < (ls.length : Int) := by omega
  obtain ⟨b, off, ai0, m0, ci0, rfl, hc0, HM0, -, -, hmb0⟩ := HS.out.elemR (k := 0) (by omega)
  rw [Nat.add_zero] at hc0
  by_cases c5 : (m0 : Int) < 1
  · rw [decide_eq_false (fun p : PileL ls h => by have := p.cs; have e : m0 = (row ls 0).length := HM0.out; omega)]
    go_enter Tryz.func6, Tryz.ntmps6
    go_wp2
    go_ret
    exact ⟨rfl, Below.refl _ _⟩
  by_cases c6 : 8 < (m0 : Int)
  · rw [decide_eq_false (fun p : PileL ls h => by have := p.cs; have e : m0 = (row ls 0).length := HM0.out; omega)]
    go_enter Tryz.func6, Tryz.ntmps6
    go_wp2
    go_ret
    exact ⟨rfl, Below.refl _ _⟩
  have HC0 : Hid (∀ W, Below w.heap.size w W → W.cell? ⟨b, off, none⟩ = some (.slice ai0 m0 ci0)) := fun W hW => by
    obtain ⟨b9, off9, _, _, e9, h9, _⟩ := HS.out 0 (by omega)
    simp only [Option.some.injEq, Addr.mk.injEq, and_true] at e9
    exact (hW.cell (p := ⟨b, off, none⟩) (by rw [e9.1]; exact h9)).trans hc0
  go_enter Tryz.func6, Tryz.ntmps6
  go_wp2
  clear hc0
  go_loopw [5] (fun q wr => ∃ i : Nat, i ≤ ls.length ∧ q = .int .i64 i ∧ Hid (∀ k, k < i → (row ls k).length = (row ls 0).length ∧ ∀ j, j < (row ls k).length → 0 ≤ box ls k j ∧ box ls k j ≤ most ls k j h) ∧ Hid (Below w.heap.size w wr)) (fun q _ => ls.length - (intOf q).toNat)
  case atStart => exact ⟨0, Nat.zero_le _, rfl, fun k hk => absurd hk (by omega), Below.refl _ _⟩
  case round =>
    obtain ⟨i, hi, rfl, HI, HB⟩ := hrel
    by_cases hlt : i < ls.length
    · have hlt' : (i : Int) < (ls.length : Int) := by omega
      obtain ⟨b2, off2, ai2, m, ci2, e2, hc, HM, HSi, -, hmb⟩ := (HS.out.below HB.out).elemR hlt
      simp only [Option.some.injEq, Addr.mk.injEq, and_true] at e2
      obtain ⟨rfl, rfl⟩ := e2
      have hc0 := HC0.out wr HB.out
      by_cases hmm : m = m0
      · subst hmm
        have HCi : Hid (∀ W, Below wr.heap.size wr W → W.cell? ⟨b, off + i, none⟩ = some (.slice ai2 m ci2) ∧ Shows W ai2 (ls.getD i []) ∧ Below w.heap.size w W) := fun W hW => by
          obtain ⟨b9, off9, _, _, e9, h9, _⟩ := (HS.out.below HB.out) i hlt
          simp only [Option.some.injEq, Addr.mk.injEq, and_true] at e9
          exact ⟨(hW.cell (p := ⟨b, off + i, none⟩) (by show b < _; rw [e9.1]; exact h9)).trans hc, HSi.out.below hW, HB.out.trans (hW.mono HB.out.size)⟩
        go_wp2_with fail
        go_quiet (fail)
        clear hc hc0
        go_wp2_with fail
        obtain ⟨wi, HWi⟩ : ∃ wi, Hid (wi = wr) := ⟨_, rfl⟩
        rw [← HWi.out] at HCi
        have HB0 : Hid (Below wi.heap.size wi (wr.drewN nq)) := by rw [HWi.out]; exact below_drewN (Below.refl _ _) nq
        clear HWi HB HSi
        go_loopw [6] (fun q wr => ∃ j : Nat, j ≤ m ∧ q = .int .i64 j ∧ Hid (∀ k, k < j → 0 ≤ box ls i k ∧ box ls i k ≤ most ls i k h) ∧ Hid (Below wi.heap.size wi wr)) (fun q _ => m - (intOf q).toNat)
        case atStart => exact ⟨0, Nat.zero_le _, rfl, fun k hk => absurd hk (by omega), HB0⟩
        case round =>
          clear HB0
          obtain ⟨j, hj, rfl, HJ, HBj⟩ := hrel
          obtain ⟨hc, hSi, hBw⟩ := HCi.out _ HBj.out
          have HBw : Hid (Below w.heap.size w _) := hBw
          by_cases hjl : j < m
          · have hjl' : (j : Int) < (m : Int) := by omega
            have HJR : Hid (j < (row ls i).length) := by show j < (ls.getD i []).length; rw [← HM.out]; exact hjl
            obtain ⟨b1, o1, z, ha, HZ, hz1, hz2, hcz⟩ := hSi.elem (k := j) HJR.out
            subst ha
            have HZ' : Hid (box ls i j = z) := HZ.out.symm
            go_wp2_with fail
            refine Go.wp_region_quiet_lit (by kernel_rfl) (by kernel_rfl) ?_
            by_cases hz0 : z < 0
            · have HN : Hid (decide (PileL ls h) = false) := decide_eq_false (fun p : PileL ls h => by have q := p.why hlt HJR.out; rw [HZ'.out] at q; omega)
              repeat (go_big_quiet_step (fail))
              refine Go.wpQuiet_nil ?_
              intro _ hw'
              obtain ⟨nq, hw''⟩ := hw'
              subst hw''
              go_wp2
              go_ret
              exact ⟨ret_bool HN.out.symm, below_drewN HBw.out _⟩
            by_cases hzh : h < z
            · have HN : Hid (decide (PileL ls h) = false) := decide_eq_false (fun p : PileL ls h => by have q := p.why hlt HJR.out; rw [HZ'.out] at q; omega)
              repeat (go_big_quiet_step (fail))
              refine Go.wpQuiet_nil ?_
              intro _ hw'
              obtain ⟨nq, hw''⟩ := hw'
              subst hw''
              go_wp2
              go_ret
              exact ⟨ret_bool HN.out.symm, below_drewN HBw.out _⟩
            have HUp : Hid (0 < i → ∃ aU oU ciU zu, wr.cell? ⟨b, off + (i - 1), none⟩ = some (.slice (some ⟨aU, oU, none⟩) m ciU) ∧ box ls (i - 1) j = zu ∧ wr.cell? ⟨aU, oU + j, none⟩ = some (.int .i64 zu)) := fun i0 => by
              obtain ⟨b3, off3, ai3, m3, ci3, e3, hc3, HM3, HS3, -, -⟩ := (HS.out.below HBw.out).elemR (k := i - 1) (by omega)
              simp only [Option.some.injEq, Addr.mk.injEq, and_true] at e3
              obtain ⟨rfl, rfl⟩ := e3
              have hlen : (row ls (i - 1)).length = m := by rw [(HI.out (i - 1) (by omega)).1]; exact HM0.out.symm
              obtain ⟨b4, o4, z4, ha4, HZ4, _, _, hcz4⟩ := HS3.out.elem (k := j) (by show j < (row ls (i - 1)).length; rw [hlen]; exact hjl)
              subst ha4
              have hm3 : m3 = m := by rw [HM3.out]; exact hlen
              subst hm3
              exact ⟨b4, o4, ci3, z4, hc3, HZ4.out.symm, hcz4⟩
            by_cases j0 : 0 < j
            · have j0' : (0 : Int) < (j : Int) := by omega
              obtain ⟨b5, o5, zl, e5, HZl, hl1, hl2, hczl⟩ := hSi.elem (k := j - 1) (by have := HJR.out; show j - 1 < (row ls i).length; omega)
              simp only [Option.some.injEq, Addr.mk.injEq, and_true] at e5
              obtain ⟨rfl, rfl⟩ := e5
              have HZl' : Hid (box ls i (j - 1) = zl) := HZl.out.symm
              have e4 : (j : Int) - 1 = ((j - 1 : Nat) : Int) := by omega
              have hjm' : ((j - 1 : Nat) : Int) < (m : Int) := by omega
              by_cases hzl : zl < z
              · have HN : Hid (decide (PileL ls h) = false) := decide_eq_false (fun p : PileL ls h => by have q := p.why hlt HJR.out; rw [HZ'.out] at q; have := q.2.2.1 j0; rw [HZl'.out] at this; omega)
                repeat (go_big_quiet_step (fail))
                refine Go.wpQuiet_nil ?_
                intro _ hw'
                obtain ⟨nq, hw''⟩ := hw'
                subst hw''
                go_wp2
                go_ret
                exact ⟨ret_bool HN.out.symm, below_drewN HBw.out _⟩
              by_cases i0 : 0 < i
              · have i0' : (0 : Int) < (i : Int) := by omega
                obtain ⟨aU, oU, ciU, zu, hcU, hZu, hczu⟩ := HUp.out i0
                have HZu : Hid (box ls (i - 1) j = zu) := hZu
                have e3 : (i : Int) - 1 = ((i - 1 : Nat) : Int) := by omega
                have him' : ((i - 1 : Nat) : Int) < (ls.length : Int) := by omega
                clear HUp hZu
                by_cases hzu : zu < z
                · have HN : Hid (decide (PileL ls h) = false) := decide_eq_false (fun p : PileL ls h => by have q := p.why hlt HJR.out; rw [HZ'.out] at q; have := q.2.2.2 i0; rw [HZu.out] at this; omega)
                  repeat (go_big_quiet_step (fail))
                  refine Go.wpQuiet_nil ?_
                  intro _ hw'
                  obtain ⟨nq, hw''⟩ := hw'
                  subst hw''
                  go_wp2
                  go_ret
                  exact ⟨ret_bool HN.out.symm, below_drewN HBw.out _⟩
                · have HJ3 : Hid (∀ k, k < j + 1 → 0 ≤ box ls i k ∧ box ls i k ≤ most ls i k h) := fun k hk => by
                    by_cases e : k = j
                    · subst e; rw [HZ'.out]; exact ⟨by omega, most_ok (by omega) (fun _ => by rw [HZl'.out]; omega) (fun _ => by rw [HZu.out]; omega)⟩
                    · exact HJ.out k (by omega)
                  repeat (go_big_quiet_step (fail))
                  refine Go.wpQuiet_nil ?_
                  intro _ hw'
                  obtain ⟨nq, hw''⟩ := hw'
                  subst hw''
                  go_wp2
                  go_roundw
                  case rel => exact ⟨j + 1, by omega, by go_num, HJ3, below_drewN HBj.out _⟩
                  case measure => simp [intOf]; omega
              · have i0' : ¬ (0 : Int) < (i : Int) := by omega
                clear HUp
                have HJ3 : Hid (∀ k, k < j + 1 → 0 ≤ box ls i k ∧ box ls i k ≤ most ls i k h) := fun k hk => by
                  by_cases e : k = j
                  · subst e; rw [HZ'.out]; exact ⟨by omega, most_ok (by omega) (fun _ => by rw [HZl'.out]; omega) (fun x => absurd x i0)⟩
                  · exact HJ.out k (by omega)
                repeat (go_big_quiet_step (fail))
                refine Go.wpQuiet_nil ?_
                intro _ hw'
                obtain ⟨nq, hw''⟩ := hw'
                subst hw''
                go_wp2
                go_roundw
                case rel => exact ⟨j + 1, by omega, by go_num, HJ3, below_drewN HBj.out _⟩
                case measure => simp [intOf]; omega
            · have j0' : ¬ (0 : Int) < (j : Int) := by omega
              by_cases i0 : 0 < i
              · have i0' : (0 : Int) < (i : Int) := by omega
                obtain ⟨aU, oU, ciU, zu, hcU, hZu, hczu⟩ := HUp.out i0
                have HZu : Hid (box ls (i - 1) j = zu) := hZu
                have e3 : (i : Int) - 1 = ((i - 1 : Nat) : Int) := by omega
                have him' : ((i - 1 : Nat) : Int) < (ls.length : Int) := by omega
                clear HUp hZu
                by_cases hzu : zu < z
                · have HN : Hid (decide (PileL ls h) = false) := decide_eq_false (fun p : PileL ls h => by have q := p.why hlt HJR.out; rw [HZ'.out] at q; have := q.2.2.2 i0; rw [HZu.out] at this; omega)
                  repeat (go_big_quiet_step (fail))
                  refine Go.wpQuiet_nil ?_
                  intro _ hw'
                  obtain ⟨nq, hw''⟩ := hw'
                  subst hw''
                  go_wp2
                  go_ret
                  exact ⟨ret_bool HN.out.symm, below_drewN HBw.out _⟩
                · have HJ3 : Hid (∀ k, k < j + 1 → 0 ≤ box ls i k ∧ box ls i k ≤ most ls i k h) := fun k hk => by
                    by_cases e : k = j
                    · subst e; rw [HZ'.out]; exact ⟨by omega, most_ok (by omega) (fun x => absurd x j0) (fun _ => by rw [HZu.out]; omega)⟩
                    · exact HJ.out k (by omega)
                  repeat (go_big_quiet_step (fail))
                  refine Go.wpQuiet_nil ?_
                  intro _ hw'
                  obtain ⟨nq, hw''⟩ := hw'
                  subst hw''
                  go_wp2
                  go_roundw
                  case rel => exact ⟨j + 1, by omega, by go_num, HJ3, below_drewN HBj.out _⟩
                  case measure => simp [intOf]; omega
              · have i0' : ¬ (0 : Int) < (i : Int) := by omega
                clear HUp
                have HJ3 : Hid (∀ k, k < j + 1 → 0 ≤ box ls i k ∧ box ls i k ≤ most ls i k h) := fun k hk => by
                  by_cases e : k = j
                  · subst e; rw [HZ'.out]; exact ⟨by omega, most_ok (by omega) (fun x => absurd x j0) (fun x => absurd x i0)⟩
                  · exact HJ.out k (by omega)
                repeat (go_big_quiet_step (fail))
                refine Go.wpQuiet_nil ?_
                intro _ hw'
                obtain ⟨nq, hw''⟩ := hw'
                subst hw''
                go_wp2
                go_roundw
                case rel => exact ⟨j + 1, by omega, by go_num, HJ3, below_drewN HBj.out _⟩
                case measure => simp [intOf]; omega
          · obtain rfl : j = m := by omega
            have HI3 : Hid (∀ k, k < i + 1 → (row ls k).length = (row ls 0).length ∧ ∀ j, j < (row ls k).length → 0 ≤ box ls k j ∧ box ls k j ≤ most ls k j h) := fun k hk => by
              by_cases e : k = i
              · subst e
                exact ⟨by show (ls.getD k []).length = (ls.getD 0 []).length; rw [← HM.out, ← HM0.out], fun q hq => HJ.out q (by rw [HM.out]; exact hq)⟩
              · exact HI.out k (by omega)
            go_wp2
            go_roundw
            case rel => exact ⟨i + 1, by omega, by go_num, HI3, HBw⟩
            case measure => simp [intOf]; omega
      · have hne : ((m : Int) != (m0 : Int)) = true := by simp; omega
        have HN : Hid (decide (PileL ls h) = false) := decide_eq_false (fun p : PileL ls h => hmm (by have := (p.all i hlt).1; rw [HM.out, HM0.out]; exact this))
        go_wp2_with fail
        go_quiet (fail)
        go_wp2
        go_ret
        exact ⟨ret_bool HN.out.symm, below_drewN HB.out _⟩
    · obtain rfl : i = ls.length := by omega
      have HY : Hid (decide (PileL ls h) = true) := decide_eq_true ⟨by omega, by omega, by have e : m0 = (row ls 0).length := HM0.out; omega, HI.out⟩
      go_wp2
      go_ret
      exact ⟨ret_bool HY.out.symm, HB⟩

end Go.Proofs.YtbiakncblkjmhaaGreatDoor
