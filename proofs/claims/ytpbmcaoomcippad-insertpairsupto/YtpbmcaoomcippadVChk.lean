/-
  The contract of ferref.Tab.
-/
import Derived.Test.YtpbmcaoomcippadVTab
namespace Go.Proofs.Ytpbmcaoomcippad
open Go.RowKit

/-- What is asked of one box. -/
def BoxOk (i : Nat) (up r : List Int) (j : Nat) : Prop := 1 ≤ r.getD j 0 ∧ r.getD j 0 ≤ 99 ∧ (0 < j → r.getD (j - 1) 0 ≤ r.getD j 0) ∧ (0 < i → up.getD j 0 < r.getD j 0)
theorem rowB_boxes {i : Nat} {up r : List Int} (h0 : i = 0 → up = []) (h1 : 0 < r.length) (h2 : 0 < i → r.length ≤ up.length) (hb : ∀ j, j < r.length → BoxOk i up r j) : rowB i up r = true := by
  refine (rowB_iff h0).2 ⟨h1, h2, fun j hj => ⟨(hb j hj).1, (hb j hj).2.1⟩, fun j hj => (hb (j + 1) hj).2.2.1 (by omega), fun hi j hj => (hb j hj).2.2.2 hi⟩
theorem rowB_badbox {i : Nat} {up r : List Int} (h0 : i = 0 → up = []) {j : Nat} (hj : j < r.length) (hb : ¬ BoxOk i up r j) : rowB i up r = false := by
  cases e : rowB i up r with
  | false => rfl
  | true =>
    have h := (rowB_iff h0).1 e
    refine absurd ⟨(h.low j hj).1, (h.low j hj).2, fun hp => ?_, fun hi => h.down hi j hj⟩ hb
    have := h.rise (j - 1) (by omega)
    rw [show j - 1 + 1 = j by omega] at this; exact this

set_option maxHeartbeats 8000000 in
set_option maxRecDepth 100000 in
theorem RTab_any (a : Option Addr) (cap : Nat) (ls : List (List Int)) (w : World) (hs : Table w a ls) (hl : ls.length ≤ 2000000) (hf : ls.flatten.length ≤ 2000000) :
    Calls Try.prog 42 #[.slice a ls.length cap] w fun e w' => e = .returned (.int .i64 (tchk ls)) ∧ Below w.heap.size w w' := by
  have HS0 : Hid (Table w a ls) := hs
  have HF : Hid (ls.flatten.length ≤ 2000000) := hf
  clear hs hf
  go_enter Try.func42, Try.ntmps42
  go_wp2_with fail
  refine (RCount_at _ _ _ _ _ HS0.out rfl hl HF.out).mono ?_
  rintro e w1 ⟨rfl, hb⟩
  have HS : Hid (Table w1 a ls) := HS0.out.below hb
  have HB : Hid (Below w.heap.size w w1) := hb
  obtain ⟨T, HTt⟩ : ∃ T, Hid (T = ls.flatten.length) := ⟨_, rfl⟩
  rw [← HTt.out]
  have hT : T ≤ 2000000 := by rw [HTt.out]; exact HF.out
  clear hb HS0
  by_cases h40 : 40 < T
  · have HE : Hid (tchk ls = 2) := by show _ = _; unfold tchk; rw [← HTt.out, if_pos h40]
    have g0 : decide ((T : Int) > 40) = true := decide_eq_true (by omega)
    go_wp2
    go_ret
    exact ⟨ret_int HE.out.symm, HB.out⟩
  · have HC : Hid (tchk ls = if okTab ls = true then 0 else 1) := by show _ = _; unfold tchk; rw [← HTt.out, if_neg h40]
    have g0 : decide ((T : Int) > 40) = false := decide_eq_false (by omega)
    clear h40
    go_wp2
    go_loopw [3] (fun q wr => ∃ k : Nat, k ≤ ls.length ∧ q = .int .i64 k ∧ Hid (∀ i, i < k → rowB i (upOf ls i) (row ls i) = true) ∧ ∃ n, wr = w1.drewN n) (fun q _ => ls.length - (intOf q).toNat)
    case atStart => exact ⟨0, Nat.zero_le _, rfl, fun i hi => by omega, 0, rfl⟩
    case round =>
      obtain ⟨k, hk, rfl, HR, n, rfl⟩ := hrel
      by_cases hlt : k < ls.length
      · have hlt' : (k : Int) < (ls.length : Int) := by omega
        have HLT : Hid (k < ls.length) := hlt
        have HNo : Hid (rowB k (upOf ls k) (row ls k) = false → tchk ls = 1) := fun h => by rw [HC.out, okTab_no hlt h]; rfl
        obtain ⟨b, off, ai, q, ci, rfl, HCe, HQ, HSk, -, hqb⟩ := HS.out.elemB hlt
        have hc := HCe.out w1 (Below.refl _ _)
        by_cases h0 : q = 0
        · have HE : Hid (tchk ls = 1) := HNo.out (by unfold rowB; rw [← HQ.out, h0]; simp)
          subst h0
          go_wp2_with fail
          go_quiet (fail)
          go_wp2
          go_ret
          exact ⟨ret_int HE.out.symm, (by first | exact below_drewN HB.out _ | exact below_drewN (below_drewN HB.out _) _)⟩
        · have hq0 : ((q : Int) == 0) = false := by simp; omega
          have hq0' : 0 < q := by omega
          clear h0
          rcases Nat.eq_zero_or_pos k with hk0 | hk0
          · subst hk0
            rw [Nat.add_zero] at hc
            go_wp2_with fail
            go_quiet (fail)
            go_wp2
            go_loopw [4] (fun v wr => ∃ j : Nat, j ≤ q ∧ v = .int .i64 j ∧ Hid (∀ i, i < j → BoxOk 0 (upOf ls 0) (row ls 0) i) ∧ ∃ n, wr = w1.drewN n) (fun v _ => q - (intOf v).toNat)
            case atStart => exact ⟨0, Nat.zero_le _, rfl, fun i hi => by omega, _, (by first | exact rfl | exact drewN_two _ _ _)⟩
            case round =>
              obtain ⟨j, hj, rfl, HBx, n2, rfl⟩ := hrel
              by_cases hjq : j < q
              · have hjq' : (j : Int) < (q : Int) := by omega
                have HJR : Hid (j < (row ls 0).length) := by show _ < _; rw [← HQ.out]; exact hjq
                obtain ⟨b2, off2, z, hai, HZ, hz1, hz2, hcz⟩ := HSk.out.elem HJR.out
                subst hai
                by_cases hbad : BoxOk 0 (upOf ls 0) (row ls 0) j
                · have HOk : Hid (BoxOk 0 (upOf ls 0) (row ls 0) j) := hbad
                  obtain ⟨x1, x2, x3, x4⟩ := hbad
                  rw [← HZ.out] at x1 x2 x3 x4
                  rcases Nat.eq_zero_or_pos j with hj0 | hj0
                  · subst hj0
                    rw [Nat.add_zero] at hcz
                    go_wp2
                    go_roundw
                    case rel =>
                      have HN : Hid (∀ i, i < 1 → BoxOk 0 (upOf ls 0) (row ls 0) i) := fun i hi => by
                        obtain rfl : i = 0 := by omega
                        exact HOk.out
                      first | exact ⟨1, by omega, by go_num, HN, n2, rfl⟩ | ((repeat apply Exists.intro); exact ⟨⟨1, by omega, by go_num, HN, n2, rfl⟩, rfl⟩)
                    case measure => simp [intOf]; omega
                  · obtain ⟨t, rfl⟩ : ∃ t, j = t + 1 := ⟨j - 1, by omega⟩
                    obtain ⟨b4, off4, y, hbb4, HY, -, -, hcy⟩ := HSk.out.elem (k := t) (by have := HJR.out; omega)
                    simp only [Option.some.injEq, Addr.mk.injEq, and_true] at hbb4
                    obtain ⟨rfl, rfl⟩ := hbb4
                    have x5 : y ≤ z := by have := x3 (by omega); rw [show t + 1 - 1 = t by omega, ← HY.out] at this; exact this
                    have ht' : (t : Int) < (q : Int) := by omega
                    have hwt : IntKind.i64.wrap (((t + 1 : Nat) : Int) - 1) = (t : Int) := by rw [IntWalk.i64_left, IntWalk.wrap64_in _ (by omega)]; omega
                    have hwt2 : IntKind.i64.wrap ((t : Int) + 1 - 1) = (t : Int) := by rw [IntWalk.i64_left, IntWalk.wrap64_in _ (by omega)]; omega
                    clear x3
                    go_wp2
                    go_roundw
                    case rel =>
                      have HN : Hid (∀ i, i < t + 2 → BoxOk 0 (upOf ls 0) (row ls 0) i) := fun i hi => by
                        by_cases hi' : i < t + 1
                        · exact HBx.out i hi'
                        · obtain rfl : i = t + 1 := by omega
                          exact HOk.out
                      first | exact ⟨t + 2, by omega, by go_num, HN, n2, rfl⟩ | ((repeat apply Exists.intro); exact ⟨⟨t + 2, by omega, by go_num, HN, n2, rfl⟩, rfl⟩)
                    case measure => simp [intOf]; omega
                · have HE : Hid (tchk ls = 1) := HNo.out (rowB_badbox (upOf_zero ls _) HJR.out hbad)
                  have HBad : Hid (¬ BoxOk 0 (upOf ls 0) (row ls 0) j) := hbad
                  clear hbad
                  by_cases y1 : z < 1
                  · go_wp2
                    go_ret
                    exact ⟨ret_int HE.out.symm, (by first | exact below_drewN HB.out _ | exact below_drewN (below_drewN HB.out _) _)⟩
                  · by_cases y2 : 99 < z
                    · go_wp2
                      go_ret
                      exact ⟨ret_int HE.out.symm, (by first | exact below_drewN HB.out _ | exact below_drewN (below_drewN HB.out _) _)⟩
                    · have HCon : Hid (¬ ((0 < j → (row ls 0).getD (j - 1) 0 ≤ z) ∧ (0 < 0 → (upOf ls 0).getD j 0 < z))) := fun hh => HBad.out ⟨by rw [← HZ.out]; omega, by rw [← HZ.out]; omega, by rw [← HZ.out]; exact hh.1, by rw [← HZ.out]; exact hh.2⟩
                      rcases Nat.eq_zero_or_pos j with hj0 | hj0
                      · subst hj0
                        rw [Nat.add_zero] at hcz
                        exact absurd ⟨fun h => by omega, fun h => by omega⟩ HCon.out
                      · obtain ⟨t, rfl⟩ : ∃ t, j = t + 1 := ⟨j - 1, by omega⟩
                        obtain ⟨b4, off4, y, hbb4, HY, -, -, hcy⟩ := HSk.out.elem (k := t) (by have := HJR.out; omega)
                        simp only [Option.some.injEq, Addr.mk.injEq, and_true] at hbb4
                        obtain ⟨rfl, rfl⟩ := hbb4
                        have ht' : (t : Int) < (q : Int) := by omega
                        have hwt : IntKind.i64.wrap (((t + 1 : Nat) : Int) - 1) = (t : Int) := by rw [IntWalk.i64_left, IntWalk.wrap64_in _ (by omega)]; omega
                        have hwt2 : IntKind.i64.wrap ((t : Int) + 1 - 1) = (t : Int) := by rw [IntWalk.i64_left, IntWalk.wrap64_in _ (by omega)]; omega
                        by_cases y3 : z < y
                        · go_wp2
                          go_ret
                          exact ⟨ret_int HE.out.symm, (by first | exact below_drewN HB.out _ | exact below_drewN (below_drewN HB.out _) _)⟩
                        · have y3' : y ≤ z := by omega
                          exact absurd ⟨fun _ => by rw [show t + 1 - 1 = t by omega, ← HY.out]; exact y3', fun h => by omega⟩ HCon.out
              · obtain rfl : j = q := by omega
                have HT2 : Hid (rowB 0 (upOf ls 0) (row ls 0) = true) := rowB_boxes (upOf_zero ls _) (by rw [← HQ.out]; exact hq0') (fun h => by omega) (fun i hi => HBx.out i (by rw [HQ.out]; exact hi))
                go_wp2
                go_roundw
                case rel => exact ⟨0 + 1, HLT.out, by go_num, fun i hi => by
                              rcases Nat.lt_succ_iff_lt_or_eq.1 hi with h | h
                              · exact HR.out i h
                              · subst h; exact HT2.out, n2, rfl⟩
                case measure => have := HLT.out; simp [intOf] <;> omega
          · obtain ⟨p, HKp⟩ : ∃ p, Hid (k = p + 1) := ⟨k - 1, by show _ = _; omega⟩
            have hp : p < ls.length := by have := HKp.out; omega
            have hp' : (p : Int) < (ls.length : Int) := by omega
            have HUp : Hid (upOf ls k = row ls p) := by show _ = _; rw [HKp.out, upOf_succ]
            obtain ⟨b1, off1, au, m, cu, hbb, HCu, HMu, HSu, -, hmb⟩ := HS.out.elemB hp
            simp only [Option.some.injEq, Addr.mk.injEq, and_true] at hbb
            obtain ⟨rfl, rfl⟩ := hbb
            have hcu := HCu.out w1 (Below.refl _ _)
            have hw1 : IntKind.i64.wrap ((k : Int) - 1) = (p : Int) := by have := HKp.out; rw [IntWalk.i64_left, IntWalk.wrap64_in _ (by omega)]; omega
            have hk1 : (k : Int) - 1 = (p : Int) := by have := HKp.out; omega
            have g1 : decide ((k : Int) > 0) = true := decide_eq_true (by omega)
            by_cases hmq : m < q
            · have HE : Hid (tchk ls = 1) := HNo.out (by unfold rowB; rw [HUp.out, ← HQ.out, ← HMu.out, decide_eq_false (show ¬ k = 0 by omega), decide_eq_false (show ¬ q ≤ m by omega)]; simp)
              have g3 : decide ((m : Int) < (q : Int)) = true := decide_eq_true (by omega)
              go_wp2_with fail
              go_quiet (fail)
              go_wp2
              go_ret
              exact ⟨ret_int HE.out.symm, (by first | exact below_drewN HB.out _ | exact below_drewN (below_drewN HB.out _) _)⟩
            · have hqm : q ≤ m := by omega
              have g3 : decide ((m : Int) < (q : Int)) = false := decide_eq_false (by omega)
              have g4 : decide (m < q) = false := decide_eq_false (by omega)
              clear hmq
              go_wp2_with fail
              go_quiet (fail)
              go_wp2
              go_loopw [4] (fun v wr => ∃ j : Nat, j ≤ q ∧ v = .int .i64 j ∧ Hid (∀ i, i < j → BoxOk k (upOf ls k) (row ls k) i) ∧ ∃ n, wr = w1.drewN n) (fun v _ => q - (intOf v).toNat)
              case atStart => exact ⟨0, Nat.zero_le _, rfl, fun i hi => by omega, _, (by first | exact rfl | exact drewN_two _ _ _)⟩
              case round =>
                obtain ⟨j, hj, rfl, HBx, n2, rfl⟩ := hrel
                by_cases hjq : j < q
                · have hjq' : (j : Int) < (q : Int) := by omega
                  have HJR : Hid (j < (row ls k).length) := by show _ < _; rw [← HQ.out]; exact hjq
                  obtain ⟨b2, off2, z, hai, HZ, hz1, hz2, hcz⟩ := HSk.out.elem HJR.out
                  subst hai
                  have HJU : Hid (j < (row ls p).length) := by show _ < _; rw [← HMu.out]; omega
                  have hju' : (j : Int) < (m : Int) := by omega
                  obtain ⟨b3, off3, x, hau, HXu, -, -, hcx⟩ := HSu.out.elem HJU.out
                  subst hau
                  have HXu' : Hid (x = (upOf ls k).getD j 0) := by show _ = _; rw [HUp.out]; exact HXu.out
                  by_cases hbad : BoxOk k (upOf ls k) (row ls k) j
                  · have HOk : Hid (BoxOk k (upOf ls k) (row ls k) j) := hbad
                    obtain ⟨x1, x2, x3, x4⟩ := hbad
                    rw [← HZ.out] at x1 x2 x3 x4
                    have x6 : x < z := by have := x4 (by omega); rw [← HXu'.out] at this; exact this
                    clear x4
                    rcases Nat.eq_zero_or_pos j with hj0 | hj0
                    · subst hj0
                      rw [Nat.add_zero] at hcz hcx
                      go_wp2
                      go_roundw
                      case rel =>
                        have HN : Hid (∀ i, i < 1 → BoxOk k (upOf ls k) (row ls k) i) := fun i hi => by
                          obtain rfl : i = 0 := by omega
                          exact HOk.out
                        first | exact ⟨1, by omega, by go_num, HN, n2, rfl⟩ | ((repeat apply Exists.intro); exact ⟨⟨1, by omega, by go_num, HN, n2, rfl⟩, rfl⟩)
                      case measure => simp [intOf]; omega
                    · obtain ⟨t, rfl⟩ : ∃ t, j = t + 1 := ⟨j - 1, by omega⟩
                      obtain ⟨b4, off4, y, hbb4, HY, -, -, hcy⟩ := HSk.out.elem (k := t) (by have := HJR.out; omega)
                      simp only [Option.some.injEq, Addr.mk.injEq, and_true] at hbb4
                      obtain ⟨rfl, rfl⟩ := hbb4
                      have x5 : y ≤ z := by have := x3 (by omega); rw [show t + 1 - 1 = t by omega, ← HY.out] at this; exact this
                      have ht' : (t : Int) < (q : Int) := by omega
                      have hwt : IntKind.i64.wrap (((t + 1 : Nat) : Int) - 1) = (t : Int) := by rw [IntWalk.i64_left, IntWalk.wrap64_in _ (by omega)]; omega
                      have hwt2 : IntKind.i64.wrap ((t : Int) + 1 - 1) = (t : Int) := by rw [IntWalk.i64_left, IntWalk.wrap64_in _ (by omega)]; omega
                      clear x3
                      go_wp2
                      go_roundw
                      case rel =>
                        have HN : Hid (∀ i, i < t + 2 → BoxOk k (upOf ls k) (row ls k) i) := fun i hi => by
                          by_cases hi' : i < t + 1
                          · exact HBx.out i hi'
                          · obtain rfl : i = t + 1 := by omega
                            exact HOk.out
                        first | exact ⟨t + 2, by omega, by go_num, HN, n2, rfl⟩ | ((repeat apply Exists.intro); exact ⟨⟨t + 2, by omega, by go_num, HN, n2, rfl⟩, rfl⟩)
                      case measure => simp [intOf]; omega
                  · have HE : Hid (tchk ls = 1) := HNo.out (rowB_badbox (upOf_zero ls _) HJR.out hbad)
                    have HBad : Hid (¬ BoxOk k (upOf ls k) (row ls k) j) := hbad
                    clear hbad
                    by_cases y1 : z < 1
                    · go_wp2
                      go_ret
                      exact ⟨ret_int HE.out.symm, (by first | exact below_drewN HB.out _ | exact below_drewN (below_drewN HB.out _) _)⟩
                    · by_cases y2 : 99 < z
                      · go_wp2
                        go_ret
                        exact ⟨ret_int HE.out.symm, (by first | exact below_drewN HB.out _ | exact below_drewN (below_drewN HB.out _) _)⟩
                      · have HCon : Hid (¬ ((0 < j → (row ls k).getD (j - 1) 0 ≤ z) ∧ (0 < k → (upOf ls k).getD j 0 < z))) := fun hh => HBad.out ⟨by rw [← HZ.out]; omega, by rw [← HZ.out]; omega, by rw [← HZ.out]; exact hh.1, by rw [← HZ.out]; exact hh.2⟩
                        rcases Nat.eq_zero_or_pos j with hj0 | hj0
                        · subst hj0
                          rw [Nat.add_zero] at hcz hcx
                          have y4 : z ≤ x := by
                            by_cases hx : x < z
                            · exact absurd ⟨fun h => by omega, fun _ => by rw [← HXu'.out]; exact hx⟩ HCon.out
                            · omega
                          go_wp2
                          go_ret
                          exact ⟨ret_int HE.out.symm, (by first | exact below_drewN HB.out _ | exact below_drewN (below_drewN HB.out _) _)⟩
                        · obtain ⟨t, rfl⟩ : ∃ t, j = t + 1 := ⟨j - 1, by omega⟩
                          obtain ⟨b4, off4, y, hbb4, HY, -, -, hcy⟩ := HSk.out.elem (k := t) (by have := HJR.out; omega)
                          simp only [Option.some.injEq, Addr.mk.injEq, and_true] at hbb4
                          obtain ⟨rfl, rfl⟩ := hbb4
                          have ht' : (t : Int) < (q : Int) := by omega
                          have hwt : IntKind.i64.wrap (((t + 1 : Nat) : Int) - 1) = (t : Int) := by rw [IntWalk.i64_left, IntWalk.wrap64_in _ (by omega)]; omega
                          have hwt2 : IntKind.i64.wrap ((t : Int) + 1 - 1) = (t : Int) := by rw [IntWalk.i64_left, IntWalk.wrap64_in _ (by omega)]; omega
                          by_cases y3 : z < y
                          · go_wp2
                            go_ret
                            exact ⟨ret_int HE.out.symm, (by first | exact below_drewN HB.out _ | exact below_drewN (below_drewN HB.out _) _)⟩
                          · have y3' : y ≤ z := by omega
                            have y4 : z ≤ x := by
                              by_cases hx : x < z
                              · exact absurd ⟨fun _ => by rw [show t + 1 - 1 = t by omega, ← HY.out]; exact y3', fun _ => by rw [← HXu'.out]; exact hx⟩ HCon.out
                              · omega
                            go_wp2
                            go_ret
                            exact ⟨ret_int HE.out.symm, (by first | exact below_drewN HB.out _ | exact below_drewN (below_drewN HB.out _) _)⟩
                · obtain rfl : j = q := by omega
                  have HT2 : Hid (rowB k (upOf ls k) (row ls k) = true) := rowB_boxes (upOf_zero ls _) (by rw [← HQ.out]; exact hq0') (fun _ => by rw [HUp.out, ← HQ.out, ← HMu.out]; exact hqm) (fun i hi => HBx.out i (by rw [HQ.out]; exact hi))
                  go_wp2
                  go_roundw
                  case rel => exact ⟨k + 1, HLT.out, by go_num, fun i hi => by
                                rcases Nat.lt_succ_iff_lt_or_eq.1 hi with h | h
                                · exact HR.out i h
                                · subst h; exact HT2.out, n2, rfl⟩
                  case measure => have := HLT.out; simp [intOf] <;> omega
      · obtain rfl : k = ls.length := by omega
        have HE : Hid (tchk ls = 0) := by show _ = _; rw [HC.out, if_pos (okTab_yes HR.out)]
        go_wp2
        go_ret
        exact ⟨ret_int HE.out.symm, (by first | exact below_drewN HB.out _ | exact below_drewN (below_drewN HB.out _) _)⟩

theorem RTab_is {c : Int} (a : Option Addr) (n cap : Nat) (ls : List (List Int)) (w : World) (hs : Table w a ls) (hn : n = ls.length) (hl : ls.length ≤ 2000000) (hf : ls.flatten.length ≤ 2000000) (E : Hid (tchk ls = c)) :
    Calls Try.prog 42 #[.slice a n cap] w fun e w' => e = .returned (.int .i64 c) ∧ Below w.heap.size w w' := by
  subst hn; have := RTab_any a cap ls w hs hl hf; rw [E.out] at this; exact this

end Go.Proofs.Ytpbmcaoomcippad
