/-
  The contract of slides.Word.
-/
import Derived.Test.YtpbkidgdpejenaeSRct
import Derived.Deep.RegionLaw
import Derived.Deep.RegionWith
namespace Go.Proofs.Ytpbkidgdpejenae
open Go.RowKit

/-- A call of holesOf, in a region that draws its order. -/
theorem step_holes {w : World} {x r : Value} {ops : Array Oper} {o : Oper} {a : Act} {K : Act → World → Prop} {Q : Exit → Act → World → Prop} {EE : Prop} (hgd : o.guard = none) (y : Operand)
    (ho : o.op = .call { callee := .value (.func 52), args := #[y], argTypes := #[22] }) (hx : a.eval y = x) (hc : Calls Try.prog 52 #[x] w fun e w' => e = .returned r ∧ w' = w) (h : K (a.put o.dst r) w) :
    if Region.wanted o (yielded ops a.tmps) = true then Oper.wp Try.prog o a w K Q else EE := by
  have hw : Region.wanted o (yielded ops a.tmps) = true := by simp [Region.wanted, hgd]
  rw [if_pos hw]
  unfold Oper.wp
  simp [execOp, ho, resolve, invoke, hx]
  simp [Act.eval, Deferred.ofValue, callFunc, Try.func52]
  refine hc.mono ?_
  rintro e w' ⟨rfl, rfl⟩
  exact h

/-- The word of the rows from k on. -/
def swF (ls : List (List Int)) : Nat → List Int
  | 0 => []
  | k + 1 => swF ls k ++ (row ls (ls.length - 1 - k)).drop (H ls (ls.length - 1 - k))
set_option maxHeartbeats 8000000 in
theorem Word_ok (a : Option Addr) (n cap : Nat) (ls : List (List Int)) (w : World) (hs : TableX w a ls) (hn : n = ls.length) (hl : ls.length ≤ 17592186044416) (hc : schk ls = 0) :
    Calls Try.prog 18 #[.slice a n cap] w fun e w' => ∃ v, e = .returned (.tuple #[v, .int .i64 0]) ∧ Owns w' w.heap.size v (swF ls ls.length) ∧ Below w.heap.size w w' := by
  subst hn
  have hI := schk_ok.1 hc
  have HS : Hid (TableX w a ls) := hs
  have HI : Hid (IsSk ls) := hI
  have HC : Hid (schk ls = 0) := hc
  have HF : Hid (Few ls) := hI.fews
  have hl2 : ls.length ≤ 1000 := hI.fews.len
  clear hs hc hI
  go_enter Try.func18, Try.ntmps18
  go_wp2_with fail
  refine (SkCheck_is a _ cap ls w HS.out hl rfl HC).mono ?_
  rintro e w1 ⟨rfl, d1, hw1⟩
  have HB1 : Hid (Below w.heap.size w w1) := by rw [hw1]; exact below_drewN (Below.refl _ _) d1
  clear hw1
  have hsub : IntKind.i64.wrap ((ls.length : Int) - 1) = (ls.length : Int) - 1 := by rw [IntWalk.i64_left, IntWalk.wrap64_in _ (by omega)]
  go_wp2
  go_loopw [5, 6] (fun v iv wr => ∃ k : Nat, k ≤ ls.length ∧ iv = .int .i64 ((ls.length : Int) - 1 - (k : Int)) ∧ Hid (Owns wr w1.heap.size v (swF ls k) ∧ (swF ls k).length ≤ 1000 * k) ∧ Hid (Below w1.heap.size w1 wr)) (fun _ iv _ => ((intOf iv) + 1).toNat)
  case atStart => exact ⟨0, Nat.zero_le _, by simp, ⟨World.ownsRow_nil _ _ _ _, by simp [swF]⟩, Below.refl _ _⟩
  case round =>
    obtain ⟨k, hk, rfl, HO, HB⟩ := hrel
    by_cases hlt : k < ls.length
    · obtain ⟨m, HM⟩ : ∃ m, Hid (m = ls.length - 1 - k) := ⟨_, rfl⟩
      have hm : (ls.length : Int) - 1 - (k : Int) = (m : Int) := by rw [HM.out]; omega
      rw [hm]
      have hge : (m : Int) ≥ 0 := by omega
      have hml : (m : Int) < (ls.length : Int) := by rw [HM.out]; omega
      have HMl : Hid (m < ls.length) := by show _ < _; rw [HM.out]; omega
      have hms : IntKind.i64.wrap ((m : Int) - 1) = (m : Int) - 1 := by rw [IntWalk.i64_left, IntWalk.wrap64_in _ (by omega)]
      have HMe : Hid ((m : Int) - 1 = (ls.length : Int) - 1 - ((k + 1 : Nat) : Int)) := by show _ = _; rw [HM.out]; omega
      have HBw : Hid (Below w.heap.size w wr) := HB1.out.trans (HB.out.mono HB1.out.size)
      obtain ⟨b, off, ai, q, ci, rfl, hcr, HQ, HSk, hqc, hqb⟩ := (HS.out.below HBw.out).elem HMl.out
      have hrp := HF.out.one _ (row_mem HMl.out)
      obtain ⟨b2, off2, hai, -, -⟩ := HSk.out.cells (fun e => by have := hrp.1; rw [e] at this; simp at this)
      subst hai
      obtain ⟨h, HH⟩ : ∃ h, Hid (hol (row ls m) = h) := ⟨_, rfl⟩
      have hhq : h ≤ q := by rw [← HH.out, HQ.out]; exact hol_le _
      have hhq' : (h : Int) ≤ (q : Int) := by omega
      have hqc' : (q : Int) ≤ (ci : Int) := by omega
      have HCall : Hid (Calls Try.prog 52 #[.slice (some ⟨b2, off2, none⟩) q ci] wr.drew fun e w' => e = .returned (.int .i64 h) ∧ w' = wr.drew) := holesOf_is _ _ _ (row ls m) _ (HSk.out.below (below_drewN (Below.refl _ _) 1)) HQ.out HH
      have HNx : Hid (swF ls (k + 1) = swF ls k ++ (row ls m).drop h) := by show _ = _; simp only [swF]; unfold H; rw [← HM.out, HH.out]
      have HLd : Hid (q - h = ((row ls m).drop h).length) := by show _ = _; rw [List.length_drop, HQ.out]
      have HLen : Hid ((swF ls k).length + ((row ls m).drop h).length ≤ 17592186044414) := by have := HO.out.2; have := (HF.out.one _ (row_mem HMl.out)).2; show _ ≤ _; rw [List.length_drop]; omega
      have HLx : Hid ((swF ls (k + 1)).length ≤ 1000 * (k + 1)) := by rw [HNx.out]; have := HO.out.2; have := (HF.out.one _ (row_mem HMl.out)).2; show _ ≤ _; rw [List.length_append, List.length_drop]; omega
      clear hm hrp
      by_cases hch : ci = h
      · subst hch
        have HSd : Hid (Shows wr.drew (some ⟨b2, off2, none⟩) ((row ls m).drop ci)) := by
          show Shows _ _ _
          rw [List.drop_eq_nil_of_le (by have := HQ.out; omega)]
          exact ⟨by simp, fun z hz => by simp at hz, fun hne => absurd rfl hne⟩
        have HOd := HO.out.1.below (below_drewN (Below.refl _ _) 1)
        have hqe : q - ci = 0 := by omega
        have HLd0 : Hid (0 = ((row ls m).drop ci).length) := by rw [← HLd.out]; exact hqe.symm
        go_wp2_with fail
        go_region_law (first | (refine step_holes rfl (.tmp 27) rfl (by first | (simp [Act.eval]; done) | (simp [Act.eval, Act.put]; done)) HCall.out ?_) | (refine step_src rfl (.tmp 19) (.tmp 29) rfl (by first | (simp [Act.eval]; done) | (simp [Act.eval, Act.put]; done)) (show _ = Value.slice (some ⟨b2, off2, none⟩) 0 0 from (by first | (simp [Act.eval]; done) | (simp [Act.eval, Act.put]; done))) HOd HSd.out HLd0.out (fun z => by cases z) HLen.out HB.out.size ?_; intro v' w2 hO' hb' _; clear HOd))
        all_goals (
          have HO2 : Hid (Owns w2 w1.heap.size v' (swF ls (k + 1)) ∧ (swF ls (k + 1)).length ≤ 1000 * (k + 1)) := ⟨by rw [HNx.out]; exact hO', HLx.out⟩
          have HB2 : Hid (Below w1.heap.size w1 w2) := (below_drewN HB.out 1).trans hb'
          clear hO' hb'
          go_wp2
          go_roundw
          case rel => exact ⟨k + 1, by omega, by rw [HMe.out], HO2, HB2⟩
          case measure => simp [intOf])
      · have HSd : Hid (Shows wr.drew (some ⟨b2, off2 + h, none⟩) ((row ls m).drop h)) := (HSk.out.dropO h).below (below_drewN (Below.refl _ _) 1)
        have HOd := HO.out.1.below (below_drewN (Below.refl _ _) 1)
        go_wp2_with fail
        go_region_law (first | (refine step_holes rfl (.tmp 27) rfl (by first | (simp [Act.eval]; done) | (simp [Act.eval, Act.put]; done)) HCall.out ?_) | (refine step_src rfl (.tmp 19) (.tmp 29) rfl (by first | (simp [Act.eval]; done) | (simp [Act.eval, Act.put]; done)) (show _ = Value.slice (some ⟨b2, off2 + h, none⟩) (q - h) (ci - h) from (by first | (simp [Act.eval]; done) | (simp [Act.eval, Act.put]; done))) HOd HSd.out HLd.out (fun z => by cases z) HLen.out HB.out.size ?_; intro v' w2 hO' hb' _; clear HOd))
        all_goals (
          have HO2 : Hid (Owns w2 w1.heap.size v' (swF ls (k + 1)) ∧ (swF ls (k + 1)).length ≤ 1000 * (k + 1)) := ⟨by rw [HNx.out]; exact hO', HLx.out⟩
          have HB2 : Hid (Below w1.heap.size w1 w2) := (below_drewN HB.out 1).trans hb'
          clear hO' hb'
          go_wp2
          go_roundw
          case rel => exact ⟨k + 1, by omega, by rw [HMe.out], HO2, HB2⟩
          case measure => simp [intOf])
    · obtain rfl : k = ls.length := by omega
      have hm : (ls.length : Int) - 1 - (ls.length : Int) = -1 := by omega
      rw [hm]
      have hge : ¬ (-1 : Int) ≥ 0 := by omega
      have HOe := HO.out.1.mono HB1.out.size
      have HBe : Hid (Below w.heap.size w wr) := HB1.out.trans (HB.out.mono HB1.out.size)
      clear hm
      go_wp2
      go_ret2
      exact ⟨_, rfl, HOe, HBe.out⟩
set_option maxHeartbeats 2000000 in
theorem Word_err (a : Option Addr) (n cap : Nat) (ls : List (List Int)) (w : World) (hs : TableX w a ls) (hn : n = ls.length) (hl : ls.length ≤ 17592186044416) (hc : schk ls ≠ 0) :
    Calls Try.prog 18 #[.slice a n cap] w fun e w' => e = .returned (.tuple #[.slice none 0 0, .int .i64 (schk ls)]) ∧ Below w.heap.size w w' := by
  subst hn
  have HS : Hid (TableX w a ls) := hs
  obtain ⟨c, HC⟩ : ∃ c, Hid (schk ls = c) := ⟨_, rfl⟩
  have hc0 : (c != 0) = true := by rw [← HC.out]; exact bne_iff_ne.2 hc
  rw [HC.out]
  clear hs hc
  go_enter Try.func18, Try.ntmps18
  go_wp2_with fail
  refine (SkCheck_is a _ cap ls w HS.out hl rfl HC).mono ?_
  rintro e w1 ⟨rfl, d1, hw1⟩
  have HB1 : Hid (Below w.heap.size w w1) := by rw [hw1]; exact below_drewN (Below.refl _ _) d1
  clear hw1
  go_wp2
  go_ret2
  exact ⟨rfl, HB1.out⟩
/-- The word is the rows' letters, the last row first. -/
theorem swF_is (ls : List (List Int)) : swF ls ls.length = sword (H ls) ls := by
  have gen : ∀ k, k ≤ ls.length → swF ls k = sword (fun a => H ls (a + (ls.length - k))) (ls.drop (ls.length - k)) := by
    intro k
    induction k with
    | zero => intro _; simp [swF, sword]
    | succ k ih =>
      intro hk
      have hlt : ls.length - (k + 1) < ls.length := by omega
      rw [List.drop_eq_getElem_cons hlt]
      simp only [swF, sword, Nat.zero_add]
      rw [ih (by omega), show ls.length - 1 - k = ls.length - (k + 1) by omega, show ls.length - (k + 1) + 1 = ls.length - k by omega]
      congr 1
      · refine sword_congr _ _ _ (fun a _ => ?_)
        congr 1; omega
      · simp [row, List.getD, List.getElem?_eq_getElem hlt]
  have := gen ls.length (Nat.le_refl _)
  rw [this]
  simp

end Go.Proofs.Ytpbkidgdpejenae
