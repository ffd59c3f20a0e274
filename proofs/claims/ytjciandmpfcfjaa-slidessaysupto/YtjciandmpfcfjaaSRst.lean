/-
  The contract of ferref.Straight.
-/
import Derived.Test.YtjciandmpfcfjaaSRhl
import Derived.Test.YtjciandmpfcfjaaSWrd
import Derived.Test.YtjciandmpfcfjaaSRev
namespace Go.Proofs.Ytjciandmpfcfjaa
open Go.RowKit

/-- A call of ferref.Holes, in a region that draws its order. -/
theorem step_rholes {w : World} {x r : Value} {ops : Array Oper} {o : Oper} {a : Act} {K : Act → World → Prop} {Q : Exit → Act → World → Prop} {EE : Prop} (hgd : o.guard = none) (y : Operand)
    (ho : o.op = .call { callee := .value (.func 19), args := #[y], argTypes := #[27] }) (hx : a.eval y = x) (hc : Calls Try.prog 19 #[x] w fun e w' => e = .returned r ∧ w' = w) (h : K (a.put o.dst r) w) :
    if Region.wanted o (yielded ops a.tmps) = true then Oper.wp Try.prog o a w K Q else EE := by
  have hw : Region.wanted o (yielded ops a.tmps) = true := by simp [Region.wanted, hgd]
  rw [if_pos hw]
  unfold Oper.wp
  simp [execOp, ho, resolve, invoke, hx]
  simp [Act.eval, Deferred.ofValue, callFunc, Try.func19]
  refine hc.mono ?_
  rintro e w' ⟨rfl, rfl⟩
  exact h
theorem swd_len : ∀ (s : List (List Int)) (h : Nat → Nat), (sword h s).length ≤ s.flatten.length := by
  intro s
  induction s with
  | nil => intro h; simp [sword]
  | cons r s ih => intro h; simp only [sword, List.length_append, List.flatten_cons, List.length_drop]; have := ih (fun a => h (a + 1)); omega
theorem swd_all {p : Int → Prop} : ∀ (s : List (List Int)) (h : Nat → Nat), (∀ a b, h a ≤ b → b < (row s a).length → p (box s a b)) → ∀ z ∈ sword h s, p z := by
  intro s
  induction s with
  | nil => intro h _ z hz; simp [sword] at hz
  | cons r s ih =>
    intro h hp z hz
    simp only [sword, List.mem_append] at hz
    rcases hz with hz | hz
    · exact ih _ (fun a b h1 h2 => by have := hp (a + 1) b h1 (by simpa [row] using h2); simpa [box, row] using this) z hz
    · obtain ⟨m, hm, rfl⟩ := List.mem_iff_getElem.1 hz
      have := hp 0 (h 0 + m) (by omega) (by simp [row]; simp at hm; omega)
      simp at hm
      simpa [box, row, List.getD, List.getElem?_eq_getElem (show h 0 + m < r.length by omega)] using this
theorem IsSk.wordS {ls : List (List Int)} (h : IsSk ls) : (sword (H ls) ls).length ≤ 40 ∧ ∀ z ∈ sword (H ls) ls, 1 ≤ z ∧ z ≤ 99 :=
  ⟨Nat.le_trans (swd_len _ _) h.few, swd_all ls (H ls) (fun a b h1 h2 => (h.ok a (row_lt h2)).low b h1 h2)⟩

set_option maxHeartbeats 8000000 in
set_option maxRecDepth 100000 in
theorem Straight_at (a : Option Addr) (n cap : Nat) (ls : List (List Int)) (w : World) (hs : TableX w a ls) (hn : n = ls.length) (hc : schk ls = 0) :
    Calls Try.prog 21 #[.slice a n cap] w fun e w' => ∃ v, e = .returned v ∧ Tbl w' w.heap.size v (recT ls) ∧ Below w.heap.size w w' := by
  subst hn
  have hI := schk_ok.1 hc
  have HS : Hid (TableX w a ls) := hs
  have HI : Hid (IsSk ls) := hI
  have HF : Hid (Few ls) := hI.fews
  have hl2 : ls.length ≤ 1000 := hI.fews.len
  have HB1 : Hid (Below w.heap.size w w) := Below.refl _ _
  clear hs hc hI
  go_enter Try.func21, Try.ntmps21
  have hsub : IntKind.i64.wrap ((ls.length : Int) - 1) = (ls.length : Int) - 1 := by rw [IntWalk.i64_left, IntWalk.wrap64_in _ (by omega)]
  go_wp2
  go_loopw [3, 4] (fun v iv wr => ∃ k : Nat, k ≤ ls.length ∧ iv = .int .i64 ((ls.length : Int) - 1 - (k : Int)) ∧ Hid (Owns wr w.heap.size v (swF ls k) ∧ (swF ls k).length ≤ 1000 * k) ∧ Hid (Below w.heap.size w wr)) (fun _ iv _ => ((intOf iv) + 1).toNat)
  case atStart => exact ⟨0, Nat.zero_le _, by simp, ⟨World.ownsRow_nil _ _ _ _, by simp [swF]⟩, Below.refl _ _⟩
  case round =>
    obtain ⟨k, hk, rfl, HO, HB⟩ := hrel
    by_cases hlt : k < ls.length
    · obtain ⟨m, HM⟩ : ∃ m, Hid (m = ls.length - 1 - k) := ⟨_, rfl⟩
      have hm : (ls.length : Int) - 1 - (k : Int) = (m : Int) := by rw [HM.out]; omega
      rw [hm]
      have hge : (m : Int) ≥ 0 := by omega
      have hml : (m : Int) < (ls.length : Int) := by rw [HM.out]; omega
      have HMl : Hid (m < ls.length) := by show _ < _; rw [HM.out]; omega
      have hms : IntKind.i64.wrap ((m : Int) - 1) = (m : Int) - 1 := by rw [IntWalk.i64_left, IntWalk.wrap64_in _ (by omega)]
      have HMe : Hid ((m : Int) - 1 = (ls.length : Int) - 1 - ((k + 1 : Nat) : Int)) := by show _ = _; rw [HM.out]; omega
      have HBw : Hid (Below w.heap.size w wr) := HB1.out.trans (HB.out.mono HB1.out.size)
      obtain ⟨b, off, ai, q, ci, rfl, hcr, HQ, HSk, hqc, hqb⟩ := (HS.out.below HBw.out).elem HMl.out
      have hrp := HF.out.one _ (row_mem HMl.out)
      obtain ⟨b2, off2, hai, -, -⟩ := HSk.out.cells (fun e => by have := hrp.1; rw [e] at this; simp at this)
      subst hai
      obtain ⟨h, HH⟩ : ∃ h, Hid (hol (row ls m) = h) := ⟨_, rfl⟩
      have hhq : h ≤ q := by rw [← HH.out, HQ.out]; exact hol_le _
      have hhq' : (h : Int) ≤ (q : Int) := by omega
      have hqc' : (q : Int) ≤ (ci : Int) := by omega
      have HCall : Hid (Calls Try.prog 19 #[.slice (some ⟨b2, off2, none⟩) q ci] wr.drew fun e w' => e = .returned (.int .i64 h) ∧ w' = wr.drew) := RHoles_is _ _ _ (row ls m) _ (HSk.out.below (below_drewN (Below.refl _ _) 1)) HQ.out HSk.out.len HH
      have HNx : Hid (swF ls (k + 1) = swF ls k ++ (row ls m).drop h) := by show _ = _; simp only [swF]; unfold H; rw [← HM.out, HH.out]
      have HLd : Hid (q - h = ((row ls m).drop h).length) := by show _ = _; rw [List.length_drop, HQ.out]
      have HLen : Hid ((swF ls k).length + ((row ls m).drop h).length ≤ 17592186044414) := by have := HO.out.2; have := (HF.out.one _ (row_mem HMl.out)).2; show _ ≤ _; rw [List.length_drop]; omega
      have HLx : Hid ((swF ls (k + 1)).length ≤ 1000 * (k + 1)) := by rw [HNx.out]; have := HO.out.2; have := (HF.out.one _ (row_mem HMl.out)).2; show _ ≤ _; rw [List.length_append, List.length_drop]; omega
      clear hm hrp
      by_cases hch : ci = h
      · subst hch
        have HSd : Hid (Shows wr.drew (some ⟨b2, off2, none⟩) ((row ls m).drop ci)) := by
          show Shows _ _ _
          rw [List.drop_eq_nil_of_le (by have := HQ.out; omega)]
          exact ⟨by simp, fun z hz => by simp at hz, fun hne => absurd rfl hne⟩
        have HOd := HO.out.1.below (below_drewN (Below.refl _ _) 1)
        have hqe : q - ci = 0 := by omega
        have HLd0 : Hid (0 = ((row ls m).drop ci).length) := by rw [← HLd.out]; exact hqe.symm
        go_wp2_with fail
        go_region_law (first | (refine step_rholes rfl (.tmp (21 + 1)) rfl (by first | (simp [Act.eval]; done) | (simp [Act.eval, Act.put]; done)) HCall.out ?_) | (refine step_src rfl (.tmp 14) (.tmp 24) rfl (by first | (simp [Act.eval]; done) | (simp [Act.eval, Act.put]; done)) (show _ = Value.slice (some ⟨b2, off2, none⟩) 0 0 from (by first | (simp [Act.eval]; done) | (simp [Act.eval, Act.put]; done))) HOd HSd.out HLd0.out (fun z => by cases z) HLen.out HB.out.size ?_; intro v' w2 hO' hb' _; clear HOd))
        all_goals (
          have HO2 : Hid (Owns w2 w.heap.size v' (swF ls (k + 1)) ∧ (swF ls (k + 1)).length ≤ 1000 * (k + 1)) := ⟨by rw [HNx.out]; exact hO', HLx.out⟩
          have HB2 : Hid (Below w.heap.size w w2) := (below_drewN HB.out 1).trans hb'
          clear hO' hb'
          go_wp2
          go_roundw
          case rel => exact ⟨k + 1, by omega, by rw [HMe.out], HO2, HB2⟩
          case measure => simp [intOf])
      · have HSd : Hid (Shows wr.drew (some ⟨b2, off2 + h, none⟩) ((row ls m).drop h)) := (HSk.out.dropO h).below (below_drewN (Below.refl _ _) 1)
        have HOd := HO.out.1.below (below_drewN (Below.refl _ _) 1)
        go_wp2_with fail
        go_region_law (first | (refine step_rholes rfl (.tmp (21 + 1)) rfl (by first | (simp [Act.eval]; done) | (simp [Act.eval, Act.put]; done)) HCall.out ?_) | (refine step_src rfl (.tmp 14) (.tmp 24) rfl (by first | (simp [Act.eval]; done) | (simp [Act.eval, Act.put]; done)) (show _ = Value.slice (some ⟨b2, off2 + h, none⟩) (q - h) (ci - h) from (by first | (simp [Act.eval]; done) | (simp [Act.eval, Act.put]; done))) HOd HSd.out HLd.out (fun z => by cases z) HLen.out HB.out.size ?_; intro v' w2 hO' hb' _; clear HOd))
        all_goals (
          have HO2 : Hid (Owns w2 w.heap.size v' (swF ls (k + 1)) ∧ (swF ls (k + 1)).length ≤ 1000 * (k + 1)) := ⟨by rw [HNx.out]; exact hO', HLx.out⟩
          have HB2 : Hid (Below w.heap.size w w2) := (below_drewN HB.out 1).trans hb'
          clear hO' hb'
          go_wp2
          go_roundw
          case rel => exact ⟨k + 1, by omega, by rw [HMe.out], HO2, HB2⟩
          case measure => simp [intOf])
    · obtain rfl : k = ls.length := by omega
      have hm : (ls.length : Int) - 1 - (ls.length : Int) = -1 := by omega
      rw [hm]
      have hge : ¬ (-1 : Int) ≥ 0 := by omega
      clear hm
      obtain ⟨W, HW⟩ : ∃ W, Hid (W = sword (H ls) ls) := ⟨_, rfl⟩
      have HWl : Hid (W.length ≤ 40) := by rw [HW.out]; exact HI.out.wordS.1
      have HWb : Hid (∀ z ∈ W, 1 ≤ z ∧ z ≤ 99) := by rw [HW.out]; exact HI.out.wordS.2
      have hO := HO.out.1
      rw [swF_is, ← HW.out] at hO
      have HVb : Hid (∀ z ∈ W, 0 ≤ z ∧ z ≤ 1000) := fun z hz => by have := HWb.out z hz; omega
      obtain ⟨a2, n2, c2, rfl, hS2, hn2, -⟩ := hO.opened (by have := HWl.out; omega) (small_wf HVb.out)
      have HN2 : Hid (n2 = W.length) := hn2
      have hn40 : n2 ≤ 40 := by rw [hn2]; exact HWl.out
      have HS2 : Hid (Shows wr a2 W) := hS2
      clear hO hS2 hn2 HO
      go_wp2_with fail
      refine (First_at n2 wr (by omega)).mono ?_
      rintro e w3 ⟨v3, rfl, hO3, hb3⟩
      have HB3 : Hid (Below w.heap.size w w3) := HB.out.trans (hb3.mono HB.out.size)
      obtain ⟨a3, c3, rfl, hS3⟩ := hO3.shows (by unfold firstL; rw [tab_length]; omega) (fun z hz => by obtain ⟨jj, hj, rfl⟩ := tab_mem hz; omega)
      have HS3 : Hid (Shows w3 a3 (firstL n2)) := hS3
      have HS4 : Hid (Shows w3 a2 W) := HS2.out.below hb3
      have HF3 : Hid ((firstL n2).length = n2) := by unfold firstL; exact tab_length _ _
      clear hO3 hb3 hS3
      go_wp2_with fail
      refine (OfWord_at _ _ _ _ _ _ W (firstL n2) _ HS4.out HS3.out HN2.out rfl (by rw [← HN2.out]; omega) (by rw [← HN2.out, HF3.out]; exact Nat.le_refl _) HVb.out).mono ?_
      rintro e w4 ⟨v4, u4, rfl, hT4, hU4, hb4⟩
      have hz : zipP W (firstL n2) = numW W := by
        have := zipP_first W
        rw [← HN2.out] at this; exact this
      have HR : Hid (insW [] W = recT ls) := by show _ = _; rw [HW.out]; rfl
      rw [hz, P_numW, HR.out] at hT4
      have HB4 : Hid (Below w.heap.size w w4) := HB3.out.trans (hb4.mono HB3.out.size)
      have HT4 : Hid (Tbl w4 w.heap.size v4 (recT ls)) := hT4.mono HB3.out.size
      obtain ⟨x4, y4, hx4⟩ : ∃ x4 y4, v4 = .slice x4 (recT ls).length y4 := by obtain ⟨vs, h⟩ := hT4; exact h.shape
      obtain ⟨x5, m5, y5, hx5⟩ : ∃ x5 m5 y5, u4 = .slice x5 m5 y5 := by obtain ⟨vs, h⟩ := hU4; obtain ⟨p, q, e⟩ := h.shape; exact ⟨_, _, _, e⟩
      subst hx4; subst hx5
      clear hT4 hU4 hb4 hz
      go_wp2
      go_ret
      exact ⟨_, rfl, HT4.out, HB4.out⟩

end Go.Proofs.Ytjciandmpfcfjaa
