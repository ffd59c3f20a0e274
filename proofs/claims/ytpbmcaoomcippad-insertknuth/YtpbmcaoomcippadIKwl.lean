/-
  The contracts of insert.mayChange, insert.changed, slices.Compare.
-/
import Derived.Test.YtpbmcaoomcippadIKmv
import Derived.Test.YtpbmcaoomcippadISrt
import Derived.Test.YtpbmcaoomcippadBApp
import Derived.Test.YtpbmcaoomcippadPChk
import Derived.Deep.DeepCutAuto
namespace Go.Proofs.Ytpbmcaoomcippad
open Go.RowKit

def mcB (w : List Int) (i : Nat) : Bool :=
  (decide (2 ≤ i) && decide (min (w.getD (i - 1) 0) (w.getD i 0) < w.getD (i - 2) 0) && decide (w.getD (i - 2) 0 ≤ max (w.getD (i - 1) 0) (w.getD i 0))) ||
  (decide (i + 1 < w.length) && decide (min (w.getD (i - 1) 0) (w.getD i 0) ≤ w.getD (i + 1) 0) && decide (w.getD (i + 1) 0 < max (w.getD (i - 1) 0) (w.getD i 0)))
theorem mcB_iff {w : List Int} {i : Nat} : mcB w i = true ↔ mcP w i := by
  unfold mcB mcP
  simp only [Bool.or_eq_true, Bool.and_eq_true, decide_eq_true_eq, and_assoc]

set_option maxHeartbeats 8000000 in
set_option maxRecDepth 100000 in
theorem mayChange_at {t : Bool} (a : Option Addr) (n cap : Nat) (zs : List Int) (i : Nat) (w : World) (hs : Shows w a zs) (hn : n = zs.length) (hl : zs.length ≤ 1000) (h1 : 1 ≤ i) (hi : i < zs.length) (E : Hid (mcB zs i = t)) :
    Calls Try.prog 50 #[.slice a n cap, .int .i64 i] w fun e w' => e = .returned (.bool t) ∧ ∃ d, w' = w.drewN d := by
  subst hn
  have HS : Hid (Shows w a zs) := hs
  clear hs
  obtain ⟨p, hp⟩ : ∃ p, p + 1 = i := ⟨i - 1, by omega⟩
  have hpi : IntKind.i64.wrap ((i : Int) - 1) = (p : Int) := by rw [IntWalk.i64_left, IntWalk.wrap64_in _ (by omega)]; omega
  have hii : IntKind.i64.wrap ((i : Int) + 1) = ((i + 1 : Nat) : Int) := by rw [IntWalk.i64_left, IntWalk.wrap64_in _ (by omega)]; omega
  have hil : (i : Int) < (zs.length : Int) := by omega
  have hpl : (p : Int) < (zs.length : Int) := by omega
  obtain ⟨b, off, y, rfl, HY, -, -, hcy⟩ := HS.out.elem hi
  obtain ⟨b', off', x, hab, HX, -, -, hcx⟩ := HS.out.elem (k := p) (by omega)
  simp only [Option.some.injEq, Addr.mk.injEq, and_true] at hab
  obtain ⟨rfl, rfl⟩ := hab
  obtain ⟨lo, hi2, HLo⟩ : ∃ lo hi2, Hid (lo = min x y ∧ hi2 = max x y) := ⟨_, _, rfl, rfl⟩
  have HE : Hid (t = ((decide (2 ≤ i) && decide (lo < zs.getD (i - 2) 0) && decide (zs.getD (i - 2) 0 ≤ hi2)) || (decide (i + 1 < zs.length) && decide (lo ≤ zs.getD (i + 1) 0) && decide (zs.getD (i + 1) 0 < hi2)))) := by
    show _ = _
    rw [← E.out]; unfold mcB
    rw [show i - 1 = p by omega, HLo.out.1, HLo.out.2, HX.out, HY.out]
  clear hp
  go_enter Try.func50, Try.ntmps50
  go_upto_region 1 with fail
  go_cut [5, 6] (fun s5 s6 wc => s5 = .int .i64 lo ∧ s6 = .int .i64 hi2 ∧ Hid (∃ d, wc = w.drewN d))
  case first =>
    rcases Int.lt_trichotomy x y with q | q | q
    · have c1 : ¬ y < x := by omega
      have e1 : Hid (lo = x ∧ hi2 = y) := by rw [HLo.out.1, HLo.out.2]; show _ ∧ _; omega
      go_quiet (fail)
      go_wp2_with fail
      go_meet
      exact ⟨by rw [e1.out.1], by rw [e1.out.2], ⟨_, rfl⟩⟩
    · have c1 : ¬ y < x := by omega
      have c2 : ¬ x < y := by omega
      have e1 : Hid (lo = x ∧ hi2 = x) := by rw [HLo.out.1, HLo.out.2]; show _ ∧ _; omega
      clear q
      go_quiet (fail)
      go_wp2_with fail
      go_meet
      exact ⟨by rw [e1.out.1], by rw [e1.out.2], ⟨_, rfl⟩⟩
    · have c2 : ¬ x < y := by omega
      have e1 : Hid (lo = y ∧ hi2 = x) := by rw [HLo.out.1, HLo.out.2]; show _ ∧ _; omega
      go_quiet (fail)
      go_wp2_with fail
      go_meet
      exact ⟨by rw [e1.out.1], by rw [e1.out.2], ⟨_, rfl⟩⟩
  case rest =>
    obtain ⟨rfl, rfl, HDc⟩ := hcut
    have HSc : Hid (Shows wc (some ⟨b, off, none⟩) zs) := by obtain ⟨d, hd⟩ := HDc.out; show Shows _ _ _; rw [hd]; exact HS.out.drewN d
    have ret_b : ∀ {u v : Bool}, u = v → Ending.returned (Value.bool u) = .returned (.bool v) := fun h => by rw [h]
    have RB : Hid (∀ {u v : Bool}, u = v → Ending.returned (Value.bool u) = .returned (.bool v)) := ret_b
    clear ret_b hcx hcy
    by_cases f1 : 2 ≤ i
    · have f1' : (i : Int) ≥ 2 := by omega
      obtain ⟨r, hr⟩ : ∃ r, r + 2 = i := ⟨i - 2, by omega⟩
      have hir : IntKind.i64.wrap ((i : Int) - 2) = (r : Int) := by rw [IntWalk.i64_left, IntWalk.wrap64_in _ (by omega)]; omega
      have hrl : (r : Int) < (zs.length : Int) := by omega
      obtain ⟨b3, off3, c, hab3, HCc, -, -, hcc⟩ := HSc.out.elem (k := r) (by omega)
      simp only [Option.some.injEq, Addr.mk.injEq, and_true] at hab3
      obtain ⟨rfl, rfl⟩ := hab3
      have HCi : Hid (zs.getD (i - 2) 0 = c) := by show _ = _; rw [HCc.out, show i - 2 = r by omega]
      rw [HCi.out] at HE
      clear hr
      by_cases f2 : lo < c
      · have f2b : decide (lo < c) = true := by simpa using f2
        by_cases f3 : c ≤ hi2
        · have f3b : decide (c ≤ hi2) = true := by simpa using f3
          have HF : Hid (t = true) := by rw [HE.out]; show _ = _; simp [f1, f2, f3]
          go_wp2
          go_ret
          exact ⟨RB.out HF.out.symm, HDc.out⟩
        · have f3b : decide (c ≤ hi2) = false := by simpa using f3
          by_cases g1 : i + 1 < zs.length
          · have g1' : ((i + 1 : Nat) : Int) < (zs.length : Int) := by omega
            obtain ⟨b4, off4, d, hab4, HD, -, -, hcd⟩ := HSc.out.elem g1
            simp only [Option.some.injEq, Addr.mk.injEq, and_true] at hab4
            obtain ⟨rfl, rfl⟩ := hab4
            by_cases g2 : lo ≤ d
            · have g2b : decide (lo ≤ d) = true := by simpa using g2
              by_cases g3 : d < hi2
              · have g3b : decide (d < hi2) = true := by simpa using g3
                have HF : Hid (t = true) := by rw [HE.out]; show _ = _; rw [← HD.out]; simp [f1, f2, f3, g1, g2, g3]
                go_wp2
                go_ret
                exact ⟨RB.out HF.out.symm, HDc.out⟩
              · have g3b : decide (d < hi2) = false := by simpa using g3
                have HF : Hid (t = false) := by rw [HE.out]; show _ = _; rw [← HD.out]; simp [f1, f2, f3, g1, g2, g3]; try omega
                go_wp2
                go_ret
                exact ⟨RB.out HF.out.symm, HDc.out⟩
            · have g2b : decide (lo ≤ d) = false := by simpa using g2
              have HF : Hid (t = false) := by rw [HE.out]; show _ = _; rw [← HD.out]; simp [f1, f2, f3, g1, g2]; try omega
              go_wp2
              go_ret
              exact ⟨RB.out HF.out.symm, HDc.out⟩
          · have g1' : ¬ ((i + 1 : Nat) : Int) < (zs.length : Int) := by omega
            have HF : Hid (t = false) := by rw [HE.out]; show _ = _; simp [f1, f2, f3, g1]; try omega
            go_wp2
            go_ret
            exact ⟨RB.out HF.out.symm, HDc.out⟩
      · have f2b : decide (lo < c) = false := by simpa using f2
        by_cases g1 : i + 1 < zs.length
        · have g1' : ((i + 1 : Nat) : Int) < (zs.length : Int) := by omega
          obtain ⟨b4, off4, d, hab4, HD, -, -, hcd⟩ := HSc.out.elem g1
          simp only [Option.some.injEq, Addr.mk.injEq, and_true] at hab4
          obtain ⟨rfl, rfl⟩ := hab4
          by_cases g2 : lo ≤ d
          · have g2b : decide (lo ≤ d) = true := by simpa using g2
            by_cases g3 : d < hi2
            · have g3b : decide (d < hi2) = true := by simpa using g3
              have HF : Hid (t = true) := by rw [HE.out]; show _ = _; rw [← HD.out]; simp [f1, f2, g1, g2, g3]
              go_wp2
              go_ret
              exact ⟨RB.out HF.out.symm, HDc.out⟩
            · have g3b : decide (d < hi2) = false := by simpa using g3
              have HF : Hid (t = false) := by rw [HE.out]; show _ = _; rw [← HD.out]; simp [f1, f2, g1, g2, g3]; try omega
              go_wp2
              go_ret
              exact ⟨RB.out HF.out.symm, HDc.out⟩
          · have g2b : decide (lo ≤ d) = false := by simpa using g2
            have HF : Hid (t = false) := by rw [HE.out]; show _ = _; rw [← HD.out]; simp [f1, f2, g1, g2]; try omega
            go_wp2
            go_ret
            exact ⟨RB.out HF.out.symm, HDc.out⟩
        · have g1' : ¬ ((i + 1 : Nat) : Int) < (zs.length : Int) := by omega
          have HF : Hid (t = false) := by rw [HE.out]; show _ = _; simp [f1, f2, g1]; try omega
          go_wp2
          go_ret
          exact ⟨RB.out HF.out.symm, HDc.out⟩
    · have f1' : ¬ (i : Int) ≥ 2 := by omega
      by_cases g1 : i + 1 < zs.length
      · have g1' : ((i + 1 : Nat) : Int) < (zs.length : Int) := by omega
        obtain ⟨b4, off4, d, hab4, HD, -, -, hcd⟩ := HSc.out.elem g1
        simp only [Option.some.injEq, Addr.mk.injEq, and_true] at hab4
        obtain ⟨rfl, rfl⟩ := hab4
        by_cases g2 : lo ≤ d
        · have g2b : decide (lo ≤ d) = true := by simpa using g2
          by_cases g3 : d < hi2
          · have g3b : decide (d < hi2) = true := by simpa using g3
            have HF : Hid (t = true) := by rw [HE.out]; show _ = _; rw [← HD.out]; simp [f1, g1, g2, g3]
            go_wp2
            go_ret
            exact ⟨RB.out HF.out.symm, HDc.out⟩
          · have g3b : decide (d < hi2) = false := by simpa using g3
            have HF : Hid (t = false) := by rw [HE.out]; show _ = _; rw [← HD.out]; simp [f1, g1, g2, g3]; try omega
            go_wp2
            go_ret
            exact ⟨RB.out HF.out.symm, HDc.out⟩
        · have g2b : decide (lo ≤ d) = false := by simpa using g2
          have HF : Hid (t = false) := by rw [HE.out]; show _ = _; rw [← HD.out]; simp [f1, g1, g2]; try omega
          go_wp2
          go_ret
          exact ⟨RB.out HF.out.symm, HDc.out⟩
      · have g1' : ¬ ((i + 1 : Nat) : Int) < (zs.length : Int) := by omega
        have HF : Hid (t = false) := by rw [HE.out]; show _ = _; simp [f1, g1]; try omega
        go_wp2
        go_ret
        exact ⟨RB.out HF.out.symm, HDc.out⟩
set_option maxHeartbeats 4000000 in
set_option maxRecDepth 100000 in
theorem changed_at (a : Option Addr) (n cap : Nat) (zs : List Int) (i : Nat) (w : World) (hs : Shows w a zs) (hn : n = zs.length) (hl : zs.length ≤ 1000) (h1 : 1 ≤ i) (hi : i < zs.length) :
    Calls Try.prog 51 #[.slice a n cap, .int .i64 i] w fun e w' => ∃ v, e = .returned v ∧ Owns w' w.heap.size v (chg zs i) ∧ Below w.heap.size w w' := by
  subst hn
  have HS : Hid (Shows w a zs) := hs
  obtain ⟨p, hp⟩ : ∃ p, p + 1 = i := ⟨i - 1, by omega⟩
  have hpi : IntKind.i64.wrap ((i : Int) - 1) = (p : Int) := by rw [IntWalk.i64_left, IntWalk.wrap64_in _ (by omega)]; omega
  have hil : (i : Int) < (zs.length : Int) := by omega
  have hpl : (p : Int) < (zs.length : Int) := by omega
  have HPi : Hid (p + 1 = i) := hp
  have HIl : Hid (i < zs.length) := hi
  obtain ⟨i0, hi0, hz0, hz1, hz2⟩ := info_parts Try.info3
  go_enter Try.func51, Try.ntmps51
  go_wp2_with (at_make; refine wpList_make_full _ rfl _ _ 22 rfl w.heap.size 3 i0 (.int .i64 0) 1 Try.underlying22 hi0 hz0 hz1 _ _ _ _ zs.length rfl rfl rfl rfl ?b1 ?b2 ?b3 ?_)
  case b1 => rw [hz2]; omega
  case b2 => unfold maxLen; omega
  case b3 => exact Nat.le_refl _
  intro w1 hown hgrow
  have hb1 : Below w.heap.size w w1 := (Below.refl _ _).grown hgrow (Nat.le_refl _) (fun k h => by cases h)
  have hrow : w1.heap[w.heap.size]? = some (.cells (List.replicate zs.length (Value.int .i64 0)).toArray 3 (0, 0)) := by
    rcases hown.2 with ⟨h2, _⟩ | ⟨g', cap', cur, hv, hg, hh, h4, h5, h6, h7⟩
    · cases h2
    · simp only [Value.slice.injEq, Option.some.injEq, Addr.mk.injEq, and_true, true_and] at hv
      obtain ⟨rfl, rfl⟩ := hv
      rw [hh]
      have e0 : cur.toList = List.replicate zs.length (Value.int .i64 0) := by
        rw [← toList_madeCells_one, List.take_of_length_le (by simp [h6])] at *
        rw [h7]
        try simp [Value.cells]
      rw [← e0]
  have hs1 := HS.out.below hb1
  obtain ⟨w2, hrun, HR2, hb2⟩ := run_copy_all (cap := cap) hs1 hrow hb1 (Nat.le_refl _)
  have HO : Hid (Owns w2 w.heap.size (.slice (some ⟨w.heap.size, 0, none⟩) zs.length zs.length) zs) := owns_of_row (Nat.le_refl _) HR2.out rfl (by omega)
  have HB : Hid (Below w.heap.size w w2) := hb2
  obtain ⟨-, hfz, hcl⟩ := HO.out.at rfl
  have hci := hcl i hi
  have hcp := hcl p (by omega)
  have hfi := hfz i
  have hfp := hfz p
  obtain ⟨x, HX⟩ : ∃ x, Hid (x = zs.getD p 0) := ⟨_, rfl⟩
  obtain ⟨y, HY⟩ : ∃ y, Hid (y = zs.getD i 0) := ⟨_, rfl⟩
  rw [← HY.out] at hci
  rw [← HX.out] at hcp
  have hne : ¬ i = p := by omega
  have hne2 : ¬ p = i := by omega
  have HF : Hid (∀ d, Owns (((w2.drewN d).setCell ⟨w.heap.size, p, none⟩ (.int .i64 y)).setCell ⟨w.heap.size, i, none⟩ (.int .i64 x)) w.heap.size (.slice (some ⟨w.heap.size, 0, none⟩) zs.length zs.length) (chg zs i)) := fun d => by
    have h := ((HO.out.below (below_drewN (Below.refl _ _) d)).store rfl p y).store (by rw [List.length_set]) i x
    have e : (zs.set p y).set i x = chg zs i := by unfold chg; rw [HX.out, HY.out, show i - 1 = p by have := HPi.out; omega]
    rw [e] at h; exact h
  have HBf : Hid (∀ d, Below w.heap.size w (((w2.drewN d).setCell ⟨w.heap.size, p, none⟩ (.int .i64 y)).setCell ⟨w.heap.size, i, none⟩ (.int .i64 x))) := fun d => ((below_drewN HB.out d).setCell (p := ⟨w.heap.size, p, none⟩) (Nat.le_refl _) _).setCell (p := ⟨w.heap.size, i, none⟩) (Nat.le_refl _) _
  clear hrow hown hgrow hs1 hs hb1 hb2 hcl hfz hp
  go_wp2_with fail
  go_region
  all_goals (
    go_wp2
    go_ret
    exact ⟨_, rfl, HF.out 1, HBf.out 1⟩)
/-- As Go compares lists. -/
def cmpL : List Int → List Int → Int
  | [], [] => 0
  | [], _ :: _ => -1
  | _ :: _, [] => 1
  | x :: xs, y :: ys => if x < y then -1 else if y < x then 1 else cmpL xs ys
theorem cmpL_refl : ∀ l, cmpL l l = 0 := by
  intro l; induction l with
  | nil => rfl
  | cons x l ih => simp [cmpL, ih]
theorem cmpL_trans : ∀ a b c, cmpL a b < 0 → cmpL b c < 0 → cmpL a c < 0 := by
  intro a
  induction a with
  | nil => intro b c h1 h2; cases b <;> cases c <;> simp [cmpL] at *
  | cons x a ih =>
    intro b c h1 h2
    cases b with
    | nil => simp [cmpL] at h1
    | cons y b =>
      cases c with
      | nil => simp [cmpL] at h2
      | cons z c =>
        simp only [cmpL] at h1 h2 ⊢
        by_cases q1 : x < y
        · by_cases q2 : y < z
          · rw [if_pos (by omega)]; omega
          · rw [if_neg q2] at h2
            by_cases q3 : z < y
            · rw [if_pos q3] at h2; omega
            · rw [if_pos (by omega)]; omega
        · rw [if_neg q1] at h1
          by_cases q3 : y < x
          · rw [if_pos q3] at h1; omega
          · rw [if_neg q3] at h1
            obtain rfl : x = y := by omega
            by_cases q2 : x < z
            · rw [if_pos q2]; omega
            · rw [if_neg q2] at h2 ⊢
              by_cases q4 : z < x
              · rw [if_pos q4] at h2; omega
              · rw [if_neg q4] at h2 ⊢
                exact ih b c h1 h2
theorem cmpL_ntrans : ∀ a b c, ¬ cmpL a b < 0 → ¬ cmpL b c < 0 → ¬ cmpL a c < 0 := by
  intro a
  induction a with
  | nil =>
    intro b c h1 h2
    cases b with
    | nil => cases c <;> simp [cmpL] at *
    | cons y b => simp [cmpL] at h1
  | cons x a ih =>
    intro b c h1 h2
    cases c with
    | nil => simp [cmpL]
    | cons z c =>
      cases b with
      | nil => simp [cmpL] at h2
      | cons y b =>
        simp only [cmpL] at h1 h2 ⊢
        by_cases q1 : x < y
        · rw [if_pos q1] at h1; omega
        · rw [if_neg q1] at h1
          by_cases q2 : y < z
          · rw [if_pos q2] at h2; omega
          · rw [if_neg q2] at h2
            rw [if_neg (by omega)]
            by_cases q3 : z < x
            · rw [if_pos q3]; omega
            · rw [if_neg q3]
              rw [if_neg (by omega)] at h1 h2
              exact ih b c h1 h2
theorem cmpL_bd : ∀ a b, -1 ≤ cmpL a b ∧ cmpL a b ≤ 1 := by
  intro a
  induction a with
  | nil => intro b; cases b <;> simp [cmpL]
  | cons x a ih =>
    intro b
    cases b with
    | nil => simp [cmpL]
    | cons y b => simp only [cmpL]; have := ih b; split <;> (try split) <;> omega
set_option maxHeartbeats 4000000 in
theorem CompareL_at (a b : Option Addr) (n m ca cb : Nat) (zs ys : List Int) (w : World) (hs : Shows w a zs) (ht : Shows w b ys) (hn : n = zs.length) (hm : m = ys.length) :
    Calls Try.prog 53 #[.slice a n ca, .slice b m cb] w fun e w' => e = .returned (.int .i64 (cmpL zs ys)) ∧ w' = w := by
  subst hn; subst hm
  have HS : Hid (Shows w a zs) := hs
  have HT : Hid (Shows w b ys) := ht
  have hl1 := hs.len
  have hl2 := ht.len
  clear hs ht
  go_enter Try.func53, Try.ntmps53
  go_wp2
  go_loop [11] (fun iv => ∃ k : Nat, k ≤ zs.length ∧ k ≤ ys.length ∧ iv = .int .i64 k ∧ Hid (cmpL zs ys = cmpL (zs.drop k) (ys.drop k))) (fun iv => zs.length - (intOf iv).toNat)
  case atStart => exact ⟨0, Nat.zero_le _, Nat.zero_le _, rfl, rfl⟩
  case round =>
    obtain ⟨k, hk, hk2, rfl, HC⟩ := hrel
    by_cases hlt : k < zs.length
    · have hlt' : (k : Int) < (zs.length : Int) := by omega
      obtain ⟨b1, off1, x, rfl, HX, -, -, hcx⟩ := HS.out.elem hlt
      by_cases hlt2 : k < ys.length
      · have hlt2' : ¬ (k : Int) ≥ (ys.length : Int) := by omega
        have hlt3 : (k : Int) < (ys.length : Int) := by omega
        obtain ⟨b2, off2, y, rfl, HY, -, -, hcy⟩ := HT.out.elem hlt2
        have HN : Hid (cmpL zs ys = if x < y then -1 else if y < x then 1 else cmpL (zs.drop (k + 1)) (ys.drop (k + 1))) := by
          show _ = _
          rw [HC.out, drop_cons zs k hlt, drop_cons ys k hlt2, ← HX.out, ← HY.out]; rfl
        obtain ⟨c, HCi⟩ : ∃ c, Hid (cmpI x y = c) := ⟨_, rfl⟩
        go_wp2_with fail
        refine (CompareI_at x y w).mono ?_
        rintro e w1 ⟨rfl, hw1⟩
        obtain rfl : w = w1 := hw1.symm
        clear hw1
        rw [HCi.out]
        by_cases q1 : x < y
        · have hc : c = -1 := by rw [← HCi.out]; unfold cmpI; rw [if_pos q1]
          subst hc
          have HF : Hid (cmpL zs ys = -1) := by rw [HN.out]; show _ = _; rw [if_pos q1]
          go_wp2
          go_ret
          exact ⟨ret_int HF.out.symm, rfl⟩
        · by_cases q2 : y < x
          · have hc : c = 1 := by rw [← HCi.out]; unfold cmpI; rw [if_neg q1, if_pos (by omega)]
            subst hc
            have HF : Hid (cmpL zs ys = 1) := by rw [HN.out]; show _ = _; rw [if_neg q1, if_pos q2]
            go_wp2
            go_ret
            exact ⟨ret_int HF.out.symm, rfl⟩
          · have hc : c = 0 := by rw [← HCi.out]; unfold cmpI; rw [if_neg q1, if_neg (by omega)]
            subst hc
            have HF : Hid (cmpL zs ys = cmpL (zs.drop (k + 1)) (ys.drop (k + 1))) := by rw [HN.out]; show _ = _; rw [if_neg q1, if_neg q2]
            go_wp2
            go_round
            case rel => exact ⟨k + 1, by omega, by omega, by go_num, HF⟩
            case measure => simp [intOf]; omega
      · have hlt2' : (k : Int) ≥ (ys.length : Int) := by omega
        have HF : Hid (cmpL zs ys = 1) := by
          show _ = _
          have e : ys.drop k = [] := List.drop_eq_nil_of_le (by omega)
          rw [HC.out, drop_cons zs k hlt, e]; rfl
        go_wp2
        go_ret
        exact ⟨ret_int HF.out.symm, rfl⟩
    · obtain rfl : k = zs.length := by omega
      have hlt' : ¬ (zs.length : Int) < (zs.length : Int) := by omega
      by_cases q : zs.length < ys.length
      · have q' : (zs.length : Int) < (ys.length : Int) := by omega
        have HF : Hid (cmpL zs ys = -1) := by
          show _ = _
          rw [HC.out, List.drop_length, drop_cons ys zs.length q]; rfl
        go_wp2
        go_ret
        exact ⟨ret_int HF.out.symm, rfl⟩
      · have q' : ¬ (zs.length : Int) < (ys.length : Int) := by omega
        have HF : Hid (cmpL zs ys = 0) := by
          show _ = _
          have e : ys.drop zs.length = [] := List.drop_eq_nil_of_le (by omega)
          rw [HC.out, List.drop_length, e]; rfl
        go_wp2
        go_ret
        exact ⟨ret_int HF.out.symm, rfl⟩

end Go.Proofs.Ytpbmcaoomcippad
