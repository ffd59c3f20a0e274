/-
  The contract of ferref.Numbered.
-/
import Derived.Test.YtgcagoalnhgljacVChk
namespace Go.Proofs.Ytgcagoalnhgljac
open Go.RowKit

def numF (ls : List (List Int)) (i j a b : Nat) : Int := if a < i ∨ a = i ∧ b < j then (numAt ls a b : Nat) else box ls a b
theorem numF_start (ls : List (List Int)) : tab2 ls (numF ls 0 0) = ls := by
  rw [tab2_congr (g := box ls) (fun a b _ _ => by unfold numF; rw [if_neg (by omega)]), tab2_self]
theorem numF_end (ls : List (List Int)) : tab2 ls (numF ls ls.length 0) = numbered ls :=
  tab2_congr (fun a b ha hb => by unfold numF; rw [if_pos (Or.inl ha)])
theorem numF_row (ls : List (List Int)) (i : Nat) : tab2 ls (numF ls i (row ls i).length) = tab2 ls (numF ls (i + 1) 0) :=
  tab2_congr (fun a b ha hb => by
    unfold numF
    by_cases h : a < i ∨ a = i ∧ b < (row ls i).length
    · rw [if_pos h, if_pos (by omega)]
    · rw [if_neg h, if_neg (by
        intro h2
        apply h
        rcases h2 with h2 | h2
        · by_cases e : a = i
          · subst e; exact Or.inr ⟨rfl, hb⟩
          · left; omega
        · omega)])
theorem numF_step {ls : List (List Int)} {i j : Nat} {x : Int} (hx : x = (numAt ls i j : Nat)) : (tab2 ls (numF ls i j)).set i (((tab2 ls (numF ls i j)).getD i []).set j x) = tab2 ls (numF ls i (j + 1)) := by
  rw [tab2_set]
  refine tab2_congr (fun a b _ _ => ?_)
  by_cases e : a = i ∧ b = j
  · rw [if_pos e, e.1, e.2]
    unfold numF; rw [if_pos (by omega), hx]
  · rw [if_neg e]
    unfold numF
    by_cases h : a < i ∨ a = i ∧ b < j
    · rw [if_pos h, if_pos (by omega)]
    · rw [if_neg h, if_neg (by omega)]

/-- How many of the boxes ahead of (a, b), row by row, come ahead of (i, j). -/
def cntTo (ls : List (List Int)) (i j a b : Nat) : Nat := S a (fun c => S (row ls c).length (fun d => ind (box ls c d < box ls i j ∨ box ls c d = box ls i j ∧ d < j))) + S b (fun d => ind (box ls a d < box ls i j ∨ box ls a d = box ls i j ∧ d < j))
theorem cntTo_step (ls : List (List Int)) (i j a b : Nat) : cntTo ls i j a (b + 1) = cntTo ls i j a b + ind (box ls a b < box ls i j ∨ box ls a b = box ls i j ∧ b < j) := by
  unfold cntTo; rw [S]; omega
theorem cntTo_row (ls : List (List Int)) (i j a : Nat) : cntTo ls i j a (row ls a).length = cntTo ls i j (a + 1) 0 := by
  unfold cntTo; rw [S, S]; omega
theorem cntTo_end (ls : List (List Int)) (i j : Nat) : 1 + cntTo ls i j ls.length 0 = numAt ls i j := by
  unfold cntTo numAt SS; simp only [S, Nat.add_zero]
theorem S_const_le {n m : Nat} {f : Nat → Nat} (h : ∀ i, i < n → f i ≤ m) : S n f ≤ n * m := by
  induction n with
  | zero => simp [S]
  | succ n ih =>
    have h1 := ih (fun i hi => h i (by omega))
    have h2 := h n (by omega)
    rw [S, Nat.add_mul]; omega
theorem cntTo_bd {ls : List (List Int)} (h : IsTab ls) {i j a b : Nat} (ha : a ≤ ls.length) (hb : b ≤ 40) : cntTo ls i j a b ≤ 2000 := by
  unfold cntTo
  have h1 := S_const_le (n := a) (m := 40) (f := fun c => S (row ls c).length (fun d => ind (box ls c d < box ls i j ∨ box ls c d = box ls i j ∧ d < j))) (fun c hc => by
    have := S_const_le (n := (row ls c).length) (m := 1) (f := fun d => ind (box ls c d < box ls i j ∨ box ls c d = box ls i j ∧ d < j)) (fun d _ => ind_le _)
    have := h.width (a := c) (by omega); omega)
  have h2 := S_const_le (n := b) (m := 1) (f := fun d => ind (box ls a d < box ls i j ∨ box ls a d = box ls i j ∧ d < j)) (fun d _ => ind_le _)
  have h3 := h.rows
  have : a * 40 ≤ 40 * 40 := Nat.mul_le_mul_right _ (by omega)
  omega

set_option maxHeartbeats 8000000 in
set_option maxRecDepth 100000 in
theorem Numbered_at (a : Option Addr) (n cap : Nat) (ls : List (List Int)) (w : World) (hs : Table w a ls) (hn : n = ls.length) (hp : IsTab ls) :
    Calls Try.prog 24 #[.slice a n cap] w fun e w' => ∃ v, e = .returned v ∧ Tbl w' w.heap.size v (numbered ls) ∧ Below w.heap.size w w' := by
  subst hn
  have h40 := hp.rows
  have HT : Hid (IsTab ls) := hp
  have HS : Hid (Table w a ls) := hs
  clear hp hs
  go_enter Try.func24, Try.ntmps24
  go_wp2_with fail
  refine (Twin_at _ _ _ _ _ HS.out rfl (by omega) (fun l hl => by have := (tab_SmT HT.out).2 l hl; omega)).mono ?_
  rintro e w1 ⟨T, rfl, hT, hb1⟩
  have HB1 : Hid (Below w.heap.size w w1) := hb1
  have HT1 : Hid (Tbl w1 w.heap.size T (tab2 ls (numF ls 0 0))) := by show Tbl _ _ _ _; rw [numF_start]; exact hT
  obtain ⟨vs0, hV0⟩ := HT1.out
  obtain ⟨aT, cT, hTs⟩ : ∃ aT cT, T = .slice aT ls.length cT := by
    rcases hV0.own.2 with ⟨h1, h2⟩ | ⟨g, c, cur, h1, _⟩
    · exact ⟨none, 0, by rw [h1]; have := hV0.len; rw [tab2_length] at this; rw [← this, h2]⟩
    · exact ⟨_, c, by rw [h1, hV0.len, tab2_length]⟩
  subst hTs
  clear hV0 hT hb1
  go_wp2
  go_loopw [4] (fun q wr => ∃ i : Nat, i ≤ ls.length ∧ q = .int .i64 i ∧ Hid (Tbl wr w.heap.size (.slice aT ls.length cT) (tab2 ls (numF ls i 0))) ∧ Hid (Below w.heap.size w wr)) (fun q _ => ls.length - (intOf q).toNat)
  case atStart => exact ⟨0, Nat.zero_le _, rfl, HT1, HB1⟩
  case round =>
    obtain ⟨i, hi, rfl, HTi, HBi⟩ := hrel
    clear HT1 HB1
    by_cases hil : i < ls.length
    · have hil' : (i : Int) < (ls.length : Int) := by omega
      have HIL : Hid (i < ls.length) := hil
      obtain ⟨b, off, ai, m, ci, rfl, HCi, HMi, HSi, -, hmb⟩ := HS.out.elemB hil
      have hm40 : m ≤ 40 := by rw [HMi.out]; exact HT.out.width hil
      go_wp2
      go_loopw [5] (fun q wr => ∃ j : Nat, j ≤ m ∧ q = .int .i64 j ∧ Hid (Tbl wr w.heap.size (.slice aT ls.length cT) (tab2 ls (numF ls i j))) ∧ Hid (Below w.heap.size w wr)) (fun q _ => m - (intOf q).toNat)
      case atStart => exact ⟨0, Nat.zero_le _, rfl, HTi, HBi⟩
      case round =>
        obtain ⟨j, hj, rfl, HTj, HBj⟩ := hrel
        clear HTi HBi
        obtain ⟨W, hW⟩ : ∃ W, W = wr := ⟨_, rfl⟩
        subst hW
        have hci := HCi.out _ HBj.out
        by_cases hjm : j < m
        · have hjm' : (j : Int) < (m : Int) := by omega
          have HJR : Hid (j < (row ls i).length) := by show _ < _; rw [← HMi.out]; exact hjm
          obtain ⟨b2, off2, y, hai, HY, -, -, hcy⟩ := (HSi.out.below HBj.out).elem HJR.out
          subst hai
          have HY' : Hid (y = box ls i j) := HY.out
          clear HY
          go_wp2
          go_loopw [6, 7] (fun v q wr => ∃ (c u : Nat), c ≤ ls.length ∧ q = .int .i64 c ∧ v = .int .i64 ((u : Int) + 1) ∧ u ≤ 2000 ∧ Hid (u = cntTo ls i j c 0) ∧ ∃ n, wr = W.drewN n) (fun _ q _ => ls.length - (intOf q).toNat)
          case atStart => exact ⟨0, 0, Nat.zero_le _, rfl, rfl, by omega, by simp [Hid, cntTo, S], 0, rfl⟩
          case round =>
            obtain ⟨c, u, hc, rfl, rfl, hu, HU, n, rfl⟩ := hrel
            by_cases hcl : c < ls.length
            · have hcl' : (c : Int) < (ls.length : Int) := by omega
              have HCL : Hid (c < ls.length) := hcl
              obtain ⟨b1, off1, ac, mc, cc, hbb, HCc, HMc, HSc, -, hmcb⟩ := HS.out.elemB hcl
              simp only [Option.some.injEq, Addr.mk.injEq, and_true] at hbb
              obtain ⟨rfl, rfl⟩ := hbb
              have hcc := HCc.out _ HBj.out
              have hmc40 : mc ≤ 40 := by rw [HMc.out]; exact HT.out.width hcl
              go_wp2
              go_loopw [6, 8] (fun v q wr => ∃ (d x : Nat), d ≤ mc ∧ q = .int .i64 d ∧ v = .int .i64 ((x : Int) + 1) ∧ x ≤ 2000 ∧ Hid (x = cntTo ls i j c d) ∧ ∃ n, wr = W.drewN n) (fun _ q _ => mc - (intOf q).toNat)
              case atStart => exact ⟨0, u, Nat.zero_le _, rfl, rfl, hu, HU, n, rfl⟩
              case round =>
                obtain ⟨d, x, hd, rfl, rfl, hx, HX, n2, rfl⟩ := hrel
                by_cases hdl : d < mc
                · have hdl' : (d : Int) < (mc : Int) := by omega
                  have HDR : Hid (d < (row ls c).length) := by show _ < _; rw [← HMc.out]; exact hdl
                  obtain ⟨b3, off3, z, hac, HZ, -, -, hcz⟩ := (HSc.out.below HBj.out).elem HDR.out
                  subst hac
                  have HZ' : Hid (z = box ls c d) := HZ.out
                  have HStep : Hid (cntTo ls i j c (d + 1) = x + ind (z < y ∨ z = y ∧ d < j)) := by
                    show _ = _; rw [cntTo_step, ← HX.out]; simp only [← HZ'.out, ← HY'.out]
                  have hx2 : x < 2000 ∨ x = 2000 := by omega
                  have HBd : Hid (cntTo ls i j c (d + 1) ≤ 2000) := cntTo_bd HT.out (by have := HCL.out; omega) (by omega)
                  clear HZ hx2
                  by_cases h1 : z < y
                  · have g1 : decide (z < y) = true := decide_eq_true h1
                    have HN : Hid (x + 1 = cntTo ls i j c (d + 1)) := by show _ = _; rw [HStep.out, ind_pos (Or.inl h1)]
                    go_wp2_with fail
                    go_quiet (fail)
                    go_wp2
                    go_roundw
                    case rel => first | exact ⟨d + 1, x + 1, by omega, by go_num, by go_num, by have := HN.out; have := HBd.out; omega, HN, _, (by first | exact rfl | exact drewN_two _ _ _)⟩ | ((repeat apply Exists.intro); exact ⟨⟨d + 1, x + 1, by omega, by go_num, by go_num, by have := HN.out; have := HBd.out; omega, HN, _, (by first | exact rfl | exact drewN_two _ _ _)⟩, rfl⟩)
                    case measure => simp [intOf]; omega
                  · have g1 : decide (z < y) = false := decide_eq_false h1
                    by_cases h2 : z = y
                    · subst h2
                      have g2 : (z == z) = true := by simp
                      by_cases h3 : d < j
                      · have g3 : decide ((d : Int) < (j : Int)) = true := decide_eq_true (by omega)
                        have HN : Hid (x + 1 = cntTo ls i j c (d + 1)) := by show _ = _; rw [HStep.out, ind_pos (Or.inr ⟨rfl, h3⟩)]
                        go_wp2_with fail
                        go_quiet (fail)
                        go_wp2
                        go_roundw
                        case rel => first | exact ⟨d + 1, x + 1, by omega, by go_num, by go_num, by have := HN.out; have := HBd.out; omega, HN, _, (by first | exact rfl | exact drewN_two _ _ _)⟩ | ((repeat apply Exists.intro); exact ⟨⟨d + 1, x + 1, by omega, by go_num, by go_num, by have := HN.out; have := HBd.out; omega, HN, _, (by first | exact rfl | exact drewN_two _ _ _)⟩, rfl⟩)
                        case measure => simp [intOf]; omega
                      · have g3 : decide ((d : Int) < (j : Int)) = false := decide_eq_false (by omega)
                        have HN : Hid (x = cntTo ls i j c (d + 1)) := by show _ = _; rw [HStep.out, ind_neg (by omega)]; rfl
                        go_wp2_with fail
                        go_quiet (fail)
                        go_wp2
                        go_roundw
                        case rel => first | exact ⟨d + 1, x, by omega, by go_num, by go_num, hx, HN, _, (by first | exact rfl | exact drewN_two _ _ _)⟩ | ((repeat apply Exists.intro); exact ⟨⟨d + 1, x, by omega, by go_num, by go_num, hx, HN, _, (by first | exact rfl | exact drewN_two _ _ _)⟩, rfl⟩)
                        case measure => simp [intOf]; omega
                    · have g2 : (z == y) = false := by simpa using h2
                      have HN : Hid (x = cntTo ls i j c (d + 1)) := by show _ = _; rw [HStep.out, ind_neg (by omega)]; rfl
                      have h1' : y ≤ z := by omega
                      clear h2 h1
                      go_wp2_with fail
                      go_quiet (fail)
                      go_wp2
                      go_roundw
                      case rel => first | exact ⟨d + 1, x, by omega, by go_num, by go_num, hx, HN, _, (by first | exact rfl | exact drewN_two _ _ _)⟩ | ((repeat apply Exists.intro); exact ⟨⟨d + 1, x, by omega, by go_num, by go_num, hx, HN, _, (by first | exact rfl | exact drewN_two _ _ _)⟩, rfl⟩)
                      case measure => simp [intOf]; omega
                · obtain rfl : d = mc := by omega
                  have HN : Hid (x = cntTo ls i j (c + 1) 0) := by show _ = _; rw [HX.out, HMc.out, cntTo_row]
                  go_wp2
                  go_roundw
                  case rel => first | exact ⟨c + 1, x, HCL.out, by go_num, rfl, hx, HN, n2, rfl⟩ | ((repeat apply Exists.intro); exact ⟨⟨c + 1, x, HCL.out, by go_num, rfl, hx, HN, n2, rfl⟩, rfl⟩)
                  case measure => have := HCL.out; simp [intOf]; omega
            · obtain rfl : c = ls.length := by omega
              have HX : Hid (((u : Int) + 1) = (numAt ls i j : Nat)) := by show _ = _; rw [← cntTo_end, ← HU.out]; omega
              obtain ⟨vs, hV⟩ := HTj.out
              have hi2 : i < (tab2 ls (numF ls i j)).length := by rw [tab2_length]; exact HIL.out
              obtain ⟨tg, n5, c5, hTv, hn5, htH, htw, htf, htc⟩ := hV.head (by omega)
              simp only [Value.slice.injEq] at hTv
              obtain ⟨rfl, rfl, rfl⟩ := hTv
              have hct := htc i hi2
              have hrl : ((tab2 ls (numF ls i j)).getD i []).length = m := by
                have := tab2_row (f := numF ls i j) HIL.out
                unfold row at this
                rw [this, tab_length, HMi.out]; rfl
              obtain ⟨h, ch, hrv, hh1, hh2, hhf, hhc⟩ := (hV.rows i hi2).head (by rw [hrl]; omega)
              rw [hrl] at hrv
              rw [hrv] at hct
              have hcj := hhc j (by rw [hrl]; exact hjm)
              have hfj := hhf j
              have HST := hV.storeBox hi2 hrv (by rw [hrl]) j ((u : Int) + 1)
              have HT2 : Hid (Tbl (W.setCell ⟨h, j, none⟩ (.int .i64 ((u : Int) + 1))) w.heap.size (.slice (some ⟨tg, 0, none⟩) ls.length cT) (tab2 ls (numF ls i (j + 1)))) := by
                refine ⟨vs, ?_⟩
                rw [numF_step HX.out] at HST; exact HST
              have HB2 : Hid (Below w.heap.size w (W.setCell ⟨h, j, none⟩ (.int .i64 ((u : Int) + 1)))) := HBj.out.setCell (p := ⟨h, j, none⟩) hh1 _
              clear htc htf hhf hhc HST hV
              have hnl : ¬ ((ls.length : Int) < (ls.length : Int)) := by omega
              go_wp2
              go_roundw
              case rel => first | exact ⟨j + 1, by omega, by go_num, HT2.out.same (fun _ _ _ => rfl), below_drewN HB2.out n⟩ | ((repeat apply Exists.intro); exact ⟨⟨j + 1, by omega, by go_num, HT2.out.same (fun _ _ _ => rfl), below_drewN HB2.out n⟩, rfl⟩)
              case measure => simp [intOf]; omega
        · obtain rfl : j = m := by omega
          have HE : Hid (Tbl W w.heap.size (.slice aT ls.length cT) (tab2 ls (numF ls (i + 1) 0))) := by
            show Tbl _ _ _ _
            rw [← numF_row, ← HMi.out]; exact HTj.out
          go_wp2
          go_roundw
          case rel => first | exact ⟨i + 1, HIL.out, by go_num, HE, HBj⟩ | ((repeat apply Exists.intro); exact ⟨⟨i + 1, HIL.out, by go_num, HE, HBj⟩, rfl⟩)
          case measure => have := HIL.out; simp [intOf]; omega
    · obtain rfl : i = ls.length := by omega
      have HE : Hid (Tbl wr w.heap.size (.slice aT ls.length cT) (numbered ls)) := by show Tbl _ _ _ _; rw [← numF_end]; exact HTi.out
      go_wp2
      go_ret
      exact ⟨_, rfl, HE.out, HBi.out⟩

end Go.Proofs.Ytgcagoalnhgljac
