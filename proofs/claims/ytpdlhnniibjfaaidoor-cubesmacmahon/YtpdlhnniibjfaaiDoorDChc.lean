/-
  The contract of cubes.Check.
-/
import Derived.Test.YtpdlhnniibjfaaiDoorDChk
namespace Go.Proofs.YtpdlhnniibjfaaiDoor
open Go.RowKit

/-- the rows are a pile in a room of height h -/
structure PileL (ls : List (List Int)) (h : Int) : Prop where
  hs : 1 ≤ h ∧ h ≤ 8
  ls1 : 1 ≤ (ls.length : Int) ∧ (ls.length : Int) ≤ 8
  cs : 1 ≤ ((row ls 0).length : Int) ∧ ((row ls 0).length : Int) ≤ 8
  all : ∀ i, i < ls.length → (row ls i).length = (row ls 0).length ∧ ∀ j, j < (row ls i).length → 0 ≤ box ls i j ∧ box ls i j ≤ most ls i j h
open Classical in
noncomputable def pilC (ls : List (List Int)) (h : Int) : Int := if PileL ls h then 0 else 1
theorem pilC_yes {ls : List (List Int)} {h : Int} (p : PileL ls h) : pilC ls h = 0 := if_pos p
theorem pilC_no {ls : List (List Int)} {h : Int} (p : ¬ PileL ls h) : pilC ls h = 1 := if_neg p

theorem PileL.fn {ls : List (List Int)} {h : Int} (p : PileL ls h) : ∃ (r c k : Nat) (P : Nat → Nat → Nat), ls = tb r c P ∧ h = (k : Int) ∧ Pil r c k P := by
  refine ⟨ls.length, (row ls 0).length, h.toNat, fun i j => (box ls i j).toNat, ?_, by have := p.hs; omega, ?_⟩
  · refine ext_row (by rw [tb_len]) (fun i hi => ?_)
    rw [tb_row hi]
    refine ext_getD (by rw [tab_length, (p.all i hi).1]) (fun j hj => ?_)
    have h1 := ((p.all i hi).2 j hj).1
    rw [tab_getD _ _ _ (by rw [← (p.all i hi).1]; exact hj)]
    show box ls i j = _
    omega
  · have hb : ∀ i, i < ls.length → ∀ j, j < (row ls 0).length → 0 ≤ box ls i j ∧ box ls i j ≤ most ls i j h := fun i hi j hj => (p.all i hi).2 j (by rw [(p.all i hi).1]; exact hj)
    have hm : ∀ i j, most ls i j h ≤ h := fun i j => by unfold most; simp only []; split <;> split <;> omega
    have h1 := p.hs
    have h2 := p.ls1
    have h3 := p.cs
    refine ⟨by omega, by omega, by omega, by omega, by omega, by omega, fun i hi j hj => ?_, fun i hi j hj => ?_, fun i hi j hj => ?_⟩
    · have := hb i hi j hj; have := hm i j; show (box ls i j).toNat ≤ h.toNat; omega
    · have h4 := hb i hi (j + 1) hj
      have h5 : most ls i (j + 1) h ≤ box ls i j := by unfold most; simp only [Nat.zero_lt_succ, if_true, Nat.add_sub_cancel]; split <;> omega
      show (box ls i (j + 1)).toNat ≤ (box ls i j).toNat
      omega
    · have h4 := hb (i + 1) hi j hj
      have h5 : most ls (i + 1) j h ≤ box ls i j := by unfold most; simp only [Nat.zero_lt_succ, if_true, Nat.add_sub_cancel]; split <;> omega
      show (box ls (i + 1) j).toNat ≤ (box ls i j).toNat
      omega

theorem box_tb {r c : Nat} {P : Nat → Nat → Nat} {i j : Nat} (hi : i < r) (hj : j < c) : box (tb r c P) i j = (P i j : Int) := by unfold box; rw [tb_row hi, tab_getD _ _ _ hj]

theorem pil_list {r c k : Nat} {P : Nat → Nat → Nat} (p : Pil r c k P) : PileL (tb r c P) (k : Int) := by
  have e0 : (row (tb r c P) 0).length = c := by rw [tb_row (by have := p.r1; omega), tab_length]
  have h1 := p.r1; have h2 := p.r8; have h3 := p.c1; have h4 := p.c8; have h5 := p.h1; have h6 := p.h8
  refine ⟨by omega, by rw [tb_len]; omega, by rw [e0]; omega, fun i hi => ?_⟩
  rw [tb_len] at hi
  refine ⟨by rw [e0, tb_row hi, tab_length], fun j hj => ?_⟩
  rw [tb_row hi, tab_length] at hj
  refine ⟨by rw [box_tb hi hj]; omega, ?_⟩
  have hle := p.le i hi j hj
  unfold most
  rw [box_tb hi hj]
  have hA : 0 < j → box (tb r c P) i (j - 1) ≥ (P i j : Int) := fun h0 => by
    rw [box_tb hi (by omega)]
    have := p.row i hi (j - 1) (by omega)
    rw [show j - 1 + 1 = j by omega] at this
    omega
  have hB : 0 < i → box (tb r c P) (i - 1) j ≥ (P i j : Int) := fun h0 => by
    rw [box_tb (by omega) hj]
    have := p.col (i - 1) (by omega) j hj
    rw [show i - 1 + 1 = i by omega] at this
    omega
  by_cases a : 0 < j <;> by_cases b : 0 < i <;> simp only [a, b, if_true, if_false]
  · have := hA a; have := hB b; omega
  · have := hA a; omega
  · have := hB b; omega
  · omega

theorem sides2 (h : Int) (n : Int) : sides [h, n] ↔ (1 ≤ h ∧ h ≤ 8) ∧ (1 ≤ n ∧ n ≤ 8) := by simp [sides]
theorem sides1 (h : Int) : sides [h] ↔ (1 ≤ h ∧ h ≤ 8) := by simp [sides]

set_option maxHeartbeats 1000000 in
theorem Check_at (a : Option Addr) (n cap : Nat) (ls : List (List Int)) (h : Int) (w : World) (hh : -9223372036854775808 ≤ h ∧ h ≤ 9223372036854775807) (hs : Table w a ls) (hn : n = ls.length) (hl : ls.length ≤ 17592186044416) :
    Calls Tryd.prog 24 #[.slice a n cap, .int .i64 h] w fun e w' => e = .returned (.int .i64 (pilC ls h)) ∧ Hid (Below w.heap.size w w') := by
  subst hn
  have HS : Hid (Table w a ls) := hs
  have HW : Hid (-9223372036854775808 ≤ h ∧ h ≤ 9223372036854775807) := hh
  clear hs hh
  have SL1 : ∀ (W : World), Shows (W.alloc (.cells #[.int .i64 h, .int .i64 (ls.length : Int)] 3)) (some ⟨W.heap.size, 0, none⟩) [h, (ls.length : Int)] := fun W => shows_lit W [h, (ls.length : Int)] _ rfl (by simp) (by
    have := HW.out
    simp; omega)
  have HSL1 : Hid (∀ (W : World), Shows (W.alloc (.cells #[.int .i64 h, .int .i64 (ls.length : Int)] 3)) (some ⟨W.heap.size, 0, none⟩) [h, (ls.length : Int)]) := SL1
  clear SL1
  have HB1 : Hid (Below w.heap.size w (w.alloc (.cells #[.int .i64 h, .int .i64 (ls.length : Int)] 3))) := (Below.refl _ _).alloc (Nat.le_refl _) _
  by_cases hA : sides [h, (ls.length : Int)]
  · have HA : Hid (decide (sides [h, (ls.length : Int)]) = true) := decide_eq_true hA
    have HAs : Hid ((1 ≤ h ∧ h ≤ 8) ∧ 1 ≤ (ls.length : Int) ∧ (ls.length : Int) ≤ 8) := (sides2 _ _).1 hA
    have hl8 := HAs.out.2
    clear hA hl
    have hl0 : (0 : Int) < (ls.length : Int) := by omega
    obtain ⟨b, off, ai, m0, ci, rfl, hc0, HM0, -, -, hmb0⟩ := (HS.out.below HB1.out).elemR (k := 0) (by omega)
    rw [Nat.add_zero] at hc0
    have hbl : b < (w.alloc (.cells #[.int .i64 h, .int .i64 (ls.length : Int)] 3)).heap.size := by
      obtain ⟨b9, off9, _, _, e9, h9, _⟩ := (HS.out.below HB1.out) 0 (by omega)
      simp only [Option.some.injEq, Addr.mk.injEq, and_true] at e9
      rw [e9.1]; exact h9
    have HSL2 : Hid (Shows ((w.alloc (.cells #[.int .i64 h, .int .i64 (ls.length : Int)] 3)).alloc (.cells #[.int .i64 (m0 : Int)] 3)) (some ⟨w.heap.size + 1, 0, none⟩) [(m0 : Int)]) := by
      have := shows_lit (w.alloc (.cells #[.int .i64 h, .int .i64 (ls.length : Int)] 3)) [(m0 : Int)] _ rfl (by simp) (by simp; omega)
      rw [World.size_alloc] at this
      exact this
    have HB2 : Hid (Below w.heap.size w ((w.alloc (.cells #[.int .i64 h, .int .i64 (ls.length : Int)] 3)).alloc (.cells #[.int .i64 (m0 : Int)] 3))) := HB1.out.trans (((Below.refl _ _).alloc (Nat.le_refl _) _).mono HB1.out.size)
    by_cases hB : sides [(m0 : Int)]
    · have HD : Hid (decide (sides [(m0 : Int)]) = true) := decide_eq_true hB
      have hm8 : 1 ≤ (m0 : Int) ∧ (m0 : Int) ≤ 8 := (sides1 _).1 hB
      clear hB hmb0
      go_enter Tryd.func24, Tryd.ntmps24
      go_wp2_with fail
      refine (areSides_at _ _ _ _ _ (HSL1.out w) rfl).mono ?_
      rintro e w1 ⟨rfl, rfl⟩
      rw [HA.out]
      go_wp2_with fail
      refine (areSides_at _ _ _ _ _ HSL2.out rfl).mono ?_
      rintro e w1 ⟨rfl, rfl⟩
      rw [HD.out]
      have hcW : ((w.alloc (.cells #[.int .i64 h, .int .i64 (ls.length : Int)] 3)).alloc (.cells #[.int .i64 (m0 : Int)] 3)).cell? ⟨b, off, none⟩ = some (.slice ai m0 ci) := (((Below.refl _ _).alloc (Nat.le_refl _) _).cell (p := ⟨b, off, none⟩) hbl).trans hc0
      clear hc0
      obtain ⟨W, HWd⟩ : ∃ W, Hid (W = (w.alloc (.cells #[.int .i64 h, .int .i64 (ls.length : Int)] 3)).alloc (.cells #[.int .i64 (m0 : Int)] 3)) := ⟨_, rfl⟩
      rw [← HWd.out] at HB2 hcW ⊢
      clear HWd HB1 HSL1 HSL2
      have HT : Hid (Table W (some ⟨b, off, none⟩) ls) := HS.out.below HB2.out
      have HC0 : Hid (W.cell? ⟨b, off, none⟩ = some (.slice ai m0 ci)) := hcW
      clear HA HD hcW
      go_wp2
      go_loopw [26] (fun q wr => ∃ i : Nat, i ≤ ls.length ∧ q = .int .i64 i ∧ Hid (∀ k, k < i → (row ls k).length = (row ls 0).length ∧ ∀ j, j < (row ls k).length → 0 ≤ box ls k j ∧ box ls k j ≤ most ls k j h) ∧ W = wr) (fun q _ => ls.length - (intOf q).toNat)
      case atStart => exact ⟨0, Nat.zero_le _, rfl, fun k hk => absurd hk (by omega), rfl⟩
      case round =>
        obtain ⟨i, hi, rfl, HI, rfl⟩ := hrel
        by_cases hlt : i < ls.length
        · have hlt' : (i : Int) < (ls.length : Int) := by omega
          obtain ⟨b2, off2, ai2, m, ci2, e2, hc, HM, HSi, -, hmb⟩ := HT.out.elemR hlt
          simp only [Option.some.injEq, Addr.mk.injEq, and_true] at e2
          obtain ⟨rfl, rfl⟩ := e2
          have hc0 := HC0.out
          by_cases hmm : m = m0
          · subst hmm
            have hne : ((m : Int) != (m : Int)) = false := by simp
            go_wp2
            go_loopw [40] (fun q wr => ∃ j : Nat, j ≤ m ∧ q = .int .i64 j ∧ Hid (∀ k, k < j → 0 ≤ box ls i k ∧ box ls i k ≤ most ls i k h) ∧ W = wr) (fun q _ => m - (intOf q).toNat)
            case atStart => exact ⟨0, Nat.zero_le _, rfl, fun k hk => absurd hk (by omega), rfl⟩
            case round =>
              obtain ⟨j, hj, rfl, HJ, rfl⟩ := hrel
              by_cases hjl : j < m
              · have hjl' : (j : Int) < (m : Int) := by omega
                have HJR : Hid (j < (row ls i).length) := by show j < (ls.getD i []).length; rw [← HM.out]; exact hjl
                obtain ⟨b1, o1, z, ha, HZ, hz1, hz2, hcz⟩ := HSi.out.elem (k := j) HJR.out
                subst ha
                have HZ' : Hid (box ls i j = z) := HZ.out.symm
                by_cases hz0 : z < 0
                · have HN : Hid (pilC ls h = 1) := pilC_no (fun p => by have := ((p.all i hlt).2 j HJR.out).1; rw [HZ'.out] at this; omega)
                  go_wp2
                  go_ret
                  exact ⟨ret_int HN.out.symm, HB2⟩
                · have hup : 0 < i → j < (row ls (i - 1)).length := fun h0 => by
                    rw [(HI.out (i - 1) (by omega)).1]; show j < (ls.getD 0 []).length; rw [← HM0.out]; exact hjl
                  obtain ⟨t, HTt⟩ : ∃ t, Hid (t = most ls i j h) := ⟨_, rfl⟩
                  have HC : Hid (Calls Tryd.prog 41 #[.slice (some ⟨b, off, none⟩) ls.length cap, .int .i64 (i : Int), .int .i64 (j : Int), .int .i64 h] W fun e w' => e = .returned (.int .i64 t) ∧ w' = W) := by
                    rw [HTt.out]
                    exact mostAt_at _ _ _ ls W i j h HT.out rfl (by omega) hlt (fun h0 => by have := HJR.out; omega) hup (by omega)
                  clear hup
                  by_cases hzt : t < z
                  · have HN : Hid (pilC ls h = 1) := pilC_no (fun p => by have := ((p.all i hlt).2 j HJR.out).2; rw [HZ'.out, ← HTt.out] at this; omega)
                    go_wp2_with fail
                    refine HC.out.mono ?_
                    rintro e w1 ⟨rfl, rfl⟩
                    go_wp2
                    go_ret
                    exact ⟨ret_int HN.out.symm, HB2⟩
                  · go_wp2_with fail
                    refine HC.out.mono ?_
                    rintro e w1 ⟨rfl, rfl⟩
                    go_wp2
                    go_roundw
                    case rel => exact ⟨j + 1, by omega, by go_num, fun k hk => by
                      by_cases e : k = j
                      · subst e; rw [HZ'.out, ← HTt.out]; omega
                      · exact HJ.out k (by omega), trivial⟩
                    case measure => simp [intOf]; omega
              · obtain rfl : j = m := by omega
                go_wp2
                go_roundw
                case rel => exact ⟨i + 1, by omega, by go_num, fun k hk => by
                  by_cases e : k = i
                  · subst e
                    refine ⟨by show (ls.getD k []).length = (ls.getD 0 []).length; rw [← HM.out, ← HM0.out], fun q hq => HJ.out q ?_⟩
                    rw [HM.out]; exact hq
                  · exact HI.out k (by omega), trivial⟩
                case measure => simp [intOf]; omega
          · have hne : ((m : Int) != (m0 : Int)) = true := by simp; omega
            have HN : Hid (pilC ls h = 1) := pilC_no (fun p => hmm (by have := (p.all i hlt).1; rw [HM.out, HM0.out]; exact this))
            go_wp2
            go_ret
            exact ⟨ret_int HN.out.symm, HB2⟩
        · obtain rfl : i = ls.length := by omega
          have HY : Hid (pilC ls h = 0) := pilC_yes ⟨HAs.out.1, HAs.out.2, by have := hm8; rw [HM0.out] at this; exact this, HI.out⟩
          go_wp2
          go_ret
          exact ⟨ret_int HY.out.symm, HB2⟩
    · have HN : Hid (pilC ls h = 1) := pilC_no (fun p => hB ((sides1 _).2 (by have := p.cs; rw [HM0.out]; exact this)))
      have HD : Hid (decide (sides [(m0 : Int)]) = false) := decide_eq_false hB
      clear hB
      rw [HN.out]
      go_enter Tryd.func24, Tryd.ntmps24
      go_wp2_with fail
      refine (areSides_at _ _ _ _ _ (HSL1.out w) rfl).mono ?_
      rintro e w1 ⟨rfl, rfl⟩
      rw [HA.out]
      go_wp2_with fail
      refine (areSides_at _ _ _ _ _ HSL2.out rfl).mono ?_
      rintro e w1 ⟨rfl, rfl⟩
      rw [HD.out]
      go_wp2
      go_ret
      exact ⟨rfl, HB2⟩
  · have HN : Hid (pilC ls h = 1) := pilC_no (fun p => hA ((sides2 _ _).2 ⟨p.hs, p.ls1⟩))
    have HA : Hid (decide (sides [h, (ls.length : Int)]) = false) := decide_eq_false hA
    clear hA
    rw [HN.out]
    go_enter Tryd.func24, Tryd.ntmps24
    go_wp2_with fail
    refine (areSides_at _ _ _ _ _ (HSL1.out w) rfl).mono ?_
    rintro e w1 ⟨rfl, rfl⟩
    rw [HA.out]
    go_wp2
    go_ret
    exact ⟨rfl, HB1⟩

end Go.Proofs.YtpdlhnniibjfaaiDoor
