/-
  domino.ways.left: in how many ways the cells that are not covered can be, with what is known kept in a map.
-/
import Derived.Test.YtcnmndbckjmliaaDoorNCls
import Derived.Maps.OwnSet
import Derived.Maps.Views
import Derived.Maps.AppendAt
import Derived.Maps.OwnOps
namespace Go.Proofs.YtcnmndbckjmliaaDoor
open Go.RowKit
open Go.ChangeMaps
open Go.Maps (int_keyed keyOf_int_mk)

/-- The key of a set of cells. -/
def keyC (c : Nat) : Lit := .int .u64 (c : Int)
/-- What is known is right: block b is a map of at most n sets. -/
def Knows (w : World) (b n : Nat) : Prop := ∃ D : DataW Unit, w.ownsMap Tryd.prog 69 (plainElem Tryd.prog 2) b n D ∧ Maps.IsMap D ∧ ∀ x : Nat, x ≤ allC → Maps.has D (keyC x) = true → D.atKey (keyC x) (.lit (.int .i64 0)) = .lit (.int .i64 (cntC x : Int))
theorem Knows.mono {w : World} {b n n' : Nat} (h : Knows w b n) (hn : n ≤ n') : Knows w b n' := by
  obtain ⟨D, h1, h2, h3⟩ := h
  exact ⟨D, h1.mono hn, h2, h3⟩
theorem knows_made (w : World) : Knows (w.alloc (.map #[] 0)) w.heap.size 0 := by
  refine ⟨.map [], World.ownsMap_made _ _ _ _, Maps.isMap_empty, fun x _ h => ?_⟩
  simp [Maps.has] at h
theorem Knows.kept {w w' : World} {b n : Nat} {row : Option Nat} (h : Knows w b n) (hg : w.grownBy w' row) (hne : some b ≠ row) : Knows w' b n := by
  obtain ⟨D, h1, h2, h3⟩ := h
  exact ⟨D, h1.kept hg hne, h2, h3⟩
theorem key_wf {c : Nat} (hc : c ≤ allC) : (keyC c).wf = true := by
  unfold keyC Lit.wf
  unfold allC at hc
  have h1 : IntKind.u64.min = 0 := rfl
  have h2 : IntKind.u64.max = 18446744073709551615 := rfl
  simp only [h1, h2, Bool.and_eq_true, decide_eq_true_eq]
  omega
theorem key_inj {x y : Nat} (h : keyC x = keyC y) : x = y := by
  unfold keyC at h
  simp only [Lit.int.injEq, true_and] at h
  omega
theorem key_of {c : Nat} (hc : c ≤ allC) : keyOf Tryd.prog 69 (.int .u64 (c : Int)) = some (keyC c) := keyOf_int_mk Tryd.underlying69 (key_wf hc)
theorem num_wf {n : Nat} (hn : n ≤ 4294967296) : (Lit.int .i64 (n : Int)).wf = true := by
  unfold Lit.wf
  have h1 : IntKind.i64.min = -9223372036854775808 := rfl
  have h2 : IntKind.i64.max = 9223372036854775807 := rfl
  simp only [h1, h2, Bool.and_eq_true, decide_eq_true_eq]
  omega
theorem knows_put {D : DataW Unit} {c : Nat} (hc : c ≤ allC) (h2 : Maps.IsMap D) (h3 : ∀ x : Nat, x ≤ allC → Maps.has D (keyC x) = true → D.atKey (keyC x) (.lit (.int .i64 0)) = .lit (.int .i64 (cntC x : Int))) :
    Maps.IsMap (D.put (keyC c) (.lit (.int .i64 (cntC c : Int)))) ∧ ∀ x : Nat, x ≤ allC → Maps.has (D.put (keyC c) (.lit (.int .i64 (cntC c : Int)))) (keyC x) = true → (D.put (keyC c) (.lit (.int .i64 (cntC c : Int)))).atKey (keyC x) (.lit (.int .i64 0)) = .lit (.int .i64 (cntC x : Int)) := by
  refine ⟨h2.put _ _, fun x hx h => ?_⟩
  by_cases e : x = c
  · subst e
    exact Maps.atKey_put_same h2 (by unfold keyC WideAt.IsKeyLit; trivial) _ _
  · have hne : keyC x ≠ keyC c := fun q => e (key_inj q)
    rw [Maps.atKey_put_other hne]
    rw [Maps.has_put_other hne] at h
    exact h3 x hx h

set_option maxHeartbeats 4000000 in
set_option maxRecDepth 100000 in
theorem left_at (Bz : Nat) : ∀ (K c : Nat), c ≤ allC → freeC c ≤ 2 * K → ∀ (w : World) (b n : Nat), Hid (Knows w b n) → Bz ≤ b → Hid (∀ W, Below Bz w W → TabAt 1 Lib.deBruijn64tab W) → n + 2 ^ (K + 1) ≤ 1000000000000 →
    Calls Tryd.prog 32 #[.map (some b), .int .u64 (c : Int)] w fun e w' => e = .returned (.int .i64 (cntC c : Int)) ∧ Hid (Knows w' b (n + (2 ^ (K + 1) - 1))) ∧ Hid (w.grownBy w' (some b)) := by
  intro K
  induction K with
  | zero =>
    intro c hc hf w b n HKn hBz HTb hn
    have hall : c = allC := by
      rcases Nat.lt_or_ge c allC with q | q
      · have := free_pos q; omega
      · omega
    subst hall
    rw [cntC_all]
    have HK2 : Hid (Knows w b (n + (2 ^ (0 + 1) - 1))) := HKn.out.mono (by omega)
    have HG2 : Hid (w.grownBy w (some b)) := World.grownBy.refl _ _
    have hca : ((allC : Nat) : Int) = 18446744073709551615 := rfl
    go_enter Tryd.func32, Tryd.ntmps32
    go_wp2
    go_ret
    exact ⟨rfl, HK2, HG2⟩
  | succ K ih =>
    intro c hc hf w b n HKn hBz HTb hn
    have hpK : 2 ^ (K + 1 + 1) = 2 ^ K + 2 ^ K + (2 ^ K + 2 ^ K) := by rw [Nat.pow_succ, Nat.pow_succ]; omega
    have hpK1 : 2 ^ (K + 1) = 2 ^ K + 2 ^ K := by rw [Nat.pow_succ]; omega
    have hp1 : 1 ≤ 2 ^ K := Nat.one_le_two_pow
    rcases Nat.lt_or_ge c allC with hlt | hge
    case inr =>
      have hall : c = allC := by omega
      subst hall
      rw [cntC_all]
      have HK2 : Hid (Knows w b (n + (2 ^ (K + 1 + 1) - 1))) := HKn.out.mono (by omega)
      have HG2 : Hid (w.grownBy w (some b)) := World.grownBy.refl _ _
      have hca : ((allC : Nat) : Int) = 18446744073709551615 := rfl
      go_enter Tryd.func32, Tryd.ntmps32
      go_wp2
      go_ret
      exact ⟨rfl, HK2, HG2⟩
    obtain ⟨D, h1, h2, h3⟩ := HKn.out
    have HOwn := hid_w h1
    have HKey := hid_w (key_of hc)
    have HLt : Hid (b < w.heap.size) := h1.lt
    have hca : ((c : Int) == 18446744073709551615) = false := by unfold allC at hlt; simp; omega
    have hz2 : ∀ W : World, (zeroValue 2).run Tryd.prog W = .ok (.int .i64 0) W := fun W => Tryd.zeroValue2 W
    cases hh : Maps.has D (keyC c) with
    | true =>
      have HAt := hid_w (h3 c hc hh)
      have HK2 : Hid (Knows w b (n + (2 ^ (K + 1 + 1) - 1))) := HKn.out.mono (by omega)
      have HG2 : Hid (w.grownBy w (some b)) := World.grownBy.refl _ _
      clear h1 h2 h3
      go_enter Tryd.func32, Tryd.ntmps32
      go_wp2_with (at_lookup; refine wpList_lookup_own_ok_int _ rfl _ _ 66 rfl 69 2 .i64 (int_keyed Tryd.underlying69) Tryd.underlying66 Tryd.underlying2 (hz2 _) b n D rfl HOwn.out _ _ rfl HKey.out ?_; intro v hat hwf; rw [hh])
      go_ret
      have e := HAt.out
      rw [hat] at e
      simp only [DataW.lit.injEq, Lit.int.injEq, true_and] at e
      exact ⟨by rw [← e]; rfl, HK2, HG2⟩
    | false =>
    clear h1 h2 h3
    go_enter Tryd.func32, Tryd.ntmps32
    cases hL : mayL c with
    | true =>
      cases hS : mayS c with
      | true =>
        have HT0 := hid_w (HTb.out w (Below.refl _ _))
        have HLc := hid_w (clie_at c w hlt HT0.out true hL.symm)
        go_wp2_with (first | (at_lookup; refine wpList_lookup_own_ok_int _ rfl _ _ 66 rfl 69 2 .i64 (int_keyed Tryd.underlying69) Tryd.underlying66 Tryd.underlying2 (hz2 _) b n D rfl HOwn.out _ _ rfl HKey.out ?_; intro v hat hwf; rw [hh]) | (go_at_call 35; with_reducible (refine HLc.out.mono ?_); rintro e w1 ⟨d1, rfl, HD1, hw1⟩; subst hw1))
        clear hat hwf
        have HI1 := hid_w (ih (lieC c) (lie_le hlt hL) (by have := free_lie hlt hL; omega) w1 b n HKn hBz HTb (by omega))
        have hd1 : d1 = lieC c := by first | exact HD1.out rfl | exact HD1.out trivial
        rw [← hd1] at HI1
        obtain ⟨m1, Hm1⟩ : ∃ m1 : Nat, Hid (m1 = cntC d1) := ⟨_, rfl⟩
        have hm1 : m1 ≤ 4294967296 := by rw [Hm1.out, hd1]; exact cnt_small (lie_le hlt hL)
        rw [← Hm1.out] at HI1
        go_wp2_with (go_at_call 32; with_reducible (refine HI1.out.mono ?_); rintro e w2 ⟨rfl, HK2, HG2⟩)
        have HB2 : Hid (Below Bz w1 w2) := (Below.refl _ _).grown HG2.out (Nat.le_trans hBz (Nat.le_of_lt HLt.out)) (fun k hk => by cases hk; exact hBz)
        have HSc := hid_w (cstand_at c w2 hlt (HTb.out w2 HB2.out) true hS.symm)
        go_wp2_with (go_at_call 37; with_reducible (refine HSc.out.mono ?_); rintro e w3 ⟨d2, rfl, HD2, hw3⟩; subst hw3)
        have HI2 := hid_w (ih (staC c) (sta_le hlt hS) (by have := free_sta hlt hS; omega) w3 b _ HK2 hBz (fun W hW => HTb.out W (HB2.out.trans hW)) (by omega))
        have hd2 : d2 = staC c := by first | exact HD2.out rfl | exact HD2.out trivial
        rw [← hd2] at HI2
        obtain ⟨m2, Hm2⟩ : ∃ m2 : Nat, Hid (m2 = cntC d2) := ⟨_, rfl⟩
        have hm2 : m2 ≤ 4294967296 := by rw [Hm2.out, hd2]; exact cnt_small (sta_le hlt hS)
        rw [← Hm2.out] at HI2
        go_wp2_with (go_at_call 32; with_reducible (refine HI2.out.mono ?_); rintro e w4 ⟨rfl, HK4, HG4⟩)
        have HTot : Hid (cntC c = m1 + m2) := by
          show _ = _
          rw [cntC_step hlt, if_pos hL, if_pos hS, Hm1.out, Hm2.out, hd1, hd2]
        obtain ⟨D4, h41, h42, h43⟩ := HK4.out
        have HO4 := hid_w h41
        have HN4 := hid_w (knows_put hc h42 h43)
        have HVal : Hid (plainElem (H := Unit) Tryd.prog 2 (.int .i64 ((m1 : Int) + (m2 : Int))) = some (.lit (.int .i64 (cntC c : Int)), [])) := by
          have e : ((m1 : Int) + (m2 : Int)) = (cntC c : Int) := by have := HTot.out; omega
          rw [e]
          exact plainElem_int Tryd.underlying2 (num_wf (cnt_small hc))
        clear h41 h42 h43
        have HRoom : Hid (n + (2 ^ (K + 1) - 1) + (2 ^ (K + 1) - 1) < maxLen) := by
          have hml : 1000000000001 ≤ maxLen := by decide
          show _ < _
          omega
        obtain ⟨w5, hrun5, hO5, hG5⟩ := HO4.out.update (int_keyed Tryd.underlying69) Tryd.underlying66 HRoom.out HKey.out HVal.out
        have HO5 := hid_w hO5
        have HG5 := hid_w hG5
        clear hO5 hG5
        go_wp2_with fail
        rw [hrun5]
        go_wp2_with fail
        have HK5 : Hid (Knows w5 b (n + (2 ^ (K + 1 + 1) - 1))) := by
          refine Knows.mono (n := n + (2 ^ (K + 1) - 1) + (2 ^ (K + 1) - 1) + 1) ⟨_, HO5.out, HN4.out.1, HN4.out.2⟩ (by omega)
        have HG : Hid (w1.grownBy w5 (some b)) := (HG2.out.trans HG4.out).trans HG5.out
        go_ret
        exact ⟨by have e := HTot.out; rw [e]; first | rfl | (rw [Int.natCast_add]; rfl), HK5, HG⟩
      | false =>
        have HT0 := hid_w (HTb.out w (Below.refl _ _))
        have HLc := hid_w (clie_at c w hlt HT0.out true hL.symm)
        go_wp2_with (first | (at_lookup; refine wpList_lookup_own_ok_int _ rfl _ _ 66 rfl 69 2 .i64 (int_keyed Tryd.underlying69) Tryd.underlying66 Tryd.underlying2 (hz2 _) b n D rfl HOwn.out _ _ rfl HKey.out ?_; intro v hat hwf; rw [hh]) | (go_at_call 35; with_reducible (refine HLc.out.mono ?_); rintro e w1 ⟨d1, rfl, HD1, hw1⟩; subst hw1))
        clear hat hwf
        have HI1 := hid_w (ih (lieC c) (lie_le hlt hL) (by have := free_lie hlt hL; omega) w1 b n HKn hBz HTb (by omega))
        have hd1 : d1 = lieC c := by first | exact HD1.out rfl | exact HD1.out trivial
        rw [← hd1] at HI1
        obtain ⟨m1, Hm1⟩ : ∃ m1 : Nat, Hid (m1 = cntC d1) := ⟨_, rfl⟩
        have hm1 : m1 ≤ 4294967296 := by rw [Hm1.out, hd1]; exact cnt_small (lie_le hlt hL)
        rw [← Hm1.out] at HI1
        go_wp2_with (go_at_call 32; with_reducible (refine HI1.out.mono ?_); rintro e w2 ⟨rfl, HK2, HG2⟩)
        have HB2 : Hid (Below Bz w1 w2) := (Below.refl _ _).grown HG2.out (Nat.le_trans hBz (Nat.le_of_lt HLt.out)) (fun k hk => by cases hk; exact hBz)
        have HSc := hid_w (cstand_at c w2 hlt (HTb.out w2 HB2.out) false hS.symm)
        go_wp2_with (go_at_call 37; with_reducible (refine HSc.out.mono ?_); rintro e w3 ⟨d2, rfl, HD2, hw3⟩; subst hw3)
        obtain ⟨w4, HW4⟩ : ∃ w4, Hid (w4 = w3) := ⟨_, rfl⟩
        have HK4 : Hid (Knows w4 b (n + (2 ^ (K + 1) - 1) + (2 ^ (K + 1) - 1))) := by rw [HW4.out]; exact HK2.out.mono (by omega)
        have HG4 : Hid (w3.grownBy w4 (some b)) := by rw [HW4.out]; exact World.grownBy.refl _ _
        rw [← HW4.out]
        try go_wp2_with fail
        have HTot : Hid (cntC c = m1) := by
          show _ = _
          rw [cntC_step hlt, if_pos hL, if_neg (by rw [hS]; simp), Hm1.out, hd1, Nat.add_zero]
        obtain ⟨D4, h41, h42, h43⟩ := HK4.out
        have HO4 := hid_w h41
        have HN4 := hid_w (knows_put hc h42 h43)
        have HVal : Hid (plainElem (H := Unit) Tryd.prog 2 (.int .i64 (m1 : Int)) = some (.lit (.int .i64 (cntC c : Int)), [])) := by
          have e : (m1 : Int) = (cntC c : Int) := by have := HTot.out; omega
          rw [e]
          exact plainElem_int Tryd.underlying2 (num_wf (cnt_small hc))
        clear h41 h42 h43
        have HRoom : Hid (n + (2 ^ (K + 1) - 1) + (2 ^ (K + 1) - 1) < maxLen) := by
          have hml : 1000000000001 ≤ maxLen := by decide
          show _ < _
          omega
        obtain ⟨w5, hrun5, hO5, hG5⟩ := HO4.out.update (int_keyed Tryd.underlying69) Tryd.underlying66 HRoom.out HKey.out HVal.out
        have HO5 := hid_w hO5
        have HG5 := hid_w hG5
        clear hO5 hG5
        go_wp2_with fail
        rw [hrun5]
        go_wp2_with fail
        have HK5 : Hid (Knows w5 b (n + (2 ^ (K + 1 + 1) - 1))) := by
          refine Knows.mono (n := n + (2 ^ (K + 1) - 1) + (2 ^ (K + 1) - 1) + 1) ⟨_, HO5.out, HN4.out.1, HN4.out.2⟩ (by omega)
        have HG : Hid (w1.grownBy w5 (some b)) := (HG2.out.trans HG4.out).trans HG5.out
        go_ret
        exact ⟨by have e := HTot.out; rw [e]; first | rfl | (rw [Int.natCast_add]; rfl), HK5, HG⟩
    | false =>
      cases hS : mayS c with
      | true =>
        have HT0 := hid_w (HTb.out w (Below.refl _ _))
        have HLc := hid_w (clie_at c w hlt HT0.out false hL.symm)
        go_wp2_with (first | (at_lookup; refine wpList_lookup_own_ok_int _ rfl _ _ 66 rfl 69 2 .i64 (int_keyed Tryd.underlying69) Tryd.underlying66 Tryd.underlying2 (hz2 _) b n D rfl HOwn.out _ _ rfl HKey.out ?_; intro v hat hwf; rw [hh]) | (go_at_call 35; with_reducible (refine HLc.out.mono ?_); rintro e w1 ⟨d1, rfl, HD1, hw1⟩; subst hw1))
        clear hat hwf
        obtain ⟨w2, HW2⟩ : ∃ w2, Hid (w2 = w1) := ⟨_, rfl⟩
        have HK2 : Hid (Knows w2 b (n + (2 ^ (K + 1) - 1))) := by rw [HW2.out]; exact HKn.out.mono (by omega)
        have HG2 : Hid (w1.grownBy w2 (some b)) := by rw [HW2.out]; exact World.grownBy.refl _ _
        have HB2 : Hid (Below Bz w1 w2) := by rw [HW2.out]; exact Below.refl _ _
        obtain ⟨m1, Hm1⟩ : ∃ m1 : Nat, Hid (m1 = 0) := ⟨_, rfl⟩
        rw [← HW2.out]
        try go_wp2_with fail
        have HSc := hid_w (cstand_at c w2 hlt (HTb.out w2 HB2.out) true hS.symm)
        go_wp2_with (go_at_call 37; with_reducible (refine HSc.out.mono ?_); rintro e w3 ⟨d2, rfl, HD2, hw3⟩; subst hw3)
        have HI2 := hid_w (ih (staC c) (sta_le hlt hS) (by have := free_sta hlt hS; omega) w3 b _ HK2 hBz (fun W hW => HTb.out W (HB2.out.trans hW)) (by omega))
        have hd2 : d2 = staC c := by first | exact HD2.out rfl | exact HD2.out trivial
        rw [← hd2] at HI2
        obtain ⟨m2, Hm2⟩ : ∃ m2 : Nat, Hid (m2 = cntC d2) := ⟨_, rfl⟩
        have hm2 : m2 ≤ 4294967296 := by rw [Hm2.out, hd2]; exact cnt_small (sta_le hlt hS)
        rw [← Hm2.out] at HI2
        go_wp2_with (go_at_call 32; with_reducible (refine HI2.out.mono ?_); rintro e w4 ⟨rfl, HK4, HG4⟩)
        have HTot : Hid (cntC c = m2) := by
          show _ = _
          rw [cntC_step hlt, if_neg (by rw [hL]; simp), if_pos hS, Hm2.out, hd2, Nat.zero_add]
        obtain ⟨D4, h41, h42, h43⟩ := HK4.out
        have HO4 := hid_w h41
        have HN4 := hid_w (knows_put hc h42 h43)
        have HVal : Hid (plainElem (H := Unit) Tryd.prog 2 (.int .i64 (m2 : Int)) = some (.lit (.int .i64 (cntC c : Int)), [])) := by
          have e : (m2 : Int) = (cntC c : Int) := by have := HTot.out; omega
          rw [e]
          exact plainElem_int Tryd.underlying2 (num_wf (cnt_small hc))
        clear h41 h42 h43
        have HRoom : Hid (n + (2 ^ (K + 1) - 1) + (2 ^ (K + 1) - 1) < maxLen) := by
          have hml : 1000000000001 ≤ maxLen := by decide
          show _ < _
          omega
        obtain ⟨w5, hrun5, hO5, hG5⟩ := HO4.out.update (int_keyed Tryd.underlying69) Tryd.underlying66 HRoom.out HKey.out HVal.out
        have HO5 := hid_w hO5
        have HG5 := hid_w hG5
        clear hO5 hG5
        go_wp2_with fail
        rw [hrun5]
        go_wp2_with fail
        have HK5 : Hid (Knows w5 b (n + (2 ^ (K + 1 + 1) - 1))) := by
          refine Knows.mono (n := n + (2 ^ (K + 1) - 1) + (2 ^ (K + 1) - 1) + 1) ⟨_, HO5.out, HN4.out.1, HN4.out.2⟩ (by omega)
        have HG : Hid (w1.grownBy w5 (some b)) := (HG2.out.trans HG4.out).trans HG5.out
        go_ret
        exact ⟨by have e := HTot.out; rw [e]; first | rfl | (rw [Int.natCast_add]; rfl), HK5, HG⟩
      | false =>
        have HT0 := hid_w (HTb.out w (Below.refl _ _))
        have HLc := hid_w (clie_at c w hlt HT0.out false hL.symm)
        go_wp2_with (first | (at_lookup; refine wpList_lookup_own_ok_int _ rfl _ _ 66 rfl 69 2 .i64 (int_keyed Tryd.underlying69) Tryd.underlying66 Tryd.underlying2 (hz2 _) b n D rfl HOwn.out _ _ rfl HKey.out ?_; intro v hat hwf; rw [hh]) | (go_at_call 35; with_reducible (refine HLc.out.mono ?_); rintro e w1 ⟨d1, rfl, HD1, hw1⟩; subst hw1))
        clear hat hwf
        obtain ⟨w2, HW2⟩ : ∃ w2, Hid (w2 = w1) := ⟨_, rfl⟩
        have HK2 : Hid (Knows w2 b (n + (2 ^ (K + 1) - 1))) := by rw [HW2.out]; exact HKn.out.mono (by omega)
        have HG2 : Hid (w1.grownBy w2 (some b)) := by rw [HW2.out]; exact World.grownBy.refl _ _
        have HB2 : Hid (Below Bz w1 w2) := by rw [HW2.out]; exact Below.refl _ _
        obtain ⟨m1, Hm1⟩ : ∃ m1 : Nat, Hid (m1 = 0) := ⟨_, rfl⟩
        rw [← HW2.out]
        try go_wp2_with fail
        have HSc := hid_w (cstand_at c w2 hlt (HTb.out w2 HB2.out) false hS.symm)
        go_wp2_with (go_at_call 37; with_reducible (refine HSc.out.mono ?_); rintro e w3 ⟨d2, rfl, HD2, hw3⟩; subst hw3)
        obtain ⟨w4, HW4⟩ : ∃ w4, Hid (w4 = w3) := ⟨_, rfl⟩
        have HK4 : Hid (Knows w4 b (n + (2 ^ (K + 1) - 1) + (2 ^ (K + 1) - 1))) := by rw [HW4.out]; exact HK2.out.mono (by omega)
        have HG4 : Hid (w3.grownBy w4 (some b)) := by rw [HW4.out]; exact World.grownBy.refl _ _
        rw [← HW4.out]
        try go_wp2_with fail
        have HTot : Hid (cntC c = 0) := by
          show _ = _
          rw [cntC_step hlt, if_neg (by rw [hL]; simp), if_neg (by rw [hS]; simp)]
        obtain ⟨D4, h41, h42, h43⟩ := HK4.out
        have HO4 := hid_w h41
        have HN4 := hid_w (knows_put hc h42 h43)
        have HVal : Hid (plainElem (H := Unit) Tryd.prog 2 (.int .i64 0) = some (.lit (.int .i64 (cntC c : Int)), [])) := by
          have e : 0 = (cntC c : Int) := by have := HTot.out; omega
          rw [e]
          exact plainElem_int Tryd.underlying2 (num_wf (cnt_small hc))
        clear h41 h42 h43
        have HRoom : Hid (n + (2 ^ (K + 1) - 1) + (2 ^ (K + 1) - 1) < maxLen) := by
          have hml : 1000000000001 ≤ maxLen := by decide
          show _ < _
          omega
        obtain ⟨w5, hrun5, hO5, hG5⟩ := HO4.out.update (int_keyed Tryd.underlying69) Tryd.underlying66 HRoom.out HKey.out HVal.out
        have HO5 := hid_w hO5
        have HG5 := hid_w hG5
        clear hO5 hG5
        go_wp2_with fail
        rw [hrun5]
        go_wp2_with fail
        have HK5 : Hid (Knows w5 b (n + (2 ^ (K + 1 + 1) - 1))) := by
          refine Knows.mono (n := n + (2 ^ (K + 1) - 1) + (2 ^ (K + 1) - 1) + 1) ⟨_, HO5.out, HN4.out.1, HN4.out.2⟩ (by omega)
        have HG : Hid (w1.grownBy w5 (some b)) := (HG2.out.trans HG4.out).trans HG5.out
        go_ret
        exact ⟨by have e := HTot.out; rw [e]; first | rfl | (rw [Int.natCast_add]; rfl), HK5, HG⟩

end Go.Proofs.YtcnmndbckjmliaaDoor
