/-
  The contract of signs.withCorner.
-/
import Derived.Test.YtfpbccahmipliaaJCor
namespace Go.Proofs.Ytfpbccahmipliaa
open Go.RowKit

def wdif (C : Nat → Nat → Int) (i j : Nat) : Int := IntKind.i64.wrap (IntKind.i64.wrap (IntKind.i64.wrap (C (i + 1) (j + 1) - C i (j + 1)) - C (i + 1) j) + C i j)
def pw (C : Nat → Nat → Int) (i j a b : Nat) : Int := if a < i ∨ (a = i ∧ b < j) then wdif C a b else 0
theorem wdif_wf (C : Nat → Nat → Int) (i j : Nat) : -9223372036854775808 ≤ wdif C i j ∧ wdif C i j ≤ 9223372036854775807 := by
  unfold wdif; rw [IntKind.wrap_i64]; omega
theorem wdif_small {n : Nat} {C : Nat → Nat → Int} (h : ∀ i, i ≤ n → ∀ j, j ≤ n → 0 ≤ C i j ∧ C i j ≤ 7) {i j : Nat} (hi : i < n) (hj : j < n) : wdif C i j = dif C i j := by
  have h1 := h (i + 1) (by omega) (j + 1) (by omega)
  have h2 := h i (by omega) (j + 1) (by omega)
  have h3 := h (i + 1) (by omega) j (by omega)
  have h4 := h i (by omega) j (by omega)
  unfold wdif dif
  rw [show IntKind.i64.wrap (C (i + 1) (j + 1) - C i (j + 1)) = C (i + 1) (j + 1) - C i (j + 1) by rw [IntKind.wrap_i64]; omega]
  rw [show IntKind.i64.wrap (C (i + 1) (j + 1) - C i (j + 1) - C (i + 1) j) = C (i + 1) (j + 1) - C i (j + 1) - C (i + 1) j by rw [IntKind.wrap_i64]; omega]
  rw [IntKind.wrap_i64]; omega

set_option maxHeartbeats 8000000 in
set_option maxRecDepth 100000 in
theorem withCorner_at (a : Option Addr) (n N m cap : Nat) (C : Nat → Nat → Int) (w : World) (hs : Table w a (tz N N C)) (hm : m = N) (hN : N = n + 1) (n1 : 1 ≤ n) (n7 : n ≤ 7) :
    Calls Try.prog 33 #[.slice a m cap] w fun e w' => ∃ gs, e = .returned (.slice (some ⟨w.heap.size, 0, none⟩) n n) ∧ Hid (Rez w' w.heap.size w.heap.size n n gs (wdif C)) ∧ Hid (Below w.heap.size w w') := by
  subst hm
  have HS : Hid (Table w a (tz m m C)) := hs
  have HN : Hid (m = n + 1) := hN
  have hm8 : m ≤ 8 := by omega
  have hNw : IntKind.i64.wrap ((m : Int) - 1) = (n : Int) := by rw [IntKind.wrap_i64]; omega
  clear hs hN
  go_enter Try.func33, Try.ntmps33
  go_wp2_with (go_at_call 41; refine (noughts_of _ n rfl _ n1 (by omega)).mono ?_; rintro e w1 ⟨gs, rfl, HR1, HB1⟩)
  obtain ⟨R, HRr⟩ : ∃ R, Hid (R = w.heap.size) := ⟨_, rfl⟩
  rw [← HRr.out] at HR1 HB1 ⊢
  have HR2 : Hid (Rez w1 R R n n gs (pw C 0 0)) := HR1.out.congr (fun i _ j _ => by
    unfold pw
    rw [if_neg (by omega)])
  clear HR1
  go_loopw [13] (fun q wr => ∃ i : Nat, i ≤ n ∧ q = .int .i64 i ∧ Hid (Rez wr R R n n gs (pw C i 0)) ∧ Hid (Below R w wr)) (fun q _ => n - (intOf q).toNat)
  case atStart => exact ⟨0, Nat.zero_le _, rfl, HR2, HB1⟩
  case round =>
    clear HR2 HB1
    obtain ⟨i, hi, rfl, HR, HB⟩ := hrel
    by_cases hlt : i < n
    · have hlt' : (i : Int) < (n : Int) := by omega
      obtain ⟨i1, Hi1⟩ : ∃ i1, Hid (i1 = i + 1) := ⟨_, rfl⟩
      have hiN : i < m := by rw [HN.out]; omega
      have hi1N : i1 < m := by rw [HN.out, Hi1.out]; omega
      obtain ⟨b, off, ai, ci, rfl, HCi, HSi⟩ := HS.out.rowZ (i := i) hiN
      obtain ⟨b9, off9, ai1, ci1, e9, HCi1, HSi1⟩ := HS.out.rowZ (i := i1) hi1N
      simp only [Option.some.injEq, Addr.mk.injEq, and_true] at e9
      obtain ⟨rfl, rfl⟩ := e9
      have ch := HR.out.head hlt
      obtain ⟨g1, Hg1⟩ : ∃ g, Hid (g = gs i) := ⟨_, rfl⟩
      rw [← Hg1.out] at ch
      go_wp2
      clear ch
      go_loopw [20] (fun q wr => ∃ j : Nat, j ≤ n ∧ q = .int .i64 j ∧ Hid (Rez wr R R n n gs (pw C i j)) ∧ Hid (Below R w wr)) (fun q _ => n - (intOf q).toNat)
      case atStart => exact ⟨0, Nat.zero_le _, rfl, HR, HB⟩
      case round =>
        clear HR HB
        obtain ⟨j, hj, rfl, HR, HB⟩ := hrel
        by_cases hjl : j < n
        · have hjl' : (j : Int) < (n : Int) := by omega
          have hBw : Below w.heap.size w wr := by rw [← HRr.out]; exact HB.out
          obtain ⟨j1, Hj1⟩ : ∃ j1, Hid (j1 = j + 1) := ⟨_, rfl⟩
          have hjN : j < m := by rw [HN.out]; omega
          have hj1N : j1 < m := by rw [HN.out, Hj1.out]; omega
          have hiN' : (i : Int) < (m : Int) := by omega
          have hi1N' : (i1 : Int) < (m : Int) := by omega
          have hjN' : (j : Int) < (m : Int) := by omega
          have hj1N' : (j1 : Int) < (m : Int) := by omega
          have hwi : IntKind.i64.wrap ((i : Int) + 1) = (i1 : Int) := by rw [IntKind.wrap_i64, Hi1.out]; omega
          have hwj : IntKind.i64.wrap ((j : Int) + 1) = (j1 : Int) := by rw [IntKind.wrap_i64, Hj1.out]; omega
          have c0 := HCi.out wr hBw
          have c1 := HCi1.out wr hBw
          obtain ⟨b1, o1, e1, cA, -, -⟩ := (HSi.out wr hBw).boxZ hj1N
          subst e1
          obtain ⟨b2, o2, e2, cC, -, -⟩ := (HSi.out wr hBw).boxZ hjN
          simp only [Option.some.injEq, Addr.mk.injEq, and_true] at e2
          obtain ⟨rfl, rfl⟩ := e2
          obtain ⟨b3, o3, e3, cB, -, -⟩ := (HSi1.out wr hBw).boxZ hjN
          subst e3
          obtain ⟨b4, o4, e4, cE, -, -⟩ := (HSi1.out wr hBw).boxZ hj1N
          simp only [Option.some.injEq, Addr.mk.injEq, and_true] at e4
          obtain ⟨rfl, rfl⟩ := e4
          obtain ⟨cD, fD, hgl, hgh⟩ := HR.out.box hlt hjl
          obtain ⟨x1, HX1⟩ : ∃ z, Hid (z = C i j1) := ⟨_, rfl⟩
          obtain ⟨x2, HX2⟩ : ∃ z, Hid (z = C i1 j) := ⟨_, rfl⟩
          obtain ⟨x3, HX3⟩ : ∃ z, Hid (z = C i j) := ⟨_, rfl⟩
          obtain ⟨x0, HX0⟩ : ∃ z, Hid (z = C i1 j1) := ⟨_, rfl⟩
          obtain ⟨x4, HX4⟩ : ∃ z, Hid (z = pw C i j i j) := ⟨_, rfl⟩
          rw [← HX1.out] at cA
          rw [← HX2.out] at cB
          rw [← HX3.out] at cC
          rw [← HX0.out] at cE
          rw [← HX4.out] at cD
          obtain ⟨y1, ew1⟩ : ∃ y, IntKind.i64.wrap (x0 - x1) = y := ⟨_, rfl⟩
          obtain ⟨y2, ew2⟩ : ∃ y, IntKind.i64.wrap (y1 - x2) = y := ⟨_, rfl⟩
          obtain ⟨y3, ew3⟩ : ∃ y, IntKind.i64.wrap (y2 + x3) = y := ⟨_, rfl⟩
          have HY : Hid (y3 = wdif C i j) := by
            show _ = _
            unfold wdif
            rw [← Hi1.out, ← Hj1.out, ← HX1.out, ← HX2.out, ← HX3.out, ← HX0.out, ew1, ew2, ew3]
          have HR3 : Hid (∀ W : World, W.heap = wr.heap → Rez (W.setCell ⟨gs i, j, none⟩ (.int .i64 y3)) R R n n gs (pw C i j1)) := fun W hW => by
            refine (HR.out.set hlt y3 hW).congr (fun a _ b _ => ?_)
            unfold updz
            have h2 := Hj1.out
            by_cases e : a = i ∧ b = j
            · rw [if_pos e, HY.out, e.1, e.2]
              unfold pw
              rw [if_pos (Or.inr ⟨rfl, by omega⟩)]
            · rw [if_neg e]
              unfold pw
              have : (a < i ∨ (a = i ∧ b < j)) ↔ (a < i ∨ (a = i ∧ b < j1)) := by omega
              by_cases h : a < i ∨ (a = i ∧ b < j)
              · rw [if_pos h, if_pos (this.1 h)]
              · rw [if_neg h, if_neg (fun q => h (this.2 q))]
          have hgR : R ≤ gs i := hgl
          rw [← Hg1.out] at cD fD hgR HR3
          clear hBw
          go_wp2_with fail
          go_region
          go_wp2
          go_roundw
          case rel => exact ⟨j1, by have := Hj1.out; omega, rfl, HR3.out wr.drew rfl, (HB.out.setCell (p := ⟨g1, j, none⟩) hgR _).drew⟩
          case measure => have := Hj1.out; simp [intOf]; omega
        · obtain rfl : j = n := by omega
          have HR4 : Hid (Rez wr R R j j gs (pw C (i + 1) 0)) := HR.out.congr (fun a _ b hb => by
            unfold pw
            by_cases h : a < i ∨ (a = i ∧ b < j)
            · rw [if_pos h, if_pos (by omega)]
            · rw [if_neg h, if_neg (by omega)])
          go_wp2
          go_roundw
          case rel => exact ⟨i + 1, by omega, by go_num, HR4, HB⟩
          case measure => simp [intOf]; omega
    · obtain rfl : i = n := by omega
      have HR4 : Hid (Rez wr R R i i gs (wdif C)) := HR.out.congr (fun a ha b _ => by
        unfold pw
        rw [if_pos (Or.inl ha)])
      go_wp2
      go_ret
      refine ⟨gs, ?_, by rw [← HRr.out]; exact HR4, by rw [← HRr.out]; exact HB⟩
      rw [HRr.out]
      try rfl

end Go.Proofs.Ytfpbccahmipliaa
