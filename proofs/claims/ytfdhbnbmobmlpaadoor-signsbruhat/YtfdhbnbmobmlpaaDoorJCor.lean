/-
  The contract of signs.corner.
-/
import Derived.Test.YtfdhbnbmobmlpaaDoorJCkc
import Derived.BigRegion
namespace Go.Proofs.YtfdhbnbmobmlpaaDoor
open Go.RowKit

theorem noughts_of (x : Int) (n : Nat) (hx : x = (n : Int)) (w : World) (h1 : 1 ≤ n) (hn : n ≤ 20) :
    Calls Tryd.prog 11 #[.int .i64 x] w fun e w' => ∃ gs, e = .returned (.slice (some ⟨w.heap.size, 0, none⟩) n n) ∧ Hid (Rez w' w.heap.size w.heap.size n n gs fun _ _ => 0) ∧ Hid (Below w.heap.size w w') := by
  subst hx; exact noughts_at n w h1 hn

/-- corners as far as row i, column j -/
def pc (P : Nat → Nat → Int) (i j a b : Nat) : Int := if a ≤ i ∨ (a = i + 1 ∧ b ≤ j) then cor P a b else 0
theorem pc_yes {P : Nat → Nat → Int} {i j a b : Nat} (h : a ≤ i ∨ (a = i + 1 ∧ b ≤ j)) : pc P i j a b = cor P a b := if_pos h

theorem Below.low {R : Nat} {w wr W : World} (h : Below R w wr) (hW : Below wr.heap.size wr W) (hr : R ≤ wr.heap.size) : Below R w W := h.trans (hW.mono hr)
theorem Sg.wide {n : Nat} {P : Nat → Nat → Int} (p : Sg n P) {i j : Nat} (hi : i < n) (hj : j < n) : -9223372036854775808 ≤ P i j ∧ P i j ≤ 9223372036854775807 := by have := p.place hi hj; omega

set_option maxHeartbeats 8000000 in
set_option maxRecDepth 100000 in
theorem corner_at (a : Option Addr) (n m cap : Nat) (P : Nat → Nat → Int) (w : World) (hs : Table w a (tz n n P)) (hm : m = n) (p : Sg n P) :
    Calls Tryd.prog 20 #[.slice a m cap] w fun e w' => ∃ gs, e = .returned (.slice (some ⟨w.heap.size, 0, none⟩) (n + 1) (n + 1)) ∧ Hid (Rez w' w.heap.size w.heap.size (n + 1) (n + 1) gs (cor P)) ∧ Hid (Below w.heap.size w w') := by
  subst hm
  have HS : Hid (Table w a (tz m m P)) := hs
  have HP : Hid (Sg m P) := p
  have HK : Hid (Kc m (cor P)) := p.kc
  have n1 := p.n1; have n7 := p.n7
  clear hs p
  obtain ⟨N, HN⟩ : ∃ N, Hid (N = m + 1) := ⟨_, rfl⟩
  have hNw : IntKind.i64.wrap ((m : Int) + 1) = (N : Int) := by rw [IntKind.wrap_i64, HN.out]; omega
  have hN8 : N ≤ 8 := by rw [HN.out]; omega
  rw [← HN.out]
  go_enter Tryd.func20, Tryd.ntmps20
  go_wp2_with (go_at_call 11; refine (noughts_of _ N rfl _ (by rw [HN.out]; omega) (by omega)).mono ?_; rintro e w1 ⟨gs, rfl, HR1, HB1⟩)
  obtain ⟨R, HRr⟩ : ∃ R, Hid (R = w.heap.size) := ⟨_, rfl⟩
  rw [← HRr.out] at HR1 HB1 ⊢
  have HR2 : Hid (Rez w1 R R N N gs (pc P 0 0)) := HR1.out.congr (fun i _ j _ => by
    unfold pc
    by_cases h : i ≤ 0 ∨ (i = 0 + 1 ∧ j ≤ 0)
    · rw [if_pos h]
      rcases h with h | ⟨_, h⟩
      · obtain rfl : i = 0 := by omega
        exact (cor_z0 P j).symm
      · obtain rfl : j = 0 := by omega
        exact (cor_z1 P i).symm
    · rw [if_neg h])
  clear HR1
  go_loopw [14] (fun q wr => ∃ i : Nat, i ≤ m ∧ q = .int .i64 i ∧ Hid (Rez wr R R N N gs (pc P i 0)) ∧ Hid (Below R w wr)) (fun q _ => m - (intOf q).toNat)
  case atStart => exact ⟨0, Nat.zero_le _, rfl, HR2, HB1⟩
  case round =>
    clear HR2 HB1
    obtain ⟨i, hi, rfl, HR, HB⟩ := hrel
    by_cases hlt : i < m
    · have hlt' : (i : Int) < (m : Int) := by omega
      obtain ⟨b, off, ai, ci, rfl, HCi, HSi⟩ := HS.out.rowZ (i := i) hlt
      have hci := HCi.out wr (by rw [← HRr.out]; exact HB.out)
      go_wp2
      clear hci
      go_loopw [21] (fun q wr => ∃ j : Nat, j ≤ m ∧ q = .int .i64 j ∧ Hid (Rez wr R R N N gs (pc P i j)) ∧ Hid (Below R w wr)) (fun q _ => m - (intOf q).toNat)
      case atStart => exact ⟨0, Nat.zero_le _, rfl, HR, HB⟩
      case round =>
        clear HR HB
        obtain ⟨j, hj, rfl, HR, HB⟩ := hrel
        by_cases hjl : j < m
        · have hjl' : (j : Int) < (m : Int) := by omega
          obtain ⟨b1, o1, hai, hcx, hz1, hz2⟩ := (HSi.out wr (by rw [← HRr.out]; exact HB.out)).boxZ hjl
          subst hai
          obtain ⟨i1, Hi1⟩ : ∃ i1, Hid (i1 = i + 1) := ⟨_, rfl⟩
          obtain ⟨j1, Hj1⟩ : ∃ j1, Hid (j1 = j + 1) := ⟨_, rfl⟩
          have hiN : i < N := by rw [HN.out]; omega
          have hi1N : i1 < N := by rw [HN.out, Hi1.out]; omega
          have hjN : j < N := by rw [HN.out]; omega
          have hj1N : j1 < N := by rw [HN.out, Hj1.out]; omega
          have hiN' : (i : Int) < (N : Int) := by omega
          have hi1N' : (i1 : Int) < (N : Int) := by omega
          have hjN' : (j : Int) < (N : Int) := by omega
          have hj1N' : (j1 : Int) < (N : Int) := by omega
          have hwi : IntKind.i64.wrap ((i : Int) + 1) = (i1 : Int) := by rw [IntKind.wrap_i64, Hi1.out]; omega
          have hwj : IntKind.i64.wrap ((j : Int) + 1) = (j1 : Int) := by rw [IntKind.wrap_i64, Hj1.out]; omega
          have c0 := HR.out.head hiN
          have c1 := HR.out.head hi1N
          obtain ⟨cA, -, -, -⟩ := HR.out.box hiN hj1N
          obtain ⟨cB, -, -, -⟩ := HR.out.box hi1N hjN
          obtain ⟨cC, -, -, -⟩ := HR.out.box hiN hjN
          obtain ⟨cD, fD, hgl, hgh⟩ := HR.out.box hi1N hj1N
          rw [pc_yes (Or.inl (Nat.le_refl _))] at cA cC
          rw [pc_yes (Or.inr ⟨Hi1.out, Nat.le_refl _⟩)] at cB
          obtain ⟨z, HZ⟩ : ∃ z, Hid (z = P i j) := ⟨_, rfl⟩
          obtain ⟨x1, HX1⟩ : ∃ z, Hid (z = cor P i j1) := ⟨_, rfl⟩
          obtain ⟨x2, HX2⟩ : ∃ z, Hid (z = cor P i1 j) := ⟨_, rfl⟩
          obtain ⟨x3, HX3⟩ : ∃ z, Hid (z = cor P i j) := ⟨_, rfl⟩
          obtain ⟨x4, HX4⟩ : ∃ z, Hid (z = pc P i j i1 j1) := ⟨_, rfl⟩
          rw [← HZ.out] at hcx
          rw [← HX1.out] at cA
          rw [← HX2.out] at cB
          rw [← HX3.out] at cC
          rw [← HX4.out] at cD
          have bz : -1 ≤ z ∧ z ≤ 1 := by rw [HZ.out]; exact HP.out.place hlt hjl
          have bx1 : 0 ≤ x1 ∧ x1 ≤ 7 := by rw [HX1.out]; exact HK.out.bound7 (by omega) (by rw [Hj1.out]; omega)
          have bx2 : 0 ≤ x2 ∧ x2 ≤ 7 := by rw [HX2.out]; exact HK.out.bound7 (by rw [Hi1.out]; omega) (by omega)
          have bx3 : 0 ≤ x3 ∧ x3 ≤ 7 := by rw [HX3.out]; exact HK.out.bound7 (by omega) (by omega)
          have ew1 : IntKind.i64.wrap (x1 + x2) = x1 + x2 := by rw [IntKind.wrap_i64]; omega
          have ew2 : IntKind.i64.wrap (x1 + x2 - x3) = x1 + x2 - x3 := by rw [IntKind.wrap_i64]; omega
          have ew3 : IntKind.i64.wrap (x1 + x2 - x3 + z) = x1 + x2 - x3 + z := by rw [IntKind.wrap_i64]; omega
          have HY : Hid (x1 + x2 - x3 + z = cor P (i + 1) (j + 1)) := by
            show _ = _
            rw [HX1.out, HX2.out, HX3.out, HZ.out, Hi1.out, Hj1.out, cor_step]
          have HR3 : Hid (∀ W : World, W.heap = wr.heap → Rez (W.setCell ⟨gs i1, j1, none⟩ (.int .i64 (x1 + x2 - x3 + z))) R R N N gs (pc P i j1)) := fun W hW => by
            refine (HR.out.set hi1N (x1 + x2 - x3 + z) hW).congr (fun a _ b _ => ?_)
            unfold updz
            by_cases e : a = i1 ∧ b = j1
            · rw [if_pos e, HY.out, e.1, e.2, Hi1.out, Hj1.out, pc_yes (Or.inr ⟨rfl, Nat.le_refl _⟩)]
            · rw [if_neg e]
              unfold pc
              have : (a ≤ i ∨ (a = i + 1 ∧ b ≤ j)) ↔ (a ≤ i ∨ (a = i + 1 ∧ b ≤ j1)) := by
                have h1 := Hi1.out
                have h2 := Hj1.out
                omega
              by_cases h : a ≤ i ∨ (a = i + 1 ∧ b ≤ j)
              · rw [if_pos h, if_pos (this.1 h)]
              · rw [if_neg h, if_neg (fun q => h (this.2 q))]
          have hgR : R ≤ gs i1 := hgl
          clear HCi
          obtain ⟨g0, Hg0⟩ : ∃ g, Hid (g = gs i) := ⟨_, rfl⟩
          obtain ⟨g1, Hg1⟩ : ∃ g, Hid (g = gs i1) := ⟨_, rfl⟩
          rw [← Hg0.out] at c0 cA cC
          rw [← Hg1.out] at c1 cB cD fD hgR HR3
          go_wp2_with fail
          go_region
          go_wp2
          go_roundw
          case rel => exact ⟨j1, by have := Hj1.out; omega, rfl, HR3.out wr.drew rfl, (HB.out.setCell (p := ⟨g1, j1, none⟩) hgR _).drew⟩
          case measure => have := Hj1.out; simp [intOf]; omega
        · obtain rfl : j = m := by omega
          have HR4 : Hid (Rez wr R R N N gs (pc P (i + 1) 0)) := HR.out.congr (fun a _ b hb => by
            unfold pc
            by_cases h : a ≤ i ∨ (a = i + 1 ∧ b ≤ j)
            · rw [if_pos h, if_pos (by omega)]
            · rw [if_neg h]
              by_cases h2 : a ≤ i + 1 ∨ (a = i + 1 + 1 ∧ b ≤ 0)
              · rw [if_pos h2]
                rw [HN.out] at hb
                obtain rfl : b = 0 := by omega
                exact (cor_z1 P a).symm
              · rw [if_neg h2])
          go_wp2
          go_roundw
          case rel => exact ⟨i + 1, by omega, by go_num, HR4, HB⟩
          case measure => simp [intOf]; omega
    · obtain rfl : i = m := by omega
      have HR4 : Hid (Rez wr R R N N gs (cor P)) := HR.out.congr (fun a ha b _ => by
        unfold pc
        by_cases h : a ≤ i
        · rw [if_pos (Or.inl h)]
        · rw [HN.out] at ha; omega)
      go_wp2
      go_ret
      refine ⟨gs, ?_, by rw [← HRr.out]; exact HR4, by rw [← HRr.out]; exact HB⟩
      rw [HRr.out]
      try rfl

end Go.Proofs.YtfdhbnbmobmlpaaDoor
