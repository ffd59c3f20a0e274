/-
  paths.Catalan; ferref.goOn, Catalan.
-/
import Derived.Test.YthfbkangjpcpgaaDoorQBrn
import Derived.Test.YthfbkangjpcpgaaDoorQCal
import Derived.Test.YthfbkangjpcpgaaDoorASud
import Derived.Test.YthfbkangjpcpgaaDoorAInt
import Derived.Deep.CutBlock
namespace Go.Proofs.YthfbkangjpcpgaaDoor
open Go.RowKit

def caB (n : Int) : Bool := decide (0 ≤ n) && decide (n ≤ 30)
def caV (n : Int) : Int := if caB n = true then (eW (2 * n.toNat) 0 : Int) else 0
def caC (n : Int) : Int := if caB n = true then 0 else 1

set_option maxHeartbeats 4000000 in
set_option maxRecDepth 100000 in
theorem Catalan_all (n : Int) (w : World) :
    Calls Tryd.prog 4 #[.int .i64 n] w fun e w' => e = .returned (.tuple #[.int .i64 (caV n), .int .i64 (caC n)]) ∧ Hid (Below w.heap.size w w') := by
  by_cases h0 : n < 0
  · have hb : caB n = false := by unfold caB; rw [decide_eq_false (by omega)]; rfl
    have hv : caV n = 0 := by unfold caV; rw [hb]; rfl
    have hc : caC n = 1 := by unfold caC; rw [hb]; rfl
    rw [hv, hc]
    clear hv hc hb
    go_enter Tryd.func4, Tryd.ntmps4
    go_wp2_with fail
    go_ret2
    exact ⟨rfl, hid_w (Below.refl _ _)⟩
  · by_cases h30 : n > 30
    · have hb : caB n = false := by unfold caB; rw [decide_eq_true (by omega), decide_eq_false (by omega)]; rfl
      have hv : caV n = 0 := by unfold caV; rw [hb]; rfl
      have hc : caC n = 1 := by unfold caC; rw [hb]; rfl
      rw [hv, hc]
      clear hv hc hb
      go_enter Tryd.func4, Tryd.ntmps4
      go_wp2_with fail
      go_ret2
      exact ⟨rfl, hid_w (Below.refl _ _)⟩
    · have hb : caB n = true := by unfold caB; rw [decide_eq_true (by omega), decide_eq_true (by omega)]; rfl
      have hc : caC n = 0 := by unfold caC; rw [hb]; rfl
      obtain ⟨p, hp⟩ : ∃ p : Nat, n = (p : Int) := ⟨n.toNat, by omega⟩
      obtain ⟨x, HX⟩ : ∃ x : Int, Hid (x = (eW (2 * p) 0 : Int)) := ⟨_, rfl⟩
      have hv : caV n = x := by unfold caV; rw [hb, if_pos rfl, HX.out, hp, Int.toNat_natCast]
      rw [hv, hc]
      subst hp
      clear hv hc hb
      have hidE := hid_w (allEndings_at w)
      have hp30 : p ≤ 30 := by omega
      go_enter Tryd.func4, Tryd.ntmps4
      go_upto_region 3 with fail
      have HK : Hid (∀ w2, ArrE w2 w.heap.size tF → w2.cell? ⟨w.heap.size, 2 * p * 62, none⟩ = some (.int .i64 x)) := fun w2 hA => by
        have := hA.cell (j := 2 * p * 62 + 0) (by omega)
        rw [tF_at (by omega), ← HX.out] at this
        exact this
      go_wp2_with (go_at_call 14; refine hidE.out.mono ?_; rintro e w2 ⟨rfl, HA, HB⟩; have hc2 := HK.out w2 HA.out)
      go_ret2
      exact ⟨rfl, HB⟩

theorem zero_bz {w W : World} {lo : Nat} (hW : W = w.alloc (.cells #[.bool false, .slice none 0 0] 44)) (hl : lo ≤ w.heap.size) : Bz W lo w.heap.size 0 := by
  subst hW
  refine ⟨⟨.slice none 0 0, [], ?_, ?_⟩, hl⟩
  · show (w.heap.push _)[w.heap.size]? = _
    rw [Array.getElem?_push_size]
  · exact ⟨World.ownsRow_nil _ _ _ _, ⟨(fun u h => by cases h), rfl, rfl⟩, fun a n cap h hne => by simp only [Value.slice.injEq] at h; exact absurd h.1.symm hne⟩
theorem zero_row {w W : World} (hW : W = w.alloc (.cells #[.bool false, .slice none 0 0] 44)) : W.heap[w.heap.size]? = some (.cells #[.bool false, .slice none 0 0] 44 (0, 0)) := by
  subst hW
  show (w.heap.push _)[w.heap.size]? = _
  rw [Array.getElem?_push_size]
theorem bzI64 {W : World} {lo p x : Nat} (hx : Bz W lo p x) (h : x < 9223372036854775808) : Calls Tryd.prog 18 #[.pointer (some ⟨p, 0, none⟩)] W fun e w' => e = .returned (.int .i64 (x : Int)) ∧ w' = W := by
  obtain ⟨⟨v, us, h1⟩, -⟩ := hx
  exact BInt64_at p lo v us x W h1 h
theorem bzSub {W : World} {lo p q x y : Nat} (hx : Bz W lo p x) (hy : Bz W lo q y) (h1 : x < 10 ^ 200) (h2 : y < 10 ^ 200) (hle : y ≤ x) (h0 : 0 < x) :
    Calls Tryd.prog 44 #[.pointer (some ⟨p, 0, none⟩), .pointer (some ⟨p, 0, none⟩), .pointer (some ⟨q, 0, none⟩)] W fun e w' => e = .returned (.pointer (some ⟨p, 0, none⟩)) ∧ Hid (Bz w' lo p (x - y)) ∧ Hid (Put W w' lo p) := by
  have hlt := hx.lt
  obtain ⟨⟨vx, xs, ax⟩, hl⟩ := hx
  obtain ⟨⟨vy, ys, ay⟩, _⟩ := hy
  have b1 := Bz.len ax h1
  have b2 := Bz.len ay h2
  refine (BSub_at p p q lo lo false vx vx vy xs ys x y W ax ay ax.row hl (by omega) hle h0).mono ?_
  rintro e w' ⟨v, us, rfl, r1, r2, r3⟩
  exact ⟨rfl, Bz.of r1 r2 (by omega) hl, r3⟩
theorem binG_ok {n k : Nat} (hn : n ≤ 100) (hk : k ≤ n) : 0 < binG n k ∧ binG n k < 10 ^ 100 := by
  unfold binG
  have : lesK n k ≤ n := by unfold lesK; split <;> omega
  exact bin_ok (by omega) (by omega)

set_option maxHeartbeats 4000000 in
set_option maxRecDepth 100000 in
theorem goOn_at (a b : Int) (w : World) (ha : -100 ≤ a) (hb : b ≤ 50) (hb2 : -100 ≤ b) (ha2 : a ≤ 50) :
    Calls Tryd.prog 22 #[.int .i64 a, .int .i64 b] w fun e w' => ∃ p, e = .returned (.pointer (some ⟨p, 0, none⟩)) ∧ Hid (Bz w' w.heap.size p (gnB a b)) ∧ Hid (Below w.heap.size w w') := by
  obtain ⟨G, HG⟩ : ∃ G, Hid (G = gnB a b) := ⟨_, rfl⟩
  rw [← HG.out]
  obtain ⟨P, HP⟩ : ∃ P, Hid (P = w.heap.size) := ⟨_, rfl⟩
  obtain ⟨W0, HW0⟩ : ∃ W0, Hid (W0 = w.alloc (.cells #[.bool false, .slice none 0 0] 44)) := ⟨_, rfl⟩
  have HB0 : Hid (Below w.heap.size w W0) := by rw [HW0.out]; exact (Below.refl _ _).alloc (Nat.le_refl _) _
  have HZ0 : Hid (Bz W0 w.heap.size P 0) := by rw [HP.out]; exact zero_bz HW0.out (Nat.le_refl _)
  have HR0 : Hid (W0.heap[P]? = some (.cells #[.bool false, .slice none 0 0] 44 (0, 0))) := by rw [HP.out]; exact zero_row HW0.out
  by_cases h1 : a < 0
  · have hG : G = 0 := by rw [HG.out]; unfold gnB; rw [if_pos (Or.inl h1)]
    subst hG
    go_enter Tryd.func22, Tryd.ntmps22
    go_wp2_with fail
    rw [← HW0.out, ← HP.out]
    go_ret
    rw [← HP.out] at HZ0 HB0
    exact ⟨P, rfl, HZ0, HB0⟩
  · by_cases h2 : b < a
    · have hG : G = 0 := by rw [HG.out]; unfold gnB; rw [if_pos (Or.inr h2)]
      subst hG
      go_enter Tryd.func22, Tryd.ntmps22
      go_wp2_with fail
      rw [← HW0.out, ← HP.out]
      go_ret
      rw [← HP.out] at HZ0 HB0
      exact ⟨P, rfl, HZ0, HB0⟩
    · obtain ⟨x, rfl⟩ : ∃ x : Nat, a = (x : Int) := ⟨a.toNat, by omega⟩
      obtain ⟨y, rfl⟩ : ∃ y : Nat, b = (y : Int) := ⟨b.toNat, by omega⟩
      obtain ⟨n, hn⟩ : ∃ n : Nat, n = x + y := ⟨_, rfl⟩
      have hnn : (x : Int) + (y : Int) = (n : Int) := by omega
      have hgn := gn_eq (a := x) (b := y) (by omega)
      rw [← HG.out, ← hn] at hgn
      have HGn := hid_w hgn
      have HBi := hid_w (binG_ok (n := n) (k := x) (by omega) (by omega))
      have HC1 := hid_w (binLoop_at P w.heap.size false (.slice none 0 0) n x (lesK n x) W0 HR0.out HZ0.out.low HB0.out.size (by omega) (by omega) rfl)
      have hx50 : x ≤ 50 := by omega
      have hn100 : n ≤ 100 := by omega
      have hxn : x ≤ n := by omega
      clear hgn hn
      go_enter Tryd.func22, Tryd.ntmps22
      go_upto_region 5 with (go_at_call 15; rw [← HP.out, ← HW0.out]; refine HC1.out.mono ?_; rintro e W1 ⟨rfl, HZ1, HP1⟩)
      have HB1 : Hid (Below w.heap.size w W1) := HB0.out.trans HP1.out.below
      by_cases hx0 : x = 0
      · have hG : G = binG n x := by
          have h := HGn.out.1
          rw [if_pos hx0] at h; omega
        have HZ2 : Hid (Bz W1 w.heap.size P G) := by rw [hG]; exact HZ1.out
        clear hG
        subst hx0
        go_wp2_with fail
        go_ret
        exact ⟨P, rfl, HZ2, HB1⟩
      · have hx0' : (0 : Int) < (x : Int) := by omega
        obtain ⟨x1, hx1⟩ : ∃ x1 : Nat, x1 = x - 1 := ⟨_, rfl⟩
        have hxx : (x : Int) - 1 = (x1 : Int) := by omega
        have HGx : Hid (G = binG n x - binG n x1 ∧ binG n x1 ≤ binG n x) := by
          have h := HGn.out
          rw [if_neg hx0, ← hx1] at h; exact h
        obtain ⟨Qq, HQ⟩ : ∃ Qq, Hid (Qq = W1.heap.size) := ⟨_, rfl⟩
        obtain ⟨W2, HW2⟩ : ∃ W2, Hid (W2 = W1.alloc (.cells #[.bool false, .slice none 0 0] 44)) := ⟨_, rfl⟩
        have hB2 : Below W1.heap.size W1 W2 := by rw [HW2.out]; exact (Below.refl _ _).alloc (Nat.le_refl _) _
        have HB2 : Hid (Below w.heap.size w W2) := HB1.out.trans (hB2.mono HB1.out.size)
        have HZ2 : Hid (Bz W2 w.heap.size P (binG n x)) := HZ1.out.below hB2
        have HR2 : Hid (W2.heap[Qq]? = some (.cells #[.bool false, .slice none 0 0] 44 (0, 0))) := by rw [HQ.out]; exact zero_row HW2.out
        have HPQ : Hid (P ≠ Qq ∧ w.heap.size ≤ Qq) := ⟨by have := HZ1.out.lt; rw [HQ.out]; omega, by rw [HQ.out]; exact HB1.out.size⟩
        have HBj := hid_w (binG_ok (n := n) (k := x1) (by omega) (by omega))
        have HC2 := hid_w (binLoop_at Qq w.heap.size false (.slice none 0 0) n x1 (lesK n x1) W2 HR2.out HPQ.out.2 HB2.out.size (by omega) (by omega) rfl)
        clear hB2 hx1
        go_wp2_with (first
          | (go_at_call 15; rw [← HQ.out, ← HW2.out]; refine HC2.out.mono ?_; rintro e W3 ⟨rfl, HZ3, HP3⟩; have HC3 := hid_w (bzSub (HZ2.out.put HP3.out HR2.out HPQ.out.1) HZ3.out (up_200 HBi.out.2) (up_200 HBj.out.2) HGx.out.2 HBi.out.1))
          | (go_at_call 44; refine HC3.out.mono ?_; rintro e W4 ⟨rfl, HZ4, HP4⟩))
        have HB4 : Hid (Below w.heap.size w W4) := (HB2.out.trans HP3.out.below).trans HP4.out.below
        have HZ5 : Hid (Bz W4 w.heap.size P G) := by rw [HGx.out.1]; exact HZ4.out
        go_ret
        exact ⟨P, rfl, HZ5, HB4⟩

set_option maxHeartbeats 4000000 in
set_option maxRecDepth 100000 in
theorem RCatalan_at (n : Nat) (hn : n ≤ 30) (w : World) :
    Calls Tryd.prog 5 #[.int .i64 (n : Int)] w fun e w' => e = .returned (.int .i64 (eW (2 * n) 0 : Int)) ∧ Hid (Below w.heap.size w w') := by
  obtain ⟨x, HX⟩ : ∃ x : Nat, Hid (x = eW (2 * n) 0) := ⟨_, rfl⟩
  have hx60 : x ≤ 1152921504606846976 := by
    rw [HX.out]
    exact Nat.le_trans (eW_le (2 * n) 0) (Nat.pow_le_pow_right (by omega) (by omega : 2 * n ≤ 60))
  rw [← HX.out]
  obtain ⟨P, HP⟩ : ∃ P, Hid (P = w.heap.size) := ⟨_, rfl⟩
  obtain ⟨W0, HW0⟩ : ∃ W0, Hid (W0 = w.alloc (.cells #[.bool false, .slice none 0 0] 44)) := ⟨_, rfl⟩
  have HB0 : Hid (Below w.heap.size w W0) := by rw [HW0.out]; exact (Below.refl _ _).alloc (Nat.le_refl _) _
  have HR0 : Hid (W0.heap[P]? = some (.cells #[.bool false, .slice none 0 0] 44 (0, 0))) := by rw [HP.out]; exact zero_row HW0.out
  obtain ⟨n2, hn2⟩ : ∃ n2 : Nat, n2 = 2 * n := ⟨_, rfl⟩
  have hnn : 2 * (n : Int) = (n2 : Int) := by omega
  obtain ⟨n1, hn1⟩ : ∃ n1 : Nat, n1 = n + 1 := ⟨_, rfl⟩
  have hn11 : (n : Int) + 1 = (n1 : Int) := by omega
  have HBi := hid_w (binG_ok (n := n2) (k := n) (by omega) (by omega))
  have HC1 := hid_w (binLoop_at P w.heap.size false (.slice none 0 0) n2 n (lesK n2 n) W0 HR0.out (by rw [HP.out]; exact Nat.le_refl _) HB0.out.size (by omega) (by omega) rfl)
  have HE : Hid (x = binG n2 n / n1) := by show _ = _; rw [HX.out, ← cat_eq, hn2, hn1]
  have hb1 : n1 ≤ 31 := by omega
  have HN1 : Hid (0 < n1 ∧ n1 < 10 ^ 200) := ⟨by omega, lt_200 (by omega)⟩
  clear hn2 hn1
  go_enter Tryd.func5, Tryd.ntmps5
  go_upto_region 2 with (go_at_call 15; rw [← HP.out, ← HW0.out]; refine HC1.out.mono ?_; rintro e W1 ⟨rfl, HZ1, HP1⟩)
  have HB1 : Hid (Below w.heap.size w W1) := HB0.out.trans HP1.out.below
  have HC2 := hid_w (bzNew (W := W1) (x := n1) (by omega))
  go_wp2_with (first
    | (go_at_call 17; refine HC2.out.mono ?_; rintro e W2 ⟨rfl, HZ2, HB2⟩; have HC3 := hid_w (bzQuo (HZ1.out.below HB2.out) (HZ2.out.mono HB1.out.size) (up_200 HBi.out.2) HN1.out.2 HBi.out.1 HN1.out.1))
    | (go_at_call 16; refine HC3.out.mono ?_; rintro e W3 ⟨rfl, HZ3, HP3⟩; have HZ4 : Hid (Bz W3 w.heap.size P x) := by (rw [HE.out]; exact HZ3.out))
    | (go_at_call 18; refine (bzI64 HZ4.out (by omega)).mono ?_; rintro e W4 ⟨rfl, rfl⟩))
  have HB4 : Hid (Below w.heap.size w W4) := (HB1.out.trans (HB2.out.mono HB1.out.size)).trans HP3.out.below
  go_ret
  exact ⟨rfl, HB4⟩
end Go.Proofs.YthfbkangjpcpgaaDoor
