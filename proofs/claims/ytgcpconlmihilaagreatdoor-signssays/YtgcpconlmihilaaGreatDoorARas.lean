/-
  Fractions of ferrersbig, both numbers above 0: den, SetFrac, NewRat.
  Fractions of ferrersbig whose lower number is 1: IsInt, RatString.
-/
import Derived.Test.YtgcpconlmihilaaGreatDoorARat
import Derived.Test.YtgcpconlmihilaaGreatDoorASto
namespace Go.Proofs.YtgcpconlmihilaaGreatDoor
open Go.RowKit

theorem Rden_at (p lo : Nat) (va vb : Value) (xs ys : List Nat) (x y : Nat) (w : World) (h : RatAt w lo p va xs x vb ys y) (hy : 0 < y) (hfy : ys.length ≤ 400000) :
    Calls Tryz.prog 39 #[.pointer (some ⟨p, 0, none⟩)] w fun e w' => e = .returned (.pointer (some ⟨p, 2, none⟩)) ∧ w' = w := by
  obtain ⟨ay, cy, rfl, hSy⟩ := h.dn.shows (by omega)
  have hyl : 0 < ys.length := num_pos_len h.dn.num rfl hy
  have hc3 : w.cell? ⟨p, 3, none⟩ = some (.slice ay ys.length cy) := by rw [cell_of_row w p 3 _ _ _ h.row]; rfl
  obtain ⟨m, hm⟩ : ∃ m, m = ys.length := ⟨_, rfl⟩
  rw [← hm] at hc3 hyl
  have hm0 : ¬ (m : Int) = 0 := by omega
  clear h hSy hm
  go_enter Tryz.func39, Tryz.ntmps39
  go_wp2
  go_ret
  exact ⟨rfl, rfl⟩

set_option maxHeartbeats 8000000 in
set_option maxRecDepth 100000 in
theorem RSetFrac_at (pz pa pb la lb lz : Nat) (c0 c1 c2 c3 va vb : Value) (xs ys : List Nat) (x y : Nat) (w : World) (ha : IntAt w la pa va xs x) (hb : IntAt w lb pb vb ys y) (hz : w.heap[pz]? = some (.cells #[c0, c1, c2, c3] 48 (0, 0))) (hlz : lz ≤ pz) (hx : 0 < x) (hy : 0 < y) (hfx : xs.length ≤ 400000) (hfy : ys.length ≤ 400000) :
    Calls Tryz.prog 20 #[.pointer (some ⟨pz, 0, none⟩), .pointer (some ⟨pa, 0, none⟩), .pointer (some ⟨pb, 0, none⟩)] w fun e w' => e = .returned (.pointer (some ⟨pz, 0, none⟩)) ∧ Hid (∃ va' xs' vb' ys', RatAt w' w.heap.size pz va' xs' (x / Nat.gcd x y) vb' ys' (y / Nat.gcd x y)) ∧ Hid (Put w w' lz pz) := by
  have HA := hid_w ha
  have HB := hid_w hb
  have HZ := hid_w hz
  have hzl : pz < w.heap.size := (Array.getElem?_eq_some_iff.1 hz).1
  have HPos := hid_w (And.intro hx (And.intro hy (And.intro hfx hfy)))
  obtain ⟨ay, cy, rfl, hSy⟩ := hb.own.shows (by omega)
  have hyl : 0 < ys.length := num_pos_len hb.own.num rfl hy
  have hb1 := hb.cell1
  obtain ⟨m, hm⟩ : ∃ m, m = ys.length := ⟨_, rfl⟩
  rw [← hm] at hb1 hyl
  have hm0 : ¬ (m : Int) = 0 := by omega
  have HCa : Hid (∀ W, W = w.alloc (.cells #[.bool false, .slice none 0 0] 46) → Calls Tryz.prog 40 #[.pointer (some ⟨w.heap.size, 0, none⟩), .pointer (some ⟨pa, 0, none⟩)] W fun e w' => ∃ a3 n3 c3, e = .returned (.pointer (some ⟨w.heap.size, 0, none⟩)) ∧ Hid (∃ us, w'.heap[w.heap.size]? = some (.cells #[.bool false, .slice a3 n3 c3] 46 (0, 0)) ∧ OwnsN w' w.heap.size (.slice a3 n3 c3) us x) ∧ Hid (Below w.heap.size w w')) := by
    rintro W rfl
    have hB : Below w.heap.size w (w.alloc (.cells #[.bool false, .slice none 0 0] 46)) := (Below.refl _ _).alloc (Nat.le_refl _) _
    refine (BSetTo_at w.heap.size pa la w.heap.size false (.slice none 0 0) va xs x _ (HA.out.undr hB) (heap_alloc_new _ _) (Nat.le_refl _) (by have := HPos.out.2.2.1; omega) HPos.out.1).mono ?_
    rintro e w' ⟨v, us, rfl, h1, h2, h3⟩
    obtain rfl := num_uniq _ _ _ h2.num HA.out.own.num
    obtain ⟨a3, c3, rfl, _⟩ := h2.shows (by have := HPos.out.2.2.1; omega)
    exact ⟨a3, _, c3, rfl, ⟨_, h1, h2.mono (by simp)⟩, hB.trans h3.below⟩
  have HCb : Hid (∀ W, Below w.heap.size w W → Calls Tryz.prog 40 #[.pointer (some ⟨W.heap.size, 0, none⟩), .pointer (some ⟨pb, 0, none⟩)] (W.alloc (.cells #[.bool false, .slice none 0 0] 46)) fun e w' => ∃ a3 n3 c3, e = .returned (.pointer (some ⟨W.heap.size, 0, none⟩)) ∧ Hid (∃ us, w'.heap[W.heap.size]? = some (.cells #[.bool false, .slice a3 n3 c3] 46 (0, 0)) ∧ OwnsN w' w.heap.size (.slice a3 n3 c3) us y) ∧ Hid (Below W.heap.size W w')) := by
    intro W hW
    have hB : Below W.heap.size W (W.alloc (.cells #[.bool false, .slice none 0 0] 46)) := (Below.refl _ _).alloc (Nat.le_refl _) _
    refine (BSetTo_at W.heap.size pb lb W.heap.size false (.slice none 0 0) _ ys y _ ((HB.out.undr hW).undr hB) (heap_alloc_new _ _) (Nat.le_refl _) (by have := HPos.out.2.2.2; omega) HPos.out.2.1).mono ?_
    rintro e w' ⟨v, us, rfl, h1, h2, h3⟩
    obtain rfl := num_uniq _ _ _ h2.num HB.out.own.num
    obtain ⟨a3, c3, rfl, _⟩ := h2.shows (by have := HPos.out.2.2.2; omega)
    exact ⟨a3, _, c3, rfl, ⟨_, h1, h2.mono (by have := hW.size; simp; omega)⟩, hB.trans h3.below⟩
  clear ha hb hz hx hy hfx hfy hSy hm
  go_enter Tryz.func20, Tryz.ntmps20
  go_upto_region 4 with (first
    | (go_at_call 40; with_reducible (refine (HCa.out _ rfl).mono ?_); rintro e W1 ⟨a3, n3, k3, rfl, HV1, HB1⟩)
    | (go_at_call 40; with_reducible (refine (HCb.out W1 HB1.out).mono ?_); rintro e W2 ⟨a4, n4, k4, rfl, HV2, HB2⟩))
  obtain ⟨P, HP⟩ : ∃ P, Hid (P = w.heap.size) := ⟨_, rfl⟩
  obtain ⟨P2, HP2⟩ : ∃ P2, Hid (P2 = W1.heap.size) := ⟨_, rfl⟩
  obtain ⟨us1, hr1, ho1⟩ := HV1.out
  obtain ⟨us2, hr2, ho2⟩ := HV2.out
  have hPl : w.heap.size < W1.heap.size := (Array.getElem?_eq_some_iff.1 hr1).1
  have hB2w : Below w.heap.size w W2 := HB1.out.trans (HB2.out.mono HB1.out.size)
  have hrP : W2.heap[w.heap.size]? = some (.cells #[.bool false, .slice a3 n3 k3] 46 (0, 0)) := (HB2.out.block _ hPl).trans hr1
  have hrz : W2.heap[pz]? = some (.cells #[c0, c1, c2, c3] 48 (0, 0)) := (hB2w.block pz hzl).trans HZ.out
  rw [← HP.out] at hrP ⊢
  rw [← HP2.out] at hr2 ⊢
  have a0 : W2.cell? ⟨P, 0, none⟩ = some (.bool false) := by rw [cell_of_row W2 P 0 _ _ _ hrP]; rfl
  have a1 : W2.cell? ⟨P, 1, none⟩ = some (.slice a3 n3 k3) := by rw [cell_of_row W2 P 1 _ _ _ hrP]; rfl
  have z0 : W2.cell? ⟨pz, 0, none⟩ = some c0 := by rw [cell_of_row W2 pz 0 _ _ _ hrz]; rfl
  have z1 : W2.cell? ⟨pz, 1, none⟩ = some c1 := by rw [cell_of_row W2 pz 1 _ _ _ hrz]; rfl
  have f0 : W2.frozen? ⟨pz, 0, none⟩ = false := frozen_of_row W2 _ 0 _ _ hrz
  have f1 : W2.frozen? ⟨pz, 1, none⟩ = false := frozen_of_row W2 _ 1 _ _ hrz
  have r1 := heap_setCell_same W2 pz 0 _ _ (.bool false) hrz
  have f1' : (W2.setCell ⟨pz, 0, none⟩ (.bool false)).frozen? ⟨pz, 1, none⟩ = false := frozen_of_row _ _ 1 _ _ r1
  have z1' : (W2.setCell ⟨pz, 0, none⟩ (.bool false)).cell? ⟨pz, 1, none⟩ = some c1 := by rw [cell_of_row _ pz 1 _ _ _ r1]; rfl
  go_upto_region 5 with fail
  obtain ⟨W3, HW3⟩ : ∃ W3, Hid (W3 = (W2.setCell ⟨pz, 0, none⟩ (.bool false)).setCell ⟨pz, 1, none⟩ (.slice a3 n3 k3)) := ⟨_, rfl⟩
  rw [← HW3.out]
  have r2 : W3.heap[pz]? = some (.cells #[.bool false, .slice a3 n3 k3, c2, c3] 48 (0, 0)) := by
    rw [HW3.out]
    have := heap_setCell_same _ pz 1 _ _ (.slice a3 n3 k3) r1
    simpa using this
  have hne1 : P ≠ pz := by rw [HP.out]; omega
  have hne2 : P2 ≠ pz := by rw [HP2.out]; omega
  have ho3 : ∀ k, k ≠ pz → W3.heap[k]? = W2.heap[k]? := fun k hk => by rw [HW3.out, heap_setCell_other _ _ _ _ hk, heap_setCell_other _ _ _ _ hk]
  have hr2' : W3.heap[P2]? = some (.cells #[.bool false, .slice a4 n4 k4] 46 (0, 0)) := (ho3 P2 hne2).trans hr2
  clear a0 a1 z0 z1 f0 f1 r1 f1' z1'
  have a0 : W3.cell? ⟨P2, 0, none⟩ = some (.bool false) := by rw [cell_of_row W3 P2 0 _ _ _ hr2']; rfl
  have a1 : W3.cell? ⟨P2, 1, none⟩ = some (.slice a4 n4 k4) := by rw [cell_of_row W3 P2 1 _ _ _ hr2']; rfl
  have z0 : W3.cell? ⟨pz, 2, none⟩ = some c2 := by rw [cell_of_row W3 pz 2 _ _ _ r2]; rfl
  have z1 : W3.cell? ⟨pz, 3, none⟩ = some c3 := by rw [cell_of_row W3 pz 3 _ _ _ r2]; rfl
  have f0 : W3.frozen? ⟨pz, 2, none⟩ = false := frozen_of_row W3 _ 2 _ _ r2
  have f1 : W3.frozen? ⟨pz, 3, none⟩ = false := frozen_of_row W3 _ 3 _ _ r2
  have r3 := heap_setCell_same W3 pz 2 _ _ (.bool false) r2
  have f1' : (W3.setCell ⟨pz, 2, none⟩ (.bool false)).frozen? ⟨pz, 3, none⟩ = false := frozen_of_row _ _ 3 _ _ r3
  have z1' : (W3.setCell ⟨pz, 2, none⟩ (.bool false)).cell? ⟨pz, 3, none⟩ = some c3 := by rw [cell_of_row _ pz 3 _ _ _ r3]; rfl
  go_upto_region 6 with fail
  obtain ⟨W4, HW4⟩ : ∃ W4, Hid (W4 = (W3.setCell ⟨pz, 2, none⟩ (.bool false)).setCell ⟨pz, 3, none⟩ (.slice a4 n4 k4)) := ⟨_, rfl⟩
  rw [← HW4.out]
  have r4 : W4.heap[pz]? = some (.cells #[.bool false, .slice a3 n3 k3, .bool false, .slice a4 n4 k4] 48 (0, 0)) := by
    rw [HW4.out]
    have := heap_setCell_same _ pz 3 _ _ (.slice a4 n4 k4) r3
    simpa using this
  have ho4 : ∀ k, k ≠ pz → W4.heap[k]? = W2.heap[k]? := fun k hk => by rw [HW4.out, heap_setCell_other _ _ _ _ hk, heap_setCell_other _ _ _ _ hk, ho3 k hk]
  have hs4 : W4.heap.size = W2.heap.size := by rw [HW4.out, HW3.out]; simp
  have ho1' := ho1.below HB2.out
  have HRt : Hid (RatAt W4 w.heap.size pz (.slice a3 n3 k3) us1 x (.slice a4 n4 k4) us2 y) := by
    refine ⟨r4, ⟨ho1'.own.blocks (fun k e => ho4 k (fun e2 => by have := (ho1'.own.lt e).1; omega)), ho1'.num, ho1'.room⟩, ⟨ho2.own.blocks (fun k e => ho4 k (fun e2 => by have := (ho2.own.lt e).1; omega)), ho2.num, ho2.room⟩⟩
  have HPu : Hid (Put w W4 lz pz) := by
    refine ⟨?_, fun k hk hne => (ho4 k hne).trans (hB2w.block k hk)⟩
    rw [HW4.out, HW3.out]
    exact (((((hB2w.mono (by omega)).setCell (p := ⟨pz, 0, none⟩) hlz _).setCell (p := ⟨pz, 1, none⟩) hlz _).setCell (p := ⟨pz, 2, none⟩) hlz _).setCell (p := ⟨pz, 3, none⟩) hlz _)
  have hl1 : us1.length ≤ xs.length := num_len ho1.num (num_lt_len HA.out.own.num rfl)
  have hl2 : us2.length ≤ ys.length := num_len ho2.num (num_lt_len HB.out.own.num rfl)
  have HNo := hid_w (Rnorm_at pz w.heap.size lz (.slice a3 n3 k3) (.slice a4 n4 k4) us1 us2 x y W4 HRt.out (by rw [hs4]; exact hB2w.size) hlz HPos.out.1 HPos.out.2.1 (by have := HPos.out; omega) (by have := HPos.out; omega))
  have hsz : w.heap.size ≤ W4.heap.size := by rw [hs4]; exact hB2w.size
  clear a0 a1 z0 z1 f0 f1 r2 r3 r4 f1' z1' ho3 ho4 hr1 hr2 ho1 ho2 hr2' hrP hrz
  go_wp2_with (go_at_call 41; refine HNo.out.mono ?_; rintro e W5 ⟨rfl, HRes, HPut⟩)
  go_ret
  refine ⟨rfl, HRes, ⟨HPu.out.below.trans (HPut.out.below.mono (by omega)), fun k hk hne => ?_⟩⟩
  exact (HPut.out.block k (by omega) hne).trans (HPu.out.block k hk hne)

/-- The fraction in block p, told by its values (both above 0). -/
def Qz (w : World) (lo p x y : Nat) : Prop := (∃ va xs vb ys, RatAt w lo p va xs x vb ys y) ∧ lo ≤ p ∧ 0 < x ∧ 0 < y
theorem Qz.lt {w : World} {lo p x y : Nat} (h : Qz w lo p x y) : p < w.heap.size := by obtain ⟨⟨_, _, _, _, h1⟩, _⟩ := h; exact h1.lt
theorem Qz.below {w w' : World} {lo p x y : Nat} (h : Qz w lo p x y) (hb : Below w.heap.size w w') : Qz w' lo p x y := by
  obtain ⟨⟨va, xs, vb, ys, h1⟩, h2⟩ := h
  exact ⟨⟨va, xs, vb, ys, h1.below hb⟩, h2⟩
theorem Qz.mono {w : World} {lo lo' p x y : Nat} (h : Qz w lo p x y) (hl : lo' ≤ lo) : Qz w lo' p x y := by
  obtain ⟨⟨va, xs, vb, ys, h1⟩, h2, h3⟩ := h
  exact ⟨⟨va, xs, vb, ys, h1.row, h1.up.mono hl, h1.dn.mono hl⟩, by omega, h3⟩

set_option maxHeartbeats 8000000 in
set_option maxRecDepth 100000 in
theorem NewRat_at (x y : Nat) (w : World) (hx : 0 < x) (hy : 0 < y) (hx9 : x < 4294967296) (hy9 : y < 4294967296) :
    Calls Tryz.prog 18 #[.int .i64 (x : Int), .int .i64 (y : Int)] w fun e w' => ∃ p, e = .returned (.pointer (some ⟨p, 0, none⟩)) ∧ Hid (Qz w' w.heap.size p (x / Nat.gcd x y) (y / Nat.gcd x y)) ∧ Hid (Below w.heap.size w w') := by
  have hy0 : ¬ (y : Int) = 0 := by omega
  have hx63 : x < 9223372036854775808 := by omega
  have hy63 : y < 9223372036854775808 := by omega
  have HPos := hid_w (And.intro hx (And.intro hy (And.intro hx9 hy9)))
  have HNa : Hid (∀ W, Calls Tryz.prog 37 #[.int .i64 (x : Int)] W fun e w' => ∃ P1, e = .returned (.pointer (some ⟨P1, 0, none⟩)) ∧ Hid (∃ v us, IntAt w' P1 P1 v us x) ∧ Hid (Below W.heap.size W w')) := fun W => by
    refine (NewInt_at x W hx63).mono ?_
    rintro e w' ⟨v, us, rfl, h1, h2⟩
    exact ⟨_, rfl, ⟨v, us, h1⟩, h2⟩
  have HNb : Hid (∀ W, Calls Tryz.prog 37 #[.int .i64 (y : Int)] W fun e w' => ∃ P1, e = .returned (.pointer (some ⟨P1, 0, none⟩)) ∧ Hid (∃ v us, IntAt w' P1 P1 v us y) ∧ Hid (Below W.heap.size W w')) := fun W => by
    refine (NewInt_at y W hy63).mono ?_
    rintro e w' ⟨v, us, rfl, h1, h2⟩
    exact ⟨_, rfl, ⟨v, us, h1⟩, h2⟩
  have HFr : Hid (∀ W1 W2 P1 P2, Below (w.alloc (.cells #[.bool false, .slice none 0 0, .bool false, .slice none 0 0] 48)).heap.size (w.alloc (.cells #[.bool false, .slice none 0 0, .bool false, .slice none 0 0] 48)) W1 → Below W1.heap.size W1 W2 → (∃ v us, IntAt W1 P1 P1 v us x) → (∃ v us, IntAt W2 P2 P2 v us y) → Calls Tryz.prog 20 #[.pointer (some ⟨w.heap.size, 0, none⟩), .pointer (some ⟨P1, 0, none⟩), .pointer (some ⟨P2, 0, none⟩)] W2 fun e w' => e = .returned (.pointer (some ⟨w.heap.size, 0, none⟩)) ∧ Hid (Qz w' w.heap.size w.heap.size (x / Nat.gcd x y) (y / Nat.gcd x y)) ∧ Hid (Below w.heap.size w w')) := by
    intro W1 W2 P1 P2 hb1 hb2 ⟨v1, us1, i1⟩ ⟨v2, us2, i2⟩
    have hB0 : Below w.heap.size w (w.alloc (.cells #[.bool false, .slice none 0 0, .bool false, .slice none 0 0] 48)) := (Below.refl _ _).alloc (Nat.le_refl _) _
    have hr0 := heap_alloc_new w (.cells #[.bool false, .slice none 0 0, .bool false, .slice none 0 0] 48)
    have hB2 := hb1.trans (hb2.mono hb1.size)
    have hr2 : W2.heap[w.heap.size]? = some (.cells #[.bool false, .slice none 0 0, .bool false, .slice none 0 0] 48 (0, 0)) := (hB2.block _ (Array.getElem?_eq_some_iff.1 hr0).1).trans hr0
    have hBw := hB0.trans (hB2.mono hB0.size)
    have l1 := num_len i1.own.num (k := 1) (by have := HPos.out; omega)
    have l2 := num_len i2.own.num (k := 1) (by have := HPos.out; omega)
    refine (RSetFrac_at w.heap.size P1 P2 P1 P2 w.heap.size _ _ _ _ v1 v2 us1 us2 x y W2 (i1.undr hb2) i2 hr2 (Nat.le_refl _) HPos.out.1 HPos.out.2.1 (by omega) (by omega)).mono ?_
    rintro e w' ⟨rfl, HR, HP⟩
    have hg : 0 < Nat.gcd x y := Nat.gcd_pos_of_pos_left _ HPos.out.1
    obtain ⟨va, xs, vb, ys, q⟩ := HR.out
    exact ⟨rfl, ⟨⟨va, xs, vb, ys, q.row, q.up.mono hBw.size, q.dn.mono hBw.size⟩, Nat.le_refl _, Nat.div_pos (Nat.gcd_le_left _ HPos.out.1) hg, Nat.div_pos (Nat.gcd_le_right _ HPos.out.2.1) hg⟩, hBw.trans HP.out.below⟩
  clear hx hy hx9 hy9 hx63 hy63
  go_enter Tryz.func18, Tryz.ntmps18
  go_wp2_with (first
    | (go_at_call 37; with_reducible (refine (HNa.out _).mono ?_); rintro e W1 ⟨P1, rfl, HI1, HB1⟩)
    | (go_at_call 37; with_reducible (refine (HNb.out _).mono ?_); rintro e W2 ⟨P2, rfl, HI2, HB2⟩)
    | (go_at_call 20; have HC := hid_w (HFr.out W1 W2 P1 P2 HB1.out HB2.out HI1.out HI2.out); with_reducible (refine HC.out.mono ?_); rintro e W3 ⟨rfl, HR, HB3⟩))
  go_ret
  exact ⟨_, rfl, HR, HB3⟩

end Go.Proofs.YtgcpconlmihilaaGreatDoor

namespace Go.Proofs.YtgcpconlmihilaaGreatDoor
open Go.RowKit

set_option maxHeartbeats 8000000 in
set_option maxRecDepth 100000 in
theorem BCmpF_same (px py ox lo lo' : Nat) (vx vy : Value) (xs ys : List Nat) (x : Nat) (w : World) (hx0 : w.cell? ⟨px, ox, none⟩ = some (.bool false)) (hx1 : w.cell? ⟨px, ox + 1, none⟩ = some vx) (hx : OwnsN w lo vx xs x) (hy : IntAt w lo' py vy ys x) (hl : xs.length ≤ 1000000) :
    Calls Tryz.prog 65 #[.pointer (some ⟨px, ox, none⟩), .pointer (some ⟨py, 0, none⟩)] w fun e w' => e = .returned (.int .i64 0) ∧ Below w.heap.size w w' := by
  obtain rfl : xs = ys := num_uniq _ _ _ hx.num hy.own.num
  have hy0 := hy.cell0
  have hy1 := hy.cell1
  obtain ⟨ax, cx, rfl, hSx⟩ := hx.shows hl
  obtain ⟨ay, cy, rfl, hSy⟩ := hy.own.shows hl
  obtain ⟨n, HN⟩ : ∃ n, Hid (n = xs.length) := ⟨_, rfl⟩
  rw [← HN.out] at hx1 hy1
  have HC : Hid (Calls Tryz.prog 86 #[.slice ax n cx, .slice ay n cy] w.drew.drew fun e w2 => e = .returned (.int .i64 0) ∧ w2.cell? ⟨px, ox, none⟩ = some (.bool false) ∧ Hid (Below w.heap.size w w2)) := by
    refine (bcmp_same ax ay cx cy n xs w.drew.drew (hSx.below (below_drewN (Below.refl _ _) 2)) (hSy.below (below_drewN (Below.refl _ _) 2)) HN.out).mono ?_
    rintro e w2 ⟨rfl, d, rfl⟩
    exact ⟨rfl, hx0, below_drewN (below_drewN (Below.refl _ _) 2) d⟩
  clear hx hy hSx hSy
  go_enter Tryz.func65, Tryz.ntmps65
  go_wp2_with fail
  go_region
  all_goals go_wp2_with fail
  all_goals (go_region_with (go_at_call 86; with_reducible (refine HC.out.mono ?_); rintro e W1 ⟨rfl, hw0, HBw⟩))
  all_goals go_wp2
  all_goals go_ret
  all_goals exact ⟨rfl, HBw.out⟩

set_option maxHeartbeats 4000000 in
theorem RIsInt_one (p lo x : Nat) (w : World) (h : Qz w lo p x 1) :
    Calls Tryz.prog 44 #[.pointer (some ⟨p, 0, none⟩)] w fun e w' => e = .returned (.bool true) ∧ Hid (Below w.heap.size w w') := by
  obtain ⟨⟨va, xs, vb, ys, hR⟩, hl, hx0, _⟩ := h
  have hl1 := num_len hR.dn.num (k := 1) (by omega)
  have HD := hid_w (Rden_at p lo va vb xs ys x 1 w hR (by omega) (by omega))
  have HN : Hid (Calls Tryz.prog 37 #[.int .i64 1] w fun e w' => ∃ P, e = .returned (.pointer (some ⟨P, 0, none⟩)) ∧ Hid (Below w.heap.size w w') ∧ Hid (Calls Tryz.prog 65 #[.pointer (some ⟨p, 2, none⟩), .pointer (some ⟨P, 0, none⟩)] w' fun e w2 => e = .returned (.int .i64 0) ∧ Hid (Below w.heap.size w w2))) := by
    refine (NewInt_at 1 w (by omega)).mono ?_
    rintro e w' ⟨v, us, rfl, h1, h2⟩
    have hR2 := hR.below h2
    refine ⟨_, rfl, h2, ?_⟩
    refine (BCmpF_same p w.heap.size 2 lo w.heap.size vb v ys us 1 w' (by rw [cell_of_row w' p 2 _ _ _ hR2.row]; rfl) (by rw [cell_of_row w' p 3 _ _ _ hR2.row]; rfl) hR2.dn h1 (by omega)).mono ?_
    rintro e w2 ⟨rfl, h3⟩
    exact ⟨rfl, h2.trans (h3.mono h2.size)⟩
  clear hR
  go_enter Tryz.func44, Tryz.ntmps44
  go_wp2_with (first
    | (go_at_call 39; refine HD.out.mono ?_; rintro e W1 ⟨rfl, hW⟩; subst hW)
    | (go_at_call 37; with_reducible (refine HN.out.mono ?_); rintro e W2 ⟨P, rfl, HB2, HC⟩)
    | (go_at_call 65; with_reducible (refine HC.out.mono ?_); rintro e W3 ⟨rfl, HB3⟩))
  go_ret
  exact ⟨rfl, HB3⟩

set_option maxHeartbeats 4000000 in
theorem BStringF_at (p : Nat) (a : Option Addr) (ca : Nat) (us : List Nat) (x : Nat) (w : World) (hpb : p < w.heap.size) (hp0 : w.cell? ⟨p, 0, none⟩ = some (.bool false)) (hp1 : w.cell? ⟨p, 1, none⟩ = some (.slice a us.length ca)) (hS : ShowsW w a ca us) (hN : Num us x) (h0 : 0 < x) (hd : (dig x).length ≤ 1000000) :
    Calls Tryz.prog 45 #[.pointer (some ⟨p, 0, none⟩)] w fun e w' => e = .returned (.string ⟨(Lib.decDigits x).toArray⟩) ∧ Below w.heap.size w w' := by
  have HT : Hid (Calls Tryz.prog 66 #[.pointer (some ⟨p, 0, none⟩), .int .i64 10] w fun e w' => e = .returned (.string ⟨(Lib.decDigits x).toArray⟩) ∧ Below w.heap.size w w') := by
    have := Text_pos p a ca us.length us x w hpb hp0 hp1 hS rfl (num_pos_len hN rfl h0) hN hd
    rw [dig, if_neg (by omega)] at this
    exact this
  clear hS hd hp0 hp1 hN
  go_enter Tryz.func45, Tryz.ntmps45
  go_wp2_with fail
  refine HT.out.mono ?_
  rintro e w' ⟨rfl, hb⟩
  go_wp2
  go_ret
  exact ⟨rfl, hb⟩

set_option maxHeartbeats 4000000 in
theorem RatString_one (p lo x : Nat) (w : World) (h : Qz w lo p x 1) (hx9 : x < 4294967296 ^ 100) (hd : (dig x).length ≤ 1000000) :
    Calls Tryz.prog 22 #[.pointer (some ⟨p, 0, none⟩)] w fun e w' => e = .returned (.string ⟨(Lib.decDigits x).toArray⟩) ∧ Hid (Below w.heap.size w w') := by
  have HI := hid_w (RIsInt_one p lo x w h)
  have HS : Hid (∀ W, Below w.heap.size w W → Calls Tryz.prog 45 #[.pointer (some ⟨p, 0, none⟩)] W fun e w' => e = .returned (.string ⟨(Lib.decDigits x).toArray⟩) ∧ Hid (Below w.heap.size w w')) := fun W hW => by
    obtain ⟨⟨va, xs, vb, ys, hR⟩, _, hx0, _⟩ := h.below hW
    have hl := num_len hR.up.num hx9
    obtain ⟨a, ca, rfl, hS⟩ := hR.up.shows (by omega)
    refine (BStringF_at p a ca xs x W hR.lt (by rw [cell_of_row W p 0 _ _ _ hR.row]; rfl) (by rw [cell_of_row W p 1 _ _ _ hR.row]; rfl) hS hR.up.num hx0 hd).mono ?_
    rintro e w' ⟨rfl, hb⟩
    exact ⟨rfl, hW.trans (hb.mono hW.size)⟩
  clear h
  go_enter Tryz.func22, Tryz.ntmps22
  go_wp2_with (first
    | (go_at_call 44; refine HI.out.mono ?_; rintro e W1 ⟨rfl, HB1⟩; have HC := hid_w (HS.out W1 HB1.out))
    | (go_at_call 45; with_reducible (refine HC.out.mono ?_); rintro e W2 ⟨rfl, HB2⟩))
  go_ret
  exact ⟨rfl, HB2⟩
end Go.Proofs.YtgcpconlmihilaaGreatDoor
