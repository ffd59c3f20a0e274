/-
  The contract of ferrersbig's Mul into a number of its own; the factors may lie inside a fraction.
  Fractions of ferrersbig, both numbers above 0: Mul.
-/
import Derived.Test.YtgcpconlmihilaaGreatDoorABig
import Derived.Test.YtgcpconlmihilaaGreatDoorASml
import Derived.Deep.RegionHeld3
import Derived.Test.YtgcpconlmihilaaGreatDoorARas
namespace Go.Proofs.YtgcpconlmihilaaGreatDoor
open Go.RowKit

set_option maxHeartbeats 8000000 in
set_option maxRecDepth 100000 in
theorem BMulN_at (pz px py ox oy lz : Nat) (b : Bool) (v0 : Value) (ax ay : Option Addr) (cx cy : Nat) (xs ys : List Nat) (x y : Nat) (w : World) (hx0 : w.cell? ⟨px, ox, none⟩ = some (.bool false)) (hx1 : w.cell? ⟨px, ox + 1, none⟩ = some (.slice ax xs.length cx)) (hSx : ShowsW w ax cx xs) (hX : Num xs x) (hy0 : w.cell? ⟨py, oy, none⟩ = some (.bool false)) (hy1 : w.cell? ⟨py, oy + 1, none⟩ = some (.slice ay ys.length cy)) (hSy : ShowsW w ay cy ys) (hY : Num ys y) (hz : w.heap[pz]? = some (.cells #[.bool b, v0] 46 (0, 0))) (hlz : lz ≤ pz) (hzx : pz ≠ px) (hzy : pz ≠ py) (hf : xs.length + ys.length ≤ 900000) :
    Calls Tryz.prog 38 #[.pointer (some ⟨pz, 0, none⟩), .pointer (some ⟨px, ox, none⟩), .pointer (some ⟨py, oy, none⟩)] w fun e w' => ∃ v us, e = .returned (.pointer (some ⟨pz, 0, none⟩)) ∧ w'.heap[pz]? = some (.cells #[.bool false, v] 46 (0, 0)) ∧ OwnsN w' w.heap.size v us (x * y) ∧ Put w w' lz pz := by
  have hxl : px < w.heap.size := World.block_lt_of_cell? w _ hx0
  have hyl : py < w.heap.size := World.block_lt_of_cell? w _ hy0
  obtain ⟨n9, HN⟩ : ∃ n9, Hid (n9 = xs.length) := ⟨_, rfl⟩
  obtain ⟨m, HM⟩ : ∃ m, Hid (m = ys.length) := ⟨_, rfl⟩
  rw [← HN.out] at hx1 hf
  rw [← HM.out] at hy1 hf
  have HX : Hid (Num xs x) := hX
  have HY : Hid (Num ys y) := hY
  have HSx : Hid (ShowsW w ax cx xs) := hSx
  have HSy : Hid (ShowsW w ay cy ys) := hSy
  have HZ : Hid (w.heap[pz]? = some (.cells #[.bool b, v0] 46 (0, 0))) := hz
  have HZl : Hid (pz < w.heap.size) := (Array.getElem?_eq_some_iff.1 hz).1
  have HC : Hid (∀ w', Below w.heap.size w w' → Calls Tryz.prog 58 #[.slice ax n9 cx, .slice ay m cy] w' fun e w2 => ∃ a3 n3 c3 us, e = .returned (.slice a3 n3 c3) ∧ Hid (OwnsN w2 w.heap.size (.slice a3 n3 c3) us (x * y)) ∧ Hid (Below w.heap.size w w2) ∧ w2.cell? ⟨px, ox, none⟩ = some (.bool false) ∧ w2.cell? ⟨py, oy, none⟩ = some (.bool false) ∧ w2.cell? ⟨px, ox + 1, none⟩ = some (.slice ax n9 cx) ∧ w2.cell? ⟨py, oy + 1, none⟩ = some (.slice ay m cy)) := fun w' hb => by
    refine (mul_at _ _ _ _ _ _ _ _ _ _ _ (HSx.out.below hb) (HSy.out.below hb) HN.out HM.out HX.out HY.out hf).mono ?_
    rintro e w2 ⟨v, us, rfl, h1, h2, h3⟩
    obtain ⟨a3, c3, rfl, _⟩ := h1.shows (by omega)
    have hb2 := hb.trans (h3.mono hb.size)
    exact ⟨_, _, _, us, rfl, h1.mono hb.size, hb2, (hb2.cell (p := ⟨px, ox, none⟩) hxl).trans hx0, (hb2.cell (p := ⟨py, oy, none⟩) hyl).trans hy0, (hb2.cell (p := ⟨px, ox + 1, none⟩) hxl).trans hx1, (hb2.cell (p := ⟨py, oy + 1, none⟩) hyl).trans hy1⟩
  have HG : Hid (∀ W, Below w.heap.size w W → ∀ a n c, Calls Tryz.prog 57 #[.pointer (some ⟨pz, 0, none⟩), .bool false, .slice a n c] W fun e w' => e = .returned (.pointer (some ⟨pz, 0, none⟩)) ∧ Hid (w'.heap[pz]? = some (.cells #[.bool false, .slice a n c] 46 (0, 0)) ∧ w'.heap.size = W.heap.size ∧ Put W w' lz pz) ∧ w'.cell? ⟨px, ox, none⟩ = some (.bool false) ∧ w'.cell? ⟨py, oy, none⟩ = some (.bool false) ∧ w'.cell? ⟨px, ox + 1, none⟩ = some (.slice ax n9 cx) ∧ w'.cell? ⟨py, oy + 1, none⟩ = some (.slice ay m cy)) := fun W hb a n c => by
    refine (give_at pz lz b v0 a n c W ((hb.block pz HZl.out).trans HZ.out) hlz).mono ?_
    rintro e w' ⟨rfl, q1, q2, q3⟩
    have k1 : ∀ o, w'.cell? ⟨px, o, none⟩ = w.cell? ⟨px, o, none⟩ := fun o => by simp only [World.cell?]; rw [q3.block px (by have := hb.size; omega) (Ne.symm hzx), hb.block px hxl]
    have k2 : ∀ o, w'.cell? ⟨py, o, none⟩ = w.cell? ⟨py, o, none⟩ := fun o => by simp only [World.cell?]; rw [q3.block py (by have := hb.size; omega) (Ne.symm hzy), hb.block py hyl]
    exact ⟨rfl, ⟨q1, q2, q3⟩, (k1 _).trans hx0, (k2 _).trans hy0, (k1 _).trans hx1, (k2 _).trans hy1⟩
  have HB0 : Hid (Below w.heap.size w w.drew) := below_drewN (Below.refl _ _) 1
  clear hSx hSy hz hX hY
  go_enter Tryz.func38, Tryz.ntmps38
  go_wp2_with fail
  go_region_held3 (fun W => W.cell? ⟨px, ox, none⟩ = some (.bool false) ∧ W.cell? ⟨py, oy, none⟩ = some (.bool false) ∧ W.cell? ⟨px, ox + 1, none⟩ = some (.slice ax n9 cx) ∧ W.cell? ⟨py, oy + 1, none⟩ = some (.slice ay m cy)) (go_keep) (first | (go_at_call 58; with_reducible (refine (HC.out _ HB0.out).mono ?_); rintro e W1 ⟨a3, n3, c3, us, rfl, h1, h2, hq1, hq2, hq3, hq4⟩) | (go_at_call 57; with_reducible (refine (HG.out _ h2.out a3 n3 c3).mono ?_); rintro e W2 ⟨rfl, H3, hr1, hr2, hr3, hr4⟩))
  all_goals (
    obtain ⟨h3, h4, h5⟩ := H3.out
    replace h1 := h1.out
    replace h2 := h2.out
    have hT : ∃ v us, W2.heap[pz]? = some (.cells #[.bool false, v] 46 (0, 0)) ∧ OwnsN W2 w.heap.size v us (x * y) ∧ Put w W2 lz pz := by
      refine ⟨_, us, h3, ⟨h1.own.blocks (fun k e => h5.block k (h1.own.lt e).2 (fun e2 => ?_)), h1.num, h1.room⟩, ?_, fun k hk hne => ?_⟩
      · have := (h1.own.lt e).1; have := HZl.out; omega
      · exact (h2.mono (by have := HZl.out; omega)).trans h5.below
      · rw [h5.block k (by have := h2.size; omega) hne, h2.block k hk]
    have HT : Hid (∃ v us, W2.heap[pz]? = some (.cells #[.bool false, v] 46 (0, 0)) ∧ OwnsN W2 w.heap.size v us (x * y) ∧ Put w W2 lz pz) := hT
    clear hT h1 h2 h3 h4 h5 H3
    go_wp2
    go_ret
    obtain ⟨v, us, q1, q2, q3⟩ := HT.out
    exact ⟨v, us, rfl, q1, q2, q3⟩)

end Go.Proofs.YtgcpconlmihilaaGreatDoor

namespace Go.Proofs.YtgcpconlmihilaaGreatDoor
open Go.RowKit

/-- A new number behind w. -/
def Fz (w W : World) (P : Nat) : Prop := W.heap[P]? = some (.cells #[.bool false, .slice none 0 0] 46 (0, 0)) ∧ w.heap.size ≤ P
/-- The first product stands. -/
def St1 (w W : World) (P x : Nat) : Prop := (∃ v us, IntAt W w.heap.size P v us x) ∧ w.heap.size ≤ P ∧ Below w.heap.size w W
def St2 (w W : World) (P P2 x y : Nat) : Prop := (∃ v us, IntAt W w.heap.size P v us x) ∧ (∃ v us, IntAt W w.heap.size P2 v us y) ∧ Below w.heap.size w W
theorem st1_b {w W : World} {P x : Nat} (h : St1 w W P x) : Below w.heap.size w W := h.2.2
theorem below_al {w W : World} (h : Below w.heap.size w W) : Below w.heap.size w (W.alloc (.cells #[.bool false, .slice none 0 0] 46)) := h.alloc h.size _
theorem IntAt.keep {w w' : World} {lo q p x : Nat} {v : Value} {us : List Nat} {c : Array Value} (h : IntAt w lo p v us x) (hk : ∀ k, k < w.heap.size → k ≠ q → w'.heap[k]? = w.heap[k]?) (hq : p ≠ q) (hw : w.heap[q]? = some (.cells c 46 (0, 0))) : IntAt w' lo p v us x := by
  refine ⟨by rw [hk p h.lt hq]; exact h.row, ⟨h.own.own.blocks fun k hb => ?_, h.own.num, h.own.room⟩⟩
  refine hk k (h.own.own.lt hb).2 (fun e => ?_)
  subst e
  rcases h.own.own.2 with ⟨e1, _⟩ | ⟨g, cap, cur, e1, _, hh, _⟩
  · rw [e1] at hb; cases hb
  · rw [e1] at hb
    have hg : g = k := by simpa [Value.ownBlock] using hb
    subst hg
    rw [hw] at hh
    simp at hh

set_option maxHeartbeats 4000000 in
set_option maxRecDepth 100000 in
theorem RMul_at (p q lo lp : Nat) (x y u v : Nat) (w : World) (hx : Qz w lo p x y) (hu : Qz w lo q u v) (hlp : lp ≤ p) (hb1 : x < 4294967296 ^ 100) (hb2 : y < 4294967296 ^ 100) (hb3 : u < 4294967296 ^ 100) (hb4 : v < 4294967296 ^ 100) :
    Calls Tryz.prog 19 #[.pointer (some ⟨p, 0, none⟩), .pointer (some ⟨p, 0, none⟩), .pointer (some ⟨q, 0, none⟩)] w fun e w' => e = .returned (.pointer (some ⟨p, 0, none⟩)) ∧ Hid (Qz w' lo p (x * u / Nat.gcd (x * u) (y * v)) (y * v / Nat.gcd (x * u) (y * v))) ∧ Hid (Put w w' lp p) := by
  obtain ⟨⟨va, xs, vb, ys, hX⟩, hlx, hx0, hy0⟩ := hx
  obtain ⟨⟨vc, us, vd, vs, hU⟩, hlu, hu0, hv0⟩ := hu
  have hpl := hX.lt
  have hql := hU.lt
  have l1 := num_len hX.up.num hb1
  have l2 := num_len hX.dn.num hb2
  have l3 := num_len hU.up.num hb3
  have l4 := num_len hU.dn.num hb4
  obtain ⟨ax, cx, rfl, hSx⟩ := hX.up.shows (by omega)
  obtain ⟨ay, cy, rfl, hSy⟩ := hX.dn.shows (by omega)
  obtain ⟨au, cu, rfl, hSu⟩ := hU.up.shows (by omega)
  obtain ⟨av, cv, rfl, hSv⟩ := hU.dn.shows (by omega)
  have HMa : ∀ W P, Fz w W P → Below w.heap.size w W → Calls Tryz.prog 38 #[.pointer (some ⟨P, 0, none⟩), .pointer (some ⟨p, 0, none⟩), .pointer (some ⟨q, 0, none⟩)] W fun e w' => e = .returned (.pointer (some ⟨P, 0, none⟩)) ∧ St1 w w' P (x * u) ∧ (∀ P', P' ≠ P → Fz w W P' → Fz w w' P') ∧ Put W w' w.heap.size P := by
    intro W P hF hB
    have h1 := hB.block p hpl
    have h2 := hB.block q hql
    refine (BMulN_at P p q 0 0 w.heap.size _ _ ax au cx cu xs us x u W ?_ ?_ (hSx.below hB) hX.up.num ?_ ?_ (hSu.below hB) hU.up.num hF.1 hF.2 (by have := hF.2; omega) (by have := hF.2; omega) (by omega)).mono ?_
    · rw [cell_of_row W p 0 _ _ _ (h1.trans hX.row)]; rfl
    · rw [cell_of_row W p 1 _ _ _ (h1.trans hX.row)]; rfl
    · rw [cell_of_row W q 0 _ _ _ (h2.trans hU.row)]; rfl
    · rw [cell_of_row W q 1 _ _ _ (h2.trans hU.row)]; rfl
    · rintro e w' ⟨v1, us1, rfl, r1, r2, r3⟩
      exact ⟨rfl, ⟨⟨v1, us1, r1, r2.mono hB.size⟩, hF.2, hB.trans r3.below⟩, fun P' hne hF' => ⟨(r3.block P' (Array.getElem?_eq_some_iff.1 hF'.1).1 hne).trans hF'.1, hF'.2⟩, r3⟩
  have HMb : ∀ W P, Fz w W P → Below w.heap.size w W → Calls Tryz.prog 38 #[.pointer (some ⟨P, 0, none⟩), .pointer (some ⟨p, 2, none⟩), .pointer (some ⟨q, 2, none⟩)] W fun e w' => e = .returned (.pointer (some ⟨P, 0, none⟩)) ∧ St1 w w' P (y * v) ∧ Put W w' w.heap.size P := by
    intro W P hF hB
    have h1 := hB.block p hpl
    have h2 := hB.block q hql
    refine (BMulN_at P p q 2 2 w.heap.size _ _ ay av cy cv ys vs y v W ?_ ?_ (hSy.below hB) hX.dn.num ?_ ?_ (hSv.below hB) hU.dn.num hF.1 hF.2 (by have := hF.2; omega) (by have := hF.2; omega) (by omega)).mono ?_
    · rw [cell_of_row W p 2 _ _ _ (h1.trans hX.row)]; rfl
    · rw [cell_of_row W p 3 _ _ _ (h1.trans hX.row)]; rfl
    · rw [cell_of_row W q 2 _ _ _ (h2.trans hU.row)]; rfl
    · rw [cell_of_row W q 3 _ _ _ (h2.trans hU.row)]; rfl
    · rintro e w' ⟨v1, us1, rfl, r1, r2, r3⟩
      exact ⟨rfl, ⟨⟨v1, us1, r1, r2.mono hB.size⟩, hF.2, hB.trans r3.below⟩, r3⟩
  have HM1 : Hid (∀ W P, Fz w W P → Below w.heap.size w W → Calls Tryz.prog 38 #[.pointer (some ⟨P, 0, none⟩), .pointer (some ⟨p, 0, none⟩), .pointer (some ⟨q, 0, none⟩)] W fun e w' => e = .returned (.pointer (some ⟨P, 0, none⟩)) ∧ Hid (St1 w w' P (x * u) ∧ ∀ P', P' ≠ P → Fz w W P' → Fz w w' P')) := fun W P hF hB => by
    refine (HMa W P hF hB).mono ?_
    rintro e w' ⟨rfl, h1, h2, _⟩
    exact ⟨rfl, h1, h2⟩
  have HM2 : Hid (∀ W P P2, St1 w W P (x * u) → Fz w W P2 → P ≠ P2 → Calls Tryz.prog 38 #[.pointer (some ⟨P2, 0, none⟩), .pointer (some ⟨p, 2, none⟩), .pointer (some ⟨q, 2, none⟩)] W fun e w' => e = .returned (.pointer (some ⟨P2, 0, none⟩)) ∧ Hid (St2 w w' P P2 (x * u) (y * v))) := fun W P P2 hS hF hne => by
    refine (HMb W P2 hF hS.2.2).mono ?_
    rintro e w' ⟨rfl, h1, h2⟩
    obtain ⟨⟨v1, us1, i1⟩, _, _⟩ := hS
    exact ⟨rfl, ⟨v1, us1, i1.keep h2.block hne hF.1⟩, h1.1, h1.2.2⟩
  have HM3 : Hid (∀ W P, St1 w W P (x * u) → Calls Tryz.prog 38 #[.pointer (some ⟨W.heap.size, 0, none⟩), .pointer (some ⟨p, 2, none⟩), .pointer (some ⟨q, 2, none⟩)] (W.alloc (.cells #[.bool false, .slice none 0 0] 46)) fun e w' => e = .returned (.pointer (some ⟨W.heap.size, 0, none⟩)) ∧ Hid (St2 w w' P W.heap.size (x * u) (y * v))) := fun W P hS => by
    obtain ⟨⟨v1, us1, i1⟩, h2, h3⟩ := hS
    have hB : Below W.heap.size W (W.alloc (.cells #[.bool false, .slice none 0 0] 46)) := (Below.refl _ _).alloc (Nat.le_refl _) _
    have hlt := i1.lt
    exact HM2.out (W.alloc (.cells #[.bool false, .slice none 0 0] 46)) P W.heap.size ⟨⟨v1, us1, i1.undr hB⟩, h2, h3.trans (hB.mono h3.size)⟩ ⟨heap_alloc_new _ _, h3.size⟩ (by omega)
  have HD1 : Hid (∀ W, Below w.heap.size w W → Calls Tryz.prog 39 #[.pointer (some ⟨p, 0, none⟩)] W fun e w' => e = .returned (.pointer (some ⟨p, 2, none⟩)) ∧ w' = W) := fun W hW => Rden_at p lo _ _ xs ys x y W (hX.below hW) hy0 (by omega)
  have HD2 : Hid (∀ W, Below w.heap.size w W → Calls Tryz.prog 39 #[.pointer (some ⟨q, 0, none⟩)] W fun e w' => e = .returned (.pointer (some ⟨q, 2, none⟩)) ∧ w' = W) := fun W hW => Rden_at q lo _ _ us vs u v W (hU.below hW) hv0 (by omega)
  have HSF : Hid (∀ W P1 P2, St2 w W P1 P2 (x * u) (y * v) → Calls Tryz.prog 20 #[.pointer (some ⟨p, 0, none⟩), .pointer (some ⟨P1, 0, none⟩), .pointer (some ⟨P2, 0, none⟩)] W fun e w' => e = .returned (.pointer (some ⟨p, 0, none⟩)) ∧ Hid (Qz w' lo p (x * u / Nat.gcd (x * u) (y * v)) (y * v / Nat.gcd (x * u) (y * v))) ∧ Hid (Put w w' lp p)) := fun W P1 P2 ⟨⟨v1, us1, i1⟩, ⟨v2, us2, i2⟩, hB⟩ => by
    have e1 : x * u < 4294967296 ^ 200 := by rw [show 200 = 100 + 100 from rfl, Nat.pow_add]; exact Nat.mul_lt_mul'' hb1 hb3
    have e2 : y * v < 4294967296 ^ 200 := by rw [show 200 = 100 + 100 from rfl, Nat.pow_add]; exact Nat.mul_lt_mul'' hb2 hb4
    have k1 := num_len i1.own.num e1
    have k2 := num_len i2.own.num e2
    have hxu := Nat.mul_pos hx0 hu0
    have hyv := Nat.mul_pos hy0 hv0
    refine (RSetFrac_at p P1 P2 _ _ lp _ _ _ _ v1 v2 us1 us2 (x * u) (y * v) W i1 i2 ((hB.block p hpl).trans hX.row) hlp hxu hyv (by omega) (by omega)).mono ?_
    rintro e w' ⟨rfl, HR, HP⟩
    obtain ⟨va', xs', vb', ys', r⟩ := HR.out
    have hs : lo ≤ W.heap.size := Nat.le_trans hlx (Nat.le_trans (Nat.le_of_lt hpl) hB.size)
    have hg := Nat.gcd_pos_of_pos_left (y * v) hxu
    refine ⟨rfl, ⟨⟨va', xs', vb', ys', r.row, r.up.mono hs, r.dn.mono hs⟩, hlx, Nat.div_pos (Nat.gcd_le_left _ hxu) hg, Nat.div_pos (Nat.gcd_le_right _ hyv) hg⟩, (hB.mono (by omega)).trans HP.out.below, fun k hk hne => ?_⟩
    exact (HP.out.block k (by have := hB.size; omega) hne).trans (hB.block k hk)
  have HBa : Hid (Below w.heap.size w (w.alloc (.cells #[.bool false, .slice none 0 0] 46)).drew) := below_drewN ((Below.refl _ _).alloc (Nat.le_refl _) _) 1
  have HBc : Below w.heap.size w ((w.alloc (.cells #[.bool false, .slice none 0 0] 46)).alloc (.cells #[.bool false, .slice none 0 0] 46)) := ((Below.refl _ _).alloc (Nat.le_refl _) _).alloc (by simp) _
  have HBb : Hid (Below w.heap.size w ((w.alloc (.cells #[.bool false, .slice none 0 0] 46)).alloc (.cells #[.bool false, .slice none 0 0] 46)).drew) := below_drewN HBc 1
  have HF1 : Hid (Fz w (w.alloc (.cells #[.bool false, .slice none 0 0] 46)).drew w.heap.size) := ⟨heap_alloc_new w _, Nat.le_refl _⟩
  have HF2 : Hid (Fz w ((w.alloc (.cells #[.bool false, .slice none 0 0] 46)).alloc (.cells #[.bool false, .slice none 0 0] 46)).drew w.heap.size) := by
    have h1 := heap_alloc_new w (.cells #[.bool false, .slice none 0 0] 46)
    have hB : Below (w.alloc (.cells #[.bool false, .slice none 0 0] 46)).heap.size (w.alloc (.cells #[.bool false, .slice none 0 0] 46)) ((w.alloc (.cells #[.bool false, .slice none 0 0] 46)).alloc (.cells #[.bool false, .slice none 0 0] 46)) := (Below.refl _ _).alloc (Nat.le_refl _) _
    exact ⟨(hB.block _ (Array.getElem?_eq_some_iff.1 h1).1).trans h1, Nat.le_refl _⟩
  have HF3 : Hid (Fz w ((w.alloc (.cells #[.bool false, .slice none 0 0] 46)).alloc (.cells #[.bool false, .slice none 0 0] 46)).drew (w.heap.size + 1)) := by
    have h := heap_alloc_new (w.alloc (.cells #[.bool false, .slice none 0 0] 46)) (.cells #[.bool false, .slice none 0 0] 46)
    have e : (w.alloc (.cells #[.bool false, .slice none 0 0] 46)).heap.size = w.heap.size + 1 := by simp
    rw [e] at h
    exact ⟨h, by omega⟩
  clear HBc
  clear HMa HMb hX hU hSx hSy hSu hSv hlp hb1 hb2 hb3 hb4 hlx hlu hx0 hy0 hu0 hv0 l1 l2 l3 l4 hpl hql
  go_enter Tryz.func19, Tryz.ntmps19
  go_upto_region 1 with fail
  go_region_held3 (fun _ => True) (trivial) (first
    | (go_at_call 38; with_reducible (refine (HM1.out _ _ HF1.out HBa.out).mono ?_); rintro e W1 ⟨rfl, HA1⟩; have HS1 := hid_w HA1.out.1; have HBS := hid_w (st1_b HS1.out); have HBT := hid_w (below_al HBS.out); have HX := HS1)
    | (go_at_call 38; with_reducible (refine (HM1.out _ _ HF2.out HBb.out).mono ?_); rintro e W1 ⟨rfl, HA1⟩; have HS1 := hid_w HA1.out.1; have HBS := hid_w (st1_b HS1.out); have HBT := hid_w (below_al HBS.out); have HX := hid_w (HA1.out.2 _ (Nat.succ_ne_self _) HF3.out))
    | (go_at_call 38; with_reducible (refine (HM1.out _ _ HF3.out HBb.out).mono ?_); rintro e W1 ⟨rfl, HA1⟩; have HS1 := hid_w HA1.out.1; have HBS := hid_w (st1_b HS1.out); have HBT := hid_w (below_al HBS.out); have HX := hid_w (HA1.out.2 _ (Nat.ne_of_lt (Nat.lt_succ_self _)) HF2.out))
    | (go_at_call 39; with_reducible (refine (HD1.out _ HBS.out).mono ?_); rintro e W2 ⟨rfl, hW2⟩; subst hW2)
    | (go_at_call 39; with_reducible (refine (HD1.out _ HBT.out).mono ?_); rintro e W2 ⟨rfl, hW2⟩; subst hW2)
    | (go_at_call 39; with_reducible (refine (HD2.out _ HBS.out).mono ?_); rintro e W2 ⟨rfl, hW2⟩; subst hW2)
    | (go_at_call 39; with_reducible (refine (HD2.out _ HBT.out).mono ?_); rintro e W2 ⟨rfl, hW2⟩; subst hW2)
    | (go_at_call 38; with_reducible (refine (HM3.out _ _ HS1.out).mono ?_); rintro e W3 ⟨rfl, HS2⟩)
    | (go_at_call 38; with_reducible (refine (HM2.out _ _ _ HS1.out HX.out (Nat.ne_of_lt (Nat.lt_succ_self _))).mono ?_); rintro e W3 ⟨rfl, HS2⟩)
    | (go_at_call 38; with_reducible (refine (HM2.out _ _ _ HS1.out HX.out (Nat.succ_ne_self _)).mono ?_); rintro e W3 ⟨rfl, HS2⟩)
    | (go_at_call 20; with_reducible (refine (HSF.out _ _ _ HS2.out).mono ?_); rintro e W4 ⟨rfl, HR, HP⟩))
  all_goals go_wp2
  all_goals go_ret
  all_goals exact ⟨rfl, HR, HP⟩
end Go.Proofs.YtgcpconlmihilaaGreatDoor
