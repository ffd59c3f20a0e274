/-
  The contract of ferrersbig's QuoRem (of numbers above 0).
  The contract of ferrersbig's Quo (of numbers above 0).
-/
import Derived.Test.YtgcpconlmihilaaGreatDoorACom
namespace Go.Proofs.YtgcpconlmihilaaGreatDoor
open Go.RowKit

set_option maxHeartbeats 8000000 in
set_option maxRecDepth 100000 in
theorem BQuoRem_at (pz px py pr lo lz : Nat) (b b2 : Bool) (v0 v9 vx vy : Value) (xs ys : List Nat) (x y : Nat) (w : World) (hx : IntAt w lo px vx xs x) (hy : IntAt w lo py vy ys y) (hz : w.heap[pz]? = some (.cells #[.bool b, v0] 46 (0, 0))) (hr : w.heap[pr]? = some (.cells #[.bool b2, v9] 46 (0, 0))) (hlz : lz ≤ pz) (hlr : lz ≤ pr) (hne : pz ≠ pr) (hf : xs.length ≤ 400000) (hf2 : ys.length ≤ 400000) (hx9 : 0 < x) (hy9 : 0 < y) :
    Calls Tryz.prog 64 #[.pointer (some ⟨pz, 0, none⟩), .pointer (some ⟨px, 0, none⟩), .pointer (some ⟨py, 0, none⟩), .pointer (some ⟨pr, 0, none⟩)] w fun e w' => ∃ v us v2 us2, e = .returned (.tuple #[.pointer (some ⟨pz, 0, none⟩), .pointer (some ⟨pr, 0, none⟩)]) ∧ w'.heap[pz]? = some (.cells #[.bool false, v] 46 (0, 0)) ∧ OwnsN w' w.heap.size v us (x / y) ∧ w'.heap[pr]? = some (.cells #[.bool false, v2] 46 (0, 0)) ∧ OwnsN w' w.heap.size v2 us2 (x % y) ∧ Below lz w w' ∧ ∀ k, k < w.heap.size → k ≠ pz → k ≠ pr → w'.heap[k]? = w.heap[k]? := by
  have hx0 := hx.cell0
  have hx1 := hx.cell1
  have hy0 := hy.cell0
  have hy1 := hy.cell1
  obtain ⟨ax, cx, rfl, hSx⟩ := hx.own.shows (by omega)
  obtain ⟨ay, cy, rfl, hSy⟩ := hy.own.shows (by omega)
  obtain ⟨n, HN⟩ : ∃ n, Hid (n = xs.length) := ⟨_, rfl⟩
  obtain ⟨m, HM⟩ : ∃ m, Hid (m = ys.length) := ⟨_, rfl⟩
  rw [← HN.out] at hx1 hf
  rw [← HM.out] at hy1
  have HZl : Hid (pz < w.heap.size) := (Array.getElem?_eq_some_iff.1 hz).1
  have HRl : Hid (pr < w.heap.size) := (Array.getElem?_eq_some_iff.1 hr).1
  have HC : Hid (∀ w', Below w.heap.size w w' → Calls Tryz.prog 62 #[.slice ax n cx, .slice ay m cy] w' fun e w2 => ∃ a3 n3 c3 a4 n4 c4, e = .returned (.tuple #[.slice a3 n3 c3, .slice a4 n4 c4]) ∧ Hid (∃ us us2, OwnsN w2 w.heap.size (.slice a3 n3 c3) us (x / y) ∧ OwnsN w2 w.heap.size (.slice a4 n4 c4) us2 (x % y)) ∧ Hid (Below w.heap.size w w2)) := fun w' hb => by
    refine (div_at _ _ _ _ _ _ _ _ _ _ _ (hSx.below hb) (hSy.below hb) HN.out HM.out hx.own.num hy.own.num hx9 hy9 hf).mono ?_
    rintro e w2 ⟨v, us, v2, us2, rfl, h1, h2, h3, h4, h5⟩
    obtain ⟨a3, c3, rfl, _⟩ := h1.shows (by omega)
    obtain ⟨a4, c4, rfl, _⟩ := h2.shows (by omega)
    exact ⟨_, _, _, _, _, _, rfl, ⟨us, us2, h1.mono hb.size, h2.mono hb.size⟩, hb.trans (h5.mono hb.size)⟩
  have HG : Hid (∀ W, Below w.heap.size w W → ∀ a n c, Calls Tryz.prog 57 #[.pointer (some ⟨pz, 0, none⟩), .bool false, .slice a n c] W fun e w' => e = .returned (.pointer (some ⟨pz, 0, none⟩)) ∧ Hid (w'.heap[pz]? = some (.cells #[.bool false, .slice a n c] 46 (0, 0)) ∧ w'.heap.size = W.heap.size ∧ Put W w' lz pz)) := fun W hb a n c =>
    give_at pz lz b v0 a n c W ((hb.block pz HZl.out).trans hz) hlz
  have HG2 : Hid (∀ W, W.heap[pr]? = some (.cells #[.bool b2, v9] 46 (0, 0)) → ∀ a n c, Calls Tryz.prog 57 #[.pointer (some ⟨pr, 0, none⟩), .bool false, .slice a n c] W fun e w' => e = .returned (.pointer (some ⟨pr, 0, none⟩)) ∧ Hid (w'.heap[pr]? = some (.cells #[.bool false, .slice a n c] 46 (0, 0)) ∧ w'.heap.size = W.heap.size ∧ Put W w' lz pr)) := fun W hb a n c =>
    give_at pr lz b2 v9 a n c W hb hlr
  have HR : Hid (w.heap[pr]? = some (.cells #[.bool b2, v9] 46 (0, 0))) := hr
  have HB1 : Hid (Below w.heap.size w w.drew) := below_drewN (Below.refl _ _) 1
  have HB2 : Hid (Below w.heap.size w w.drew.drew) := below_drewN (below_drewN (Below.refl _ _) 1) 1
  have HB3 : Hid (∀ d, Below w.heap.size w (w.drewN d)) := fun d => below_drewN (Below.refl _ _) d
  clear hx hy hSx hSy hz hr
  go_enter Tryz.func64, Tryz.ntmps64
  go_wp2_with fail
  go_region
  all_goals go_wp2_with fail
  go_region_with (go_at_call 62; with_reducible (refine (HC.out _ (by first | exact HB1.out | exact HB2.out | exact HB3.out _)).mono ?_); rintro e W1 ⟨a3, n3, c3, a4, n4, c4, rfl, HO, HBw⟩)
  all_goals go_wp2_with fail
  all_goals (
    refine (HG.out _ HBw.out a3 n3 c3).mono ?_
    rintro e W2 ⟨rfl, H2⟩
    have HR2 : Hid (W2.heap[pr]? = some (.cells #[.bool b2, v9] 46 (0, 0))) := by
      show _ = _
      rw [H2.out.2.2.block pr (by have := HBw.out.size; have := HRl.out; omega) (Ne.symm hne), HBw.out.block pr HRl.out]
      exact HR.out
    go_wp2_with fail
    refine (HG2.out _ HR2.out a4 n4 c4).mono ?_
    rintro e W3 ⟨rfl, H3⟩
    have HT : Hid (∃ v us v2 us2, W3.heap[pz]? = some (.cells #[.bool false, v] 46 (0, 0)) ∧ OwnsN W3 w.heap.size v us (x / y) ∧ W3.heap[pr]? = some (.cells #[.bool false, v2] 46 (0, 0)) ∧ OwnsN W3 w.heap.size v2 us2 (x % y) ∧ Below lz w W3 ∧ ∀ k, k < w.heap.size → k ≠ pz → k ≠ pr → W3.heap[k]? = w.heap[k]?) := by
      obtain ⟨us, us2, q1, q2⟩ := HO.out
      obtain ⟨g1, g2, g3⟩ := H2.out
      obtain ⟨k1, k2, k3⟩ := H3.out
      have s1 := HBw.out.size
      have z1 := HZl.out
      have z2 := HRl.out
      have mv : ∀ {v : Value} {us : List Nat} {t : Nat}, OwnsN W1 w.heap.size v us t → OwnsN W3 w.heap.size v us t := fun h => ⟨h.own.blocks (fun k e => by
        have l1 := h.own.lt e
        rw [k3.block k (by omega) (by omega), g3.block k (by omega) (by omega)]), h.num, h.room⟩
      refine ⟨_, us, _, us2, ?_, mv q1, k1, mv q2, ((HBw.out.mono (by omega)).trans g3.below).trans k3.below, fun k hk e1 e2 => ?_⟩
      · rw [k3.block pz (by omega) hne]; exact g1
      · rw [k3.block k (by omega) e2, g3.block k (by omega) e1, HBw.out.block k hk]
    clear HO HBw H2 H3 HR2
    go_wp2
    go_ret2
    obtain ⟨v, us, v2, us2, hh⟩ := HT.out
    exact ⟨v, us, v2, us2, rfl, hh⟩)

end Go.Proofs.YtgcpconlmihilaaGreatDoor

namespace Go.Proofs.YtgcpconlmihilaaGreatDoor
open Go.RowKit

theorem IntAt.under {w w' : World} {lo p x : Nat} {v : Value} {us : List Nat} (h : IntAt w lo p v us x) (hb : Below w.heap.size w w') : IntAt w' lo p v us x := ⟨by rw [hb.block p h.lt]; exact h.row, h.own.below hb⟩

set_option maxHeartbeats 4000000 in
theorem BQuo_at (pz px py lo lz : Nat) (b : Bool) (v0 vx vy : Value) (xs ys : List Nat) (x y : Nat) (w : World) (hx : IntAt w lo px vx xs x) (hy : IntAt w lo py vy ys y) (hz : w.heap[pz]? = some (.cells #[.bool b, v0] 46 (0, 0))) (hlz : lz ≤ pz) (hf : xs.length ≤ 400000) (hf2 : ys.length ≤ 400000) (hx9 : 0 < x) (hy9 : 0 < y) :
    Calls Tryz.prog 43 #[.pointer (some ⟨pz, 0, none⟩), .pointer (some ⟨px, 0, none⟩), .pointer (some ⟨py, 0, none⟩)] w fun e w' => ∃ v us, e = .returned (.pointer (some ⟨pz, 0, none⟩)) ∧ w'.heap[pz]? = some (.cells #[.bool false, v] 46 (0, 0)) ∧ OwnsN w' w.heap.size v us (x / y) ∧ Put w w' lz pz := by
  have HZl : Hid (pz < w.heap.size) := (Array.getElem?_eq_some_iff.1 hz).1
  have HC : Hid (∀ W, W = w.alloc (.cells #[.bool false, .slice none 0 0] 46) → Calls Tryz.prog 64 #[.pointer (some ⟨pz, 0, none⟩), .pointer (some ⟨px, 0, none⟩), .pointer (some ⟨py, 0, none⟩), .pointer (some ⟨w.heap.size, 0, none⟩)] W fun e w' => ∃ t, e = .returned t ∧ Hid (∃ v us, w'.heap[pz]? = some (.cells #[.bool false, v] 46 (0, 0)) ∧ OwnsN w' w.heap.size v us (x / y) ∧ Put w w' lz pz)) := by
    rintro W rfl
    have hb : Below w.heap.size w (w.alloc (.cells #[.bool false, .slice none 0 0] 46)) := (Below.refl _ _).alloc (Nat.le_refl _) _
    have hzl := HZl.out
    refine (BQuoRem_at pz px py w.heap.size lo lz b false v0 (.slice none 0 0) vx vy xs ys x y _ (hx.under hb) (hy.under hb) (by rw [hb.block pz hzl]; exact hz) (heap_alloc_new _ _) hlz (by omega) (by omega) hf hf2 hx9 hy9).mono ?_
    rintro e w' ⟨v, us, v2, us2, rfl, h1, h2, h3, h4, h5, h6⟩
    refine ⟨_, rfl, v, us, h1, h2.mono (by simp), (hb.mono (by omega)).trans h5, fun k hk hne => ?_⟩
    rw [h6 k (by simp; omega) hne (by omega), hb.block k hk]
  clear hx hy hz
  go_enter Tryz.func43, Tryz.ntmps43
  go_wp2_with fail
  refine (HC.out _ rfl).mono ?_
  rintro e w1 ⟨t, rfl, HT⟩
  go_wp2
  go_ret
  obtain ⟨v, us, q1, q2, q3⟩ := HT.out
  exact ⟨v, us, rfl, q1, q2, q3⟩

end Go.Proofs.YtgcpconlmihilaaGreatDoor
