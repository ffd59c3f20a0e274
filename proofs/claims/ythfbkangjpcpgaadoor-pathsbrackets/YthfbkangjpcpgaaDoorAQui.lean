/-
  The contract of ferrersbig's Quo (of numbers above 0).
-/
import Derived.Test.YthfbkangjpcpgaaDoorAQrm
namespace Go.Proofs.YthfbkangjpcpgaaDoor
open Go.RowKit

theorem IntAt.under {w w' : World} {lo p x : Nat} {v : Value} {us : List Nat} (h : IntAt w lo p v us x) (hb : Below w.heap.size w w') : IntAt w' lo p v us x := ⟨by rw [hb.block p h.lt]; exact h.row, h.own.below hb⟩

set_option maxHeartbeats 4000000 in
theorem BQuo_at (pz px py lo lz : Nat) (b : Bool) (v0 vx vy : Value) (xs ys : List Nat) (x y : Nat) (w : World) (hx : IntAt w lo px vx xs x) (hy : IntAt w lo py vy ys y) (hz : w.heap[pz]? = some (.cells #[.bool b, v0] 44 (0, 0))) (hlz : lz ≤ pz) (hf : xs.length ≤ 400000) (hf2 : ys.length ≤ 400000) (hx9 : 0 < x) (hy9 : 0 < y) :
    Calls Tryd.prog 16 #[.pointer (some ⟨pz, 0, none⟩), .pointer (some ⟨px, 0, none⟩), .pointer (some ⟨py, 0, none⟩)] w fun e w' => ∃ v us, e = .returned (.pointer (some ⟨pz, 0, none⟩)) ∧ w'.heap[pz]? = some (.cells #[.bool false, v] 44 (0, 0)) ∧ OwnsN w' w.heap.size v us (x / y) ∧ Put w w' lz pz := by
  have HZl : Hid (pz < w.heap.size) := (Array.getElem?_eq_some_iff.1 hz).1
  have HC : Hid (∀ W, W = w.alloc (.cells #[.bool false, .slice none 0 0] 44) → Calls Tryd.prog 36 #[.pointer (some ⟨pz, 0, none⟩), .pointer (some ⟨px, 0, none⟩), .pointer (some ⟨py, 0, none⟩), .pointer (some ⟨w.heap.size, 0, none⟩)] W fun e w' => ∃ t, e = .returned t ∧ Hid (∃ v us, w'.heap[pz]? = some (.cells #[.bool false, v] 44 (0, 0)) ∧ OwnsN w' w.heap.size v us (x / y) ∧ Put w w' lz pz)) := by
    rintro W rfl
    have hb : Below w.heap.size w (w.alloc (.cells #[.bool false, .slice none 0 0] 44)) := (Below.refl _ _).alloc (Nat.le_refl _) _
    have hzl := HZl.out
    refine (BQuoRem_at pz px py w.heap.size lo lz b false v0 (.slice none 0 0) vx vy xs ys x y _ (hx.under hb) (hy.under hb) (by rw [hb.block pz hzl]; exact hz) (heap_alloc_new _ _) hlz (by omega) (by omega) hf hf2 hx9 hy9).mono ?_
    rintro e w' ⟨v, us, v2, us2, rfl, h1, h2, h3, h4, h5, h6⟩
    refine ⟨_, rfl, v, us, h1, h2.mono (by simp), (hb.mono (by omega)).trans h5, fun k hk hne => ?_⟩
    rw [h6 k (by simp; omega) hne (by omega), hb.block k hk]
  clear hx hy hz
  go_enter Tryd.func16, Tryd.ntmps16
  go_wp2_with fail
  refine (HC.out _ rfl).mono ?_
  rintro e w1 ⟨t, rfl, HT⟩
  go_wp2
  go_ret
  obtain ⟨v, us, q1, q2, q3⟩ := HT.out
  exact ⟨v, us, rfl, q1, q2, q3⟩

end Go.Proofs.YthfbkangjpcpgaaDoor
