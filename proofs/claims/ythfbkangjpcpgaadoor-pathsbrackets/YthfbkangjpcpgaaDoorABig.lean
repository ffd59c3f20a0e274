/-
  Numbers behind pointers; the contracts of ferrersbig's give, sum (of two that are not below 0), Add, SetInt64, String.
-/
import Derived.Test.YthfbkangjpcpgaaDoorATxt
namespace Go.Proofs.YthfbkangjpcpgaaDoor
open Go.RowKit

theorem num_len {us : List Nat} {x k : Nat} (h : Num us x) (hx : x < 4294967296 ^ k) : us.length ≤ k := by
  rcases Nat.lt_or_ge k us.length with hl | hl
  · exfalso
    have hne : us ≠ [] := fun e => by rw [e] at hl; simp at hl
    have e1 := List.dropLast_concat_getLast hne
    have hu : us.getLast hne ≠ 0 := fun e => by
      rw [e] at e1
      have h2 := norm_zero us.dropLast
      rw [e1, h.nm] at h2
      have := norm_len us.dropLast
      rw [← h2, List.length_dropLast] at this
      omega
    have h3 := val_snoc us.dropLast (us.getLast hne)
    rw [e1, h.eq, List.length_dropLast] at h3
    have h4 : 4294967296 ^ k ≤ 4294967296 ^ (us.length - 1) := Nat.pow_le_pow_right (by omega) (by omega)
    have h5 : 4294967296 ^ (us.length - 1) * 1 ≤ 4294967296 ^ (us.length - 1) * us.getLast hne := Nat.mul_le_mul_left _ (by omega)
    omega
  · exact hl

/-- Block p is the number x: its sign, its words in a block from lo on. -/
structure IntAt (w : World) (lo p : Nat) (v : Value) (us : List Nat) (x : Nat) : Prop where
  row : w.heap[p]? = some (.cells #[.bool false, v] 44 (0, 0))
  own : OwnsN w lo v us x
theorem IntAt.cell0 {w : World} {lo p x : Nat} {v : Value} {us : List Nat} (h : IntAt w lo p v us x) : w.cell? ⟨p, 0, none⟩ = some (.bool false) := by
  simp [World.cell?, h.row]
theorem IntAt.cell1 {w : World} {lo p x : Nat} {v : Value} {us : List Nat} (h : IntAt w lo p v us x) : w.cell? ⟨p, 1, none⟩ = some v := by
  simp [World.cell?, h.row]
theorem IntAt.lt {w : World} {lo p x : Nat} {v : Value} {us : List Nat} (h : IntAt w lo p v us x) : p < w.heap.size := (Array.getElem?_eq_some_iff.1 h.row).1

/-- Every old block but p is as it was; nothing under lo has turned. -/
structure Put (w w' : World) (lo p : Nat) : Prop where
  below : Below lo w w'
  block : ∀ k, k < w.heap.size → k ≠ p → w'.heap[k]? = w.heap[k]?

set_option maxHeartbeats 2000000 in
theorem give_at (p lo : Nat) (b : Bool) (v0 : Value) (a : Option Addr) (n cap : Nat) (w : World) (hp : w.heap[p]? = some (.cells #[.bool b, v0] 44 (0, 0))) (hlo : lo ≤ p) :
    Calls Tryd.prog 42 #[.pointer (some ⟨p, 0, none⟩), .bool false, .slice a n cap] w fun e w' => e = .returned (.pointer (some ⟨p, 0, none⟩)) ∧ w'.heap[p]? = some (.cells #[.bool false, .slice a n cap] 44 (0, 0)) ∧ w'.heap.size = w.heap.size ∧ Put w w' lo p := by
  have hc0 : w.cell? ⟨p, 0, none⟩ = some (.bool b) := by simp [World.cell?, hp]
  have hc1 : w.cell? ⟨p, 1, none⟩ = some v0 := by simp [World.cell?, hp]
  have hf0 : w.frozen? ⟨p, 0, none⟩ = false := frozen_of_row w _ 0 _ _ hp
  have hf1 : w.frozen? ⟨p, 1, none⟩ = false := frozen_of_row w _ 1 _ _ hp
  have h1 := heap_setCell_same w p 1 _ _ (.slice a n cap) hp
  have h2 := heap_setCell_same _ p 0 _ _ (.bool false) h1
  have hg0 : (w.setCell ⟨p, 1, none⟩ (.slice a n cap)).frozen? ⟨p, 0, none⟩ = false := frozen_of_row _ _ 0 _ _ h1
  have hg1 : (w.setCell ⟨p, 1, none⟩ (.slice a n cap)).cell? ⟨p, 0, none⟩ = some (.bool b) := by simp [World.cell?, h1]
  have H2 : Hid (((w.setCell ⟨p, 1, none⟩ (.slice a n cap)).setCell ⟨p, 0, none⟩ (.bool false)).heap[p]? = some (.cells #[.bool false, .slice a n cap] 44 (0, 0))) := by simpa [Hid] using h2
  have HB : Hid (Below lo w ((w.setCell ⟨p, 1, none⟩ (.slice a n cap)).setCell ⟨p, 0, none⟩ (.bool false))) := ((Below.refl _ _).setCell (p := ⟨p, 1, none⟩) hlo _).setCell (p := ⟨p, 0, none⟩) hlo _
  clear h1 h2 hp
  go_enter Tryd.func42, Tryd.ntmps42
  go_wp2
  go_ret
  exact ⟨rfl, H2.out, by simp, HB.out, fun k _ hk => by rw [heap_setCell_other _ _ _ _ hk, heap_setCell_other _ _ _ _ hk]⟩

set_option maxHeartbeats 2000000 in
theorem sum_at (a b : Option Addr) (ca cb n m : Nat) (xs ys : List Nat) (x y : Nat) (w : World) (ha : ShowsW w a ca xs) (hb : ShowsW w b cb ys) (hn : n = xs.length) (hm : m = ys.length) (hx : Num xs x) (hy : Num ys y) (hf : n + m ≤ 900000) :
    Calls Tryd.prog 43 #[.bool false, .slice a n ca, .bool false, .slice b m cb] w fun e w' => ∃ v us, e = .returned (.tuple #[.bool false, v]) ∧ OwnsN w' w.heap.size v us (x + y) ∧ us.length ≤ n + m + 1 ∧ Below w.heap.size w w' := by
  have HA : Hid (ShowsW w a ca xs) := ha
  have HB : Hid (ShowsW w b cb ys) := hb
  have HN : Hid (n = xs.length) := hn
  have HM : Hid (m = ys.length) := hm
  have HX : Hid (Num xs x) := hx
  have HY : Hid (Num ys y) := hy
  clear ha hb hn hm hx hy
  go_enter Tryd.func43, Tryd.ntmps43
  go_wp2_with fail
  refine (add_at _ _ _ _ _ _ _ _ _ _ _ HA.out HB.out HN.out HM.out HX.out HY.out hf).mono ?_
  rintro e w' ⟨v, us, rfl, h1, h2, h3⟩
  have H1 : Hid (OwnsN w' w.heap.size v us (x + y) ∧ us.length ≤ n + m + 1 ∧ Below w.heap.size w w') := ⟨h1, h2, h3⟩
  clear h1 h2 h3
  go_wp2
  go_ret2
  exact ⟨_, _, rfl, H1.out⟩

end Go.Proofs.YthfbkangjpcpgaaDoor
