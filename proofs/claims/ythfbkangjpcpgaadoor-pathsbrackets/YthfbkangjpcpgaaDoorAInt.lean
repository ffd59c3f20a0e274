/-
  The contracts of ferrersbig's Uint64, Int64 of numbers that fit.
-/
import Derived.Test.YthfbkangjpcpgaaDoorABig
import Derived.Laws.BitsAllLaws
namespace Go.Proofs.YthfbkangjpcpgaaDoor
open Go.RowKit

set_option maxHeartbeats 4000000 in
set_option maxRecDepth 100000 in
theorem BUint64_at (p lo : Nat) (v : Value) (us : List Nat) (x : Nat) (w : World) (h : IntAt w lo p v us x) (hx : x < 18446744073709551616) :
    Calls Tryd.prog 37 #[.pointer (some ⟨p, 0, none⟩)] w fun e w' => e = .returned (.int .u64 (x : Int)) ∧ w' = w := by
  have hl := num_len (k := 2) h.own.num (by omega)
  have h1 := h.cell1
  obtain ⟨a, ca, rfl, hS⟩ := h.own.shows (by omega)
  have hval := h.own.num.eq
  rcases us with _ | ⟨u0, _ | ⟨u1, _ | ⟨u2, r⟩⟩⟩
  · obtain rfl : x = 0 := hval.symm
    have h1' : w.cell? ⟨p, 1, none⟩ = some (.slice a 0 ca) := h1
    clear h h1 hS hval hl
    go_enter Tryd.func37, Tryd.ntmps37
    go_wp2_with fail
    go_ret
    exact ⟨rfl, rfl⟩
  · have hx0 : u0 = x := by simpa [val] using hval
    subst hx0
    have h1' : w.cell? ⟨p, 1, none⟩ = some (.slice a 1 ca) := h1
    obtain ⟨b0, o0, z0, ha0, HZ0, hz0, -, hc0⟩ := hS.elem (k := 0) (by simp)
    obtain rfl : z0 = u0 := HZ0.out
    rw [Nat.add_zero] at hc0
    subst ha0
    clear h h1 hS hval hl
    go_enter Tryd.func37, Tryd.ntmps37
    go_wp2_with fail
    go_ret
    exact ⟨rfl, rfl⟩
  · have hx0 : x = u0 + 4294967296 * u1 := by simpa [val] using hval.symm
    have h1' : w.cell? ⟨p, 1, none⟩ = some (.slice a 2 ca) := h1
    obtain ⟨b0, o0, z0, ha0, HZ0, hz0, -, hc0⟩ := hS.elem (k := 0) (by simp)
    obtain ⟨b1, o1, z1, ha1, HZ1, hz1, -, hc1⟩ := hS.elem (k := 1) (by simp)
    obtain rfl : z0 = u0 := HZ0.out
    rw [Nat.add_zero] at hc0
    obtain rfl : z1 = u1 := HZ1.out
    subst ha0
    cases ha1
    clear h h1 hS hval hl
    go_enter Tryd.func37, Tryd.ntmps37
    go_wp2_with fail
    go_ret
    refine ⟨?_, rfl⟩
    have e1 : ((z1 : Int) * 4294967296) = ((4294967296 * z1 : Nat) : Int) := by omega
    have e2 := Nat.two_pow_add_eq_or_of_lt (i := 32) (b := z0) hz0 z1
    show Ending.returned (Value.int .u64 (bits .or .u64 (z0 : Int) ((z1 : Int) * 4294967296))) = _
    rw [e1, u64_or_nat z0 (4294967296 * z1) (by omega) (by omega), Nat.or_comm]
    rw [show (4294967296 : Nat) = 2 ^ 32 by decide, ← e2, hx0]
    congr 3
    omega
  · exact absurd hl (by simp)

set_option maxHeartbeats 4000000 in
theorem BInt64_at (p lo : Nat) (v : Value) (us : List Nat) (x : Nat) (w : World) (h : IntAt w lo p v us x) (hx : x < 9223372036854775808) :
    Calls Tryd.prog 18 #[.pointer (some ⟨p, 0, none⟩)] w fun e w' => e = .returned (.int .i64 (x : Int)) ∧ w' = w := by
  have HU := hid_w (BUint64_at p lo v us x w h (by omega))
  have h0 := h.cell0
  clear h
  go_enter Tryd.func18, Tryd.ntmps18
  go_wp2_with (go_at_call 37; refine HU.out.mono ?_; rintro e w' ⟨rfl, rfl⟩)
  go_ret
  exact ⟨rfl, rfl⟩
end Go.Proofs.YthfbkangjpcpgaaDoor
