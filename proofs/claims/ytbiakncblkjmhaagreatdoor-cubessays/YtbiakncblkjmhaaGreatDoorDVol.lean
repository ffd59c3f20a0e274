/-
  The contract of cubes.Volume; what is no pile is sent back.
-/
import Derived.Test.YtbiakncblkjmhaaGreatDoorDTrn
namespace Go.Proofs.YtbiakncblkjmhaaGreatDoor
open Go.RowKit

set_option maxHeartbeats 2000000 in
theorem Volume_ok (a : Option Addr) (n cap r c k : Nat) (P : Nat → Nat → Nat) (w : World) (hs : Table w a (tb r c P)) (hn : n = r) (p : Pil r c k P) :
    Calls Tryz.prog 5 #[.slice a n cap, .int .i64 (k : Int)] w fun e w' => e = .returned (.tuple #[.int .i64 (vol r c P : Nat), .int .i64 0]) ∧ Hid (Below w.heap.size w w') := by
  subst hn
  have HP : Hid (Pil n c k P) := p
  have HS : Hid (Table w a (tb n c P)) := hs
  have r1 := p.r1; have r8 := p.r8; have c1 := p.c1; have c8 := p.c8; have h1 := p.h1; have h8 := p.h8
  have HC : Hid (Calls Tryz.prog 7 #[.slice a n cap, .int .i64 (k : Int)] w fun e w' => e = .returned (.int .i64 0) ∧ Hid (Below w.heap.size w w')) := Check_yes a n cap n c k P w hs rfl p
  clear hs p
  have n0' : (0 : Int) < (n : Int) := by omega
  obtain ⟨b, off, ai, ci, rfl, -, -⟩ := HS.out.rowP (i := 0) (by omega)
  go_enter Tryz.func5, Tryz.ntmps5
  go_wp2_with fail
  refine HC.out.mono ?_
  rintro e w1 ⟨rfl, HB1⟩
  clear HC
  go_wp2
  go_loopw [7, 20] (fun v q wr => ∃ i s : Nat, i ≤ n ∧ s ≤ 64 * i ∧ q = .int .i64 i ∧ v = .int .i64 s ∧ Hid (s = S i fun i => S c fun j => P i j) ∧ w1 = wr) (fun _ q _ => n - (intOf q).toNat)
  case atStart => exact ⟨0, 0, Nat.zero_le _, Nat.zero_le _, rfl, rfl, rfl, rfl⟩
  case round =>
    obtain ⟨i, s, hi, hs, rfl, rfl, HSm, rfl⟩ := hrel
    by_cases hil : i < n
    · have hil' : (i : Int) < (n : Int) := by omega
      obtain ⟨b9, off9, ai, ci, e9, HCi, HSi⟩ := HS.out.rowB (i := i) hil
      simp only [Option.some.injEq, Addr.mk.injEq, and_true] at e9
      obtain ⟨rfl, rfl⟩ := e9
      have hc := HCi.out w1 HB1.out
      go_wp2
      clear hc
      go_loopw [7, 26] (fun v q wr => ∃ j t : Nat, j ≤ c ∧ t ≤ 8 * j ∧ q = .int .i64 j ∧ v = .int .i64 ((s + t : Nat) : Int) ∧ Hid (t = S j fun j => P i j) ∧ w1 = wr) (fun _ q _ => c - (intOf q).toNat)
      case atStart => exact ⟨0, 0, Nat.zero_le _, Nat.zero_le _, rfl, rfl, rfl, rfl⟩
      case round =>
        obtain ⟨j, t, hj, ht, rfl, rfl, HTm, rfl⟩ := hrel
        by_cases hjl : j < c
        · have hjl' : (j : Int) < (c : Int) := by omega
          obtain ⟨b1, o1, ha, hcz⟩ := (HSi.out w1 HB1.out).boxP hjl
          subst ha
          obtain ⟨x, HX⟩ : ∃ x, Hid (x = P i j) := ⟨_, rfl⟩
          rw [← HX.out] at hcz
          have hx8 : x ≤ k := by rw [HX.out]; exact HP.out.le i hil j hjl
          go_wp2
          go_roundw
          case rel => exact ⟨j + 1, t + x, by omega, by omega, by go_num, by go_num, by show _ = S j (fun j => P i j) + P i j; rw [HTm.out, HX.out], trivial⟩
          case measure => simp [intOf]; omega
        · obtain rfl : j = c := by omega
          go_wp2
          go_roundw
          case rel => exact ⟨i + 1, s + t, by omega, by omega, by go_num, rfl, by show _ = S i (fun i => S j fun q => P i q) + S j (fun q => P i q); rw [HSm.out, HTm.out], trivial⟩
          case measure => simp [intOf]; omega
    · obtain rfl : i = n := by omega
      go_wp2
      go_ret2
      exact ⟨by rw [HSm.out]; rfl, HB1⟩

section no
variable (a : Option Addr) (n cap : Nat) (ls : List (List Int)) (h : Int) (w : World) (hh : -9223372036854775808 ≤ h ∧ h ≤ 9223372036854775807) (hs : Table w a ls) (hn : n = ls.length) (hl : ls.length ≤ 17592186044416) (p : ¬ PileL ls h)
include hh hs hn hl p
end no

end Go.Proofs.YtbiakncblkjmhaaGreatDoor
