/-
  ferrersbig.div: all of it (neither is 0).
  The contract of ferrersbig.common.
-/
import Derived.Test.YtgcpconlmihilaaGreatDoorADiv
import Derived.Deep.LoopGhost
import Derived.Deep.DeepCutAuto
namespace Go.Proofs.YtgcpconlmihilaaGreatDoor
open Go.RowKit

theorem DivR.to {w : World} {x y k n : Nat} {e : Ending} {w' : World} (h : DivR w x y k e w') (hx : x < 4294967296 ^ n) : DivR w x y n e w' := by
  obtain ⟨v1, us1, v2, us2, h1, h2, h3, h4, h5, h6⟩ := h
  exact ⟨v1, us1, v2, us2, h1, h2, h3, num_len h2.num (Nat.lt_of_le_of_lt (Nat.div_le_self _ _) hx), num_len h3.num (Nat.lt_of_le_of_lt (Nat.mod_le _ _) hx), h6⟩

theorem div_at (a b : Option Addr) (ca cb n m : Nat) (xs ys : List Nat) (x y : Nat) (w : World) (ha : ShowsW w a ca xs) (hb : ShowsW w b cb ys) (hn : n = xs.length) (hm : m = ys.length) (hx : Num xs x) (hy : Num ys y) (hx0 : 0 < x) (hy0 : 0 < y) (hf : n ≤ 400000) :
    Calls Tryz.prog 62 #[.slice a n ca, .slice b m cb] w (DivR w x y n) := by
  have h1 := num_pos_len hy hm hy0
  rcases Nat.lt_or_ge x y with h | h
  · exact div_less a b ca cb n m xs ys x y w ha hb hn hm hx hy hx0 h
  · rcases Nat.lt_or_ge 2 n with h2 | h2
    · rcases Nat.lt_or_ge m 2 with h3 | h3
      · obtain rfl : m = 1 := by omega
        exact div_word a b ca cb n xs ys x y w ha hb hn hm hx hy hy0 h h2
      · exact div_long a b ca cb n m xs ys x y w ha hb hn hm hx hy h h2 h3 hf
    · refine (div_two a b ca cb n m xs ys x y w ha hb hn hm hx hy hy0 h h2).mono ?_
      intro e w' h4
      exact h4.to (by rw [← hx.eq, hn]; exact val_lt _ hx.wd)

end Go.Proofs.YtgcpconlmihilaaGreatDoor

namespace Go.Proofs.YtgcpconlmihilaaGreatDoor
open Go.RowKit

/-- Two numbers whose greatest divisor is that of x and y; k: the second one. -/
def Com (w wi : World) (x y k : Nat) (a : Option Addr) (n ca : Nat) (b : Option Addr) (m cb : Nat) : Prop :=
  ∃ xs ys x', ShowsW wi a ca xs ∧ ShowsW wi b cb ys ∧ n = xs.length ∧ m = ys.length ∧ Num xs x' ∧ Num ys k ∧ 0 < x' ∧ Nat.gcd x' k = Nat.gcd x y ∧ Below w.heap.size w wi

theorem num_lt_len {us : List Nat} {x n : Nat} (h : Num us x) (hn : n = us.length) : x < 4294967296 ^ n := by rw [← h.eq, hn]; exact val_lt _ h.wd

/-- A step. -/
theorem com_step {w wi : World} {x y k n ca m cb : Nat} {a b : Option Addr} (h : Com w wi x y k a n ca b m cb) (hk : 0 < k) (hn : n ≤ 400000) :
    Calls Tryz.prog 62 #[.slice a n ca, .slice b m cb] wi fun e w' => ∃ v1 b2 m2 cb2, e = .returned (.tuple #[v1, .slice b2 m2 cb2]) ∧ m2 ≤ m ∧ Hid (∃ k2, k2 < k ∧ Com w w' x y k2 b m cb b2 m2 cb2) := by
  obtain ⟨xs, ys, x', h1, h2, h3, h4, h5, h6, h7, h8, h9⟩ := h
  refine (div_at a b ca cb n m xs ys x' k wi h1 h2 h3 h4 h5 h6 h7 hk hn).mono ?_
  rintro e w' ⟨v1, us1, v2, us2, rfl, q1, q2, q3, q4, q5⟩
  obtain ⟨b2, cb2, rfl, hS⟩ := q2.shows (by omega)
  have hlt : x' % k < k := Nat.mod_lt _ hk
  have hl : us2.length ≤ m := num_len q2.num (Nat.lt_trans hlt (num_lt_len h6 h4))
  refine ⟨v1, b2, us2.length, cb2, rfl, hl, x' % k, hlt, ys, us2, k, h2.below q5, hS, h4, rfl, h6, q2.num, hk, ?_, h9.trans (q5.mono h9.size)⟩
  rw [← h8, Nat.gcd_comm x' k, Nat.gcd_comm k (x' % k), ← Nat.gcd_rec]

theorem com_zero {w wi : World} {x y k n ca m cb : Nat} {a b : Option Addr} (h : Com w wi x y k a n ca b m cb) : m = 0 ↔ k = 0 := by
  obtain ⟨xs, ys, x', h1, h2, h3, h4, h5, h6, h7, h8, h9⟩ := h
  rw [h4, ← num_zero h6, List.length_eq_zero_iff]

set_option maxHeartbeats 8000000 in
set_option maxRecDepth 100000 in
theorem common_at (a b : Option Addr) (ca cb n m : Nat) (xs ys : List Nat) (x y : Nat) (w : World) (ha : ShowsW w a ca xs) (hb : ShowsW w b cb ys) (hn : n = xs.length) (hm : m = ys.length) (hx : Num xs x) (hy : Num ys y) (hx0 : 0 < x) (hf : n ≤ 400000) (hf2 : m ≤ 400000) :
    Calls Tryz.prog 61 #[.slice a n ca, .slice b m cb] w fun e w' => ∃ a' n' ca' gs, e = .returned (.slice a' n' ca') ∧ ShowsW w' a' ca' gs ∧ n' = gs.length ∧ Num gs (Nat.gcd x y) ∧ Below w.heap.size w w' := by
  have HC0 : Hid (Com w w x y y a n ca b m cb) := ⟨xs, ys, x, ha, hb, hn, hm, hx, hy, hx0, rfl, Below.refl _ _⟩
  clear ha hb hn hm hx hy
  go_enter Tryz.func61, Tryz.ntmps61
  go_wp2_with fail
  go_loopg [0, 1] y (fun k av bv wi => ∃ a' n' ca' b' m' cb', av = .slice a' n' ca' ∧ bv = .slice b' m' cb' ∧ n' ≤ 400000 ∧ m' ≤ 400000 ∧ Hid (Com w wi x y k a' n' ca' b' m' cb'))
  case atStart => exact ⟨a, n, ca, b, m, cb, rfl, rfl, hf, hf2, HC0⟩
  case round =>
    clear HC0 hf hf2
    obtain ⟨a1, n1, c1, b1, m1, d1, rfl, rfl, hn1, hm1, HC⟩ := hrel
    by_cases hm2 : 2 < m1
    · have hm2' : (m1 : Int) > 2 := by omega
      have HD : Hid (Calls Tryz.prog 62 #[.slice a1 n1 c1, .slice b1 m1 d1] wr fun e w' => ∃ v1 b2 m2 cb2, e = .returned (.tuple #[v1, .slice b2 m2 cb2]) ∧ m2 ≤ m1 ∧ Hid (∃ k2, k2 < gk ∧ Com w w' x y k2 b1 m1 d1 b2 m2 cb2)) :=
        com_step HC.out (Nat.pos_of_ne_zero fun e => by have := (com_zero HC.out).2 e; omega) hn1
      go_wp2_with fail
      refine HD.out.mono ?_
      rintro e w3 ⟨v1, b2, m2, d2, rfl, hm3, HH⟩
      obtain ⟨k2, hk2, hC2⟩ := HH.out
      have HC2 : Hid (Com w w3 x y k2 b1 m1 d1 b2 m2 d2) := hC2
      clear HH hC2 HD
      go_wp2
      go_roundg k2
      case measure => exact hk2
      case rel => exact ⟨b1, m1, d1, b2, m2, d2, rfl, rfl, hm1, by omega, HC2⟩
    · have hm2' : ¬ (m1 : Int) > 2 := by omega
      by_cases hm0 : m1 = 0
      · subst hm0
        go_wp2
        go_ret
        obtain ⟨xs1, ys1, x1, h1, h2, h3, h4, h5, h6, h7, h8, h9⟩ := HC.out
        have hk := (com_zero HC.out).1 rfl
        rw [hk, Nat.gcd_zero_right] at h8
        first | exact ⟨_, _, _, xs1, rfl, h1, h3, by rw [← h8]; exact h5, h9⟩ | exact ⟨_, _, _, rfl, xs1, h1, h3, by rw [← h8]; exact h5, h9⟩
      · have hm0' : ¬ (m1 : Int) = 0 := by omega
        have HD : Hid (Calls Tryz.prog 62 #[.slice a1 n1 c1, .slice b1 m1 d1] wr fun e w' => ∃ v1 b2 m2 cb2, e = .returned (.tuple #[v1, .slice b2 m2 cb2]) ∧ m2 ≤ m1 ∧ Hid (∃ k2, k2 < gk ∧ Com w w' x y k2 b1 m1 d1 b2 m2 cb2)) :=
          com_step HC.out (Nat.pos_of_ne_zero fun e => by have := (com_zero HC.out).2 e; omega) hn1
        go_upto_if 28 with fail
        go_cut [0, 1] (fun av bv wx => ∃ a' n' ca' b' m' cb', av = .slice a' n' ca' ∧ bv = .slice b' m' cb' ∧ n' ≤ 2 ∧ m' ≤ 2 ∧ Hid (∃ k, Com w wx x y k a' n' ca' b' m' cb'))
        case first =>
          by_cases hn2 : 2 < n1
          · have hn2' : (n1 : Int) > 2 := by omega
            go_wp2_with fail
            refine HD.out.mono ?_
            rintro e w3 ⟨v1, b2, m2, d2, rfl, hm3, HH⟩
            go_wp2
            go_meet
            exact ⟨b1, m1, d1, b2, m2, d2, rfl, rfl, by omega, by omega, by obtain ⟨k2, hk2, hC2⟩ := HH.out; exact ⟨k2, hC2⟩⟩
          · have hn2' : ¬ (n1 : Int) > 2 := by omega
            go_wp2
            go_meet
            exact ⟨a1, n1, c1, b1, m1, d1, rfl, rfl, by omega, by omega, _, HC.out⟩
        case rest =>
          clear HD HC
          obtain ⟨a2, n2, c2, b2, m2, d2, rfl, rfl, hn2, hm3, HK⟩ := hcut
          obtain ⟨k, hk⟩ := HK.out
          obtain ⟨xs1, ys1, x1, h1, h2, h3, h4, h5, h6, h7, h8, h9⟩ := hk
          have HP1 : Hid (Calls Tryz.prog 85 #[.slice a2 n2 c2] wc fun e w' => e = .returned (.int .u64 (x1 : Int)) ∧ w' = wc ∧ x1 < 18446744073709551616) := plain_at a2 c2 n2 xs1 x1 wc h1 h3 hn2 h5
          have HP2 : Hid (Calls Tryz.prog 85 #[.slice b2 m2 d2] wc fun e w' => e = .returned (.int .u64 (k : Int)) ∧ w' = wc ∧ k < 18446744073709551616) := plain_at b2 d2 m2 ys1 k wc h2 h4 hm3 h6
          have HG : Hid (Nat.gcd x1 k = Nat.gcd x y) := h8
          have HB : Hid (Below w.heap.size w wc) := h9
          clear h1 h2 h3 h4 h5 h6 h7 h8 h9 HK hm0 hm0' hm2 hm2'
          go_wp2_with fail
          refine HP1.out.mono ?_
          rintro e wc ⟨rfl, rfl, hx64⟩
          go_wp2_with fail
          refine HP2.out.mono ?_
          rintro e wc ⟨rfl, rfl, hk64⟩
          go_wp2_with fail
          go_loopw [9, 10] (fun xv yv wi => ∃ X Y : Nat, xv = .int .u64 (X : Int) ∧ yv = .int .u64 (Y : Int) ∧ X < 18446744073709551616 ∧ Y < 18446744073709551616 ∧ Hid (Nat.gcd X Y = Nat.gcd x y) ∧ Hid (Below w.heap.size w wi)) (fun _ yv _ => (intOf yv).toNat)
          case atStart => exact ⟨x1, k, rfl, rfl, hx64, hk64, HG, HB⟩
          case round =>
            obtain ⟨X, Y, rfl, rfl, hX, hY, HG2, HB2⟩ := hrel
            by_cases hY0 : 0 < Y
            · have hY0' : (Y : Int) > 0 := by omega
              have hY1 : ¬ (Y : Int) = 0 := by omega
              obtain ⟨R, hR⟩ : ∃ R, R = X % Y := ⟨_, rfl⟩
              have htm : (X : Int).tmod (Y : Int) = (R : Int) := by rw [hR]; rfl
              have hRY : R < Y := by rw [hR]; exact Nat.mod_lt _ hY0
              have HG3 : Hid (Nat.gcd Y R = Nat.gcd x y) := by show _ = _; rw [hR, ← HG2.out, Nat.gcd_comm X Y, Nat.gcd_comm Y (X % Y), ← Nat.gcd_rec]
              clear hR
              go_wp2_with fail
              go_region
              all_goals go_wp2
              all_goals exact ⟨⟨Y, R, rfl, rfl, hY, by omega, HG3, by first | exact HB2 | exact below_drewN HB2.out 1⟩, by simp [intOf]; omega⟩
            · have hY0' : ¬ (Y : Int) > 0 := by omega
              obtain rfl : Y = 0 := by omega
              have HG4 : Hid (X = Nat.gcd x y) := by have := HG2.out; rw [Nat.gcd_zero_right] at this; exact this
              have HWd : Hid (Calls Tryz.prog 63 #[.int .u64 (X : Int)] wr fun e w' => ∃ a' n' ca' gs, e = .returned (.slice a' n' ca') ∧ Hid (ShowsW w' a' ca' gs ∧ n' = gs.length ∧ Num gs (Nat.gcd x y) ∧ Below w.heap.size w w')) := by
                refine (words_at X hX wr).mono ?_
                rintro e w5 ⟨v, us, rfl, q1, q2, q3⟩
                obtain ⟨a5, c5, rfl, hS⟩ := q1.shows (by omega)
                exact ⟨a5, _, c5, us, rfl, hS, rfl, by rw [← HG4.out]; exact q1.num, HB2.out.trans (q3.mono HB2.out.size)⟩
              go_wp2_with fail
              refine HWd.out.mono ?_
              rintro e w5 ⟨a5, n5, c5, gs, rfl, HR5⟩
              go_wp2
              go_ret
              exact ⟨_, _, _, gs, rfl, HR5.out⟩

end Go.Proofs.YtgcpconlmihilaaGreatDoor
