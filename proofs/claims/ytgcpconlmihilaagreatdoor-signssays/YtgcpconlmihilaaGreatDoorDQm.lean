/-
  Fractions in lowest terms: plain.
  Fractions told by fractions that need not be in lowest terms; Mul.
-/
import Derived.Test.YtgcpconlmihilaaGreatDoorBOwn
import Derived.Test.YtgcpconlmihilaaGreatDoorARas
import Derived.Test.YtgcpconlmihilaaGreatDoorARam
import Derived.Test.YtgcpconlmihilaaGreatDoorHTxt
namespace Go.Proofs.YtgcpconlmihilaaGreatDoor

/-- x / y is N / D in lowest terms -/
def LowT (N D x y : Nat) : Prop := x = N / Nat.gcd N D ∧ y = D / Nat.gcd N D
theorem low_cop {x y : Nat} (hx : 0 < x) : Nat.Coprime (x / Nat.gcd x y) (y / Nat.gcd x y) := by
  have hg : 0 < Nat.gcd x y := Nat.gcd_pos_of_pos_left _ hx
  exact Nat.coprime_div_gcd_div_gcd hg
theorem low_uniq {a b c d : Nat} (ha : 0 < a) (h1 : Nat.Coprime a b) (h2 : Nat.Coprime c d) (e : a * d = c * b) : a = c ∧ b = d := by
  have k1 : a ∣ c := h1.dvd_of_dvd_mul_right (k := a) (m := c) (n := b) (by rw [← e]; exact Nat.dvd_mul_right a d)
  have k2 : c ∣ a := h2.dvd_of_dvd_mul_right (k := c) (m := a) (n := d) (by rw [e]; exact Nat.dvd_mul_right c b)
  have e1 := Nat.dvd_antisymm k1 k2
  subst e1
  exact ⟨rfl, (Nat.eq_of_mul_eq_mul_left ha e).symm⟩
theorem low_prod (x y : Nat) : x / Nat.gcd x y * y = x * (y / Nat.gcd x y) := by
  have h1 := Nat.div_mul_cancel (Nat.gcd_dvd_left x y)
  have h2 := Nat.div_mul_cancel (Nat.gcd_dvd_right x y)
  calc x / Nat.gcd x y * y = x / Nat.gcd x y * (y / Nat.gcd x y * Nat.gcd x y) := by rw [h2]
    _ = (x / Nat.gcd x y * Nat.gcd x y) * (y / Nat.gcd x y) := by rw [Nat.mul_comm (y / Nat.gcd x y) (Nat.gcd x y), ← Nat.mul_assoc]
    _ = x * (y / Nat.gcd x y) := by rw [h1]
theorem low_same {x y N D : Nat} (hx : 0 < x) (hN : 0 < N) (e : x * D = N * y) : x / Nat.gcd x y = N / Nat.gcd N D ∧ y / Nat.gcd x y = D / Nat.gcd N D := by
  have p1 := low_prod x y
  have p2 := low_prod N D
  have hgx : 0 < x / Nat.gcd x y := Nat.div_pos (Nat.gcd_le_left _ hx) (Nat.gcd_pos_of_pos_left _ hx)
  refine low_uniq hgx (low_cop hx) (low_cop hN) ?_
  -- (x/g) * (D/h) = (N/h) * (y/g): times g * h both sides are x * D and N * y
  have hg : 0 < Nat.gcd x y * Nat.gcd N D := Nat.mul_pos (Nat.gcd_pos_of_pos_left _ hx) (Nat.gcd_pos_of_pos_left _ hN)
  refine Nat.eq_of_mul_eq_mul_right hg ?_
  have a1 := Nat.div_mul_cancel (Nat.gcd_dvd_left x y)
  have a2 := Nat.div_mul_cancel (Nat.gcd_dvd_right x y)
  have b1 := Nat.div_mul_cancel (Nat.gcd_dvd_left N D)
  have b2 := Nat.div_mul_cancel (Nat.gcd_dvd_right N D)
  rw [Nat.mul_mul_mul_comm, a1, b2, Nat.mul_comm (Nat.gcd x y), Nat.mul_mul_mul_comm, b1, a2, e]
/-- a fraction more -/
theorem LowT.mul {N D x y u v N' D' : Nat} (h : LowT N D x y) (hN : 0 < N) (hu : 0 < u) (hN' : 0 < N') (e : N * u * D' = N' * (D * v)) :
    LowT N' D' (x * (u / Nat.gcd u v) / Nat.gcd (x * (u / Nat.gcd u v)) (y * (v / Nat.gcd u v))) (y * (v / Nat.gcd u v) / Nat.gcd (x * (u / Nat.gcd u v)) (y * (v / Nat.gcd u v))) := by
  obtain ⟨rfl, rfl⟩ := h
  have g1 : 0 < Nat.gcd N D := Nat.gcd_pos_of_pos_left _ hN
  have g2 : 0 < Nat.gcd u v := Nat.gcd_pos_of_pos_left _ hu
  have q1 : 0 < N / Nat.gcd N D := Nat.div_pos (Nat.gcd_le_left _ hN) g1
  have q3 : 0 < u / Nat.gcd u v := Nat.div_pos (Nat.gcd_le_left _ hu) g2
  have a1 := Nat.div_mul_cancel (Nat.gcd_dvd_left N D)
  have a2 := Nat.div_mul_cancel (Nat.gcd_dvd_right N D)
  have b1 := Nat.div_mul_cancel (Nat.gcd_dvd_left u v)
  have b2 := Nat.div_mul_cancel (Nat.gcd_dvd_right u v)
  refine low_same (Nat.mul_pos q1 q3) hN' ?_
  refine Nat.eq_of_mul_eq_mul_right (Nat.mul_pos g1 g2) ?_
  have e1 : N / Nat.gcd N D * (u / Nat.gcd u v) * D' * (Nat.gcd N D * Nat.gcd u v) = N * u * D' := by
    rw [Nat.mul_right_comm, Nat.mul_mul_mul_comm, a1, b1]
  have e2 : N' * (D / Nat.gcd N D * (v / Nat.gcd u v)) * (Nat.gcd N D * Nat.gcd u v) = N' * (D * v) := by
    rw [Nat.mul_assoc, Nat.mul_mul_mul_comm, a2, b2]
  rw [e1, e2, e]
theorem LowT.pos {N D x y : Nat} (h : LowT N D x y) (hN : 0 < N) (hD : 0 < D) : 0 < x ∧ 0 < y := by
  obtain ⟨rfl, rfl⟩ := h
  have g1 : 0 < Nat.gcd N D := Nat.gcd_pos_of_pos_left _ hN
  exact ⟨Nat.div_pos (Nat.gcd_le_left _ hN) g1, Nat.div_pos (Nat.gcd_le_right _ hD) g1⟩
theorem LowT.le {N D x y : Nat} (h : LowT N D x y) : x ≤ N ∧ y ≤ D := by
  obtain ⟨rfl, rfl⟩ := h
  exact ⟨Nat.div_le_self _ _, Nat.div_le_self _ _⟩
theorem LowT.whole {N D x y q : Nat} (h : LowT N D x y) (hD : 0 < D) (e : D * q = N) : x = q ∧ y = 1 := by
  obtain ⟨rfl, rfl⟩ := h
  subst e
  rw [Nat.gcd_comm, Nat.gcd_eq_left (Nat.dvd_mul_right D q), Nat.mul_div_cancel_left _ hD, Nat.div_self hD]
  exact ⟨rfl, rfl⟩

theorem LowT.scale {N D x y s : Nat} (h : LowT N D x y) (hs : 0 < s) : LowT (N * s) (D * s) x y := by
  obtain ⟨rfl, rfl⟩ := h
  unfold LowT
  rw [Nat.gcd_mul_right, Nat.mul_div_mul_right _ _ hs, Nat.mul_div_mul_right _ _ hs]
  exact ⟨rfl, rfl⟩
theorem up_100 {x y : Nat} (h : x < 4294967296 ^ 80) (hy : y < 4294967296) : x * y < 4294967296 ^ 100 := by
  have h1 : x * y < 4294967296 ^ 80 * 4294967296 := Nat.mul_lt_mul'' h hy
  rw [← Nat.pow_succ] at h1
  exact Nat.lt_of_lt_of_le h1 (Nat.pow_le_pow_right (by omega) (by omega))
end Go.Proofs.YtgcpconlmihilaaGreatDoor

namespace Go.Proofs.YtgcpconlmihilaaGreatDoor
open Go.RowKit

theorem dec_lenM {x k : Nat} (h : x < 10 ^ (k + 1)) : (Lib.decDigits x).length ≤ k + 1 := by rw [Lib.decDigits_length]; exact nDig_pow k x h
theorem dig_100 {x : Nat} (h : x < 4294967296 ^ 100) (h0 : 0 < x) : (dig x).length ≤ 1000000 := by
  obtain ⟨k, hk⟩ : ∃ k, k = 100 := ⟨_, rfl⟩
  rw [← hk] at h
  have h1 : x < 10 ^ (10 * k) := by
    rw [Nat.pow_mul]
    exact Nat.lt_of_lt_of_le h (Nat.pow_le_pow_left (by decide +kernel) _)
  obtain ⟨m, hm⟩ : ∃ m, m + 1 = 10 * k := ⟨10 * k - 1, by omega⟩
  rw [← hm] at h1
  have := dec_lenM h1
  rw [dig, if_neg (by omega)]
  omega

/-- a fraction in lowest terms, told by a fraction that need not be -/
def LowQ (w : World) (B p N D : Nat) : Prop := ∃ x y, LowT N D x y ∧ Qz w B p x y
theorem LowQ.below {w w' : World} {B p N D : Nat} (h : LowQ w B p N D) (hb : Below w.heap.size w w') : LowQ w' B p N D := by
  obtain ⟨x, y, h1, h2⟩ := h
  exact ⟨x, y, h1, h2.below hb⟩
theorem LowQ.scale {w : World} {B p N D s : Nat} (h : LowQ w B p N D) (hs : 0 < s) : LowQ w B p (N * s) (D * s) := by
  obtain ⟨x, y, h1, h2⟩ := h
  exact ⟨x, y, h1.scale hs, h2⟩
theorem lowMul {W : World} {B p q N D u v N' D' : Nat} (h : LowQ W B p N D) (hq : Qz W B q (u / Nat.gcd u v) (v / Nat.gcd u v)) (hB : B ≤ p) (hN : 0 < N) (hu : 0 < u) (hN' : 0 < N') (e : N * u * D' = N' * (D * v)) (b1 : N < 4294967296 ^ 100) (b2 : D < 4294967296 ^ 100) (b3 : u < 4294967296 ^ 100) (b4 : v < 4294967296 ^ 100) :
    Calls Tryz.prog 19 #[.pointer (some ⟨p, 0, none⟩), .pointer (some ⟨p, 0, none⟩), .pointer (some ⟨q, 0, none⟩)] W fun e w' => e = .returned (.pointer (some ⟨p, 0, none⟩)) ∧ Hid (LowQ w' B p N' D') ∧ Hid (Put W w' B p) := by
  obtain ⟨x, y, h1, h2⟩ := h
  have hl := h1.le
  refine (RMul_at p q B B x y _ _ W h2 hq hB (Nat.lt_of_le_of_lt hl.1 b1) (Nat.lt_of_le_of_lt hl.2 b2) (Nat.lt_of_le_of_lt (Nat.div_le_self _ _) b3) (Nat.lt_of_le_of_lt (Nat.div_le_self _ _) b4)).mono ?_
  rintro e w' ⟨rfl, r1, r2⟩
  exact ⟨rfl, ⟨_, _, h1.mul hN hu hN' e, r1.out⟩, r2⟩

end Go.Proofs.YtgcpconlmihilaaGreatDoor
