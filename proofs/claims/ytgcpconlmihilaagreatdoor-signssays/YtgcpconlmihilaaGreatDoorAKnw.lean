/-
  The long division: what holds of each guess, of the words on top.
  The long division: what the machine's words say of a step, and what a round leaves.
-/
import Derived.Test.YtgcpconlmihilaaGreatDoorATwn
import Derived.Test.YtgcpconlmihilaaGreatDoorARgt
namespace Go.Proofs.YtgcpconlmihilaaGreatDoor

theorem guess_facts {cur vs : List Nat} {j t V top nxt x2 x1 x0 h : Nat} (hc : Wd cur) (hv : Wd vs) (hV : val vs = V) (hl : t + 2 = vs.length) (htop : top = vs.getD (t + 1) 0) (hnxt : nxt = vs.getD t 0) (hge : 2147483648 ≤ top) (hU : val cur < V * 4294967296 ^ (j + 1)) (hN : j + t + 2 < cur.length)
    (h2 : x2 = cur.getD (j + t + 2) 0) (h1 : x1 = cur.getD (j + t + 1) 0) (h0 : x0 = cur.getD (j + t) 0) (hh : h = x2 * 4294967296 + x1) :
    (∀ g r, g * top + r = h → g ≤ 4294967297) ∧
    (∀ g r, g * top + r = h → r < top → val cur < (g + 1) * V * 4294967296 ^ j) ∧
    (∀ g r, g * top + r = h → 4294967296 ≤ g ∨ r * 4294967296 + x0 < g * nxt → val cur < g * V * 4294967296 ^ j) ∧
    (∀ g r, g * top + r = h → g < 4294967296 → g * nxt ≤ r * 4294967296 + x0 → g * V * 4294967296 ^ j ≤ val cur + V * 4294967296 ^ j) ∧
    (∀ g r, g * top + r = h → 4294967296 ≤ r → g < 4294967296 ∧ g * nxt ≤ r * 4294967296 + x0) := by
  have hx1 : x1 < 4294967296 := by rw [h1]; exact wd_getD hc _
  have hx0 : x0 < 4294967296 := by rw [h0]; exact wd_getD hc _
  have hn : nxt < 4294967296 := by rw [hnxt]; exact wd_getD hv _
  have eV := val_two hl
  rw [hV, ← htop, ← hnxt] at eV
  have hvl := val_take_lt hv t
  have hPQ : 4294967296 ^ (j + t) = 4294967296 ^ j * 4294967296 ^ t := Nat.pow_add _ _ _
  have hVlt : V < 4294967296 ^ (t + 2) := by rw [← hV, hl]; exact val_lt _ hv
  have hU3 : val cur < 4294967296 ^ (j + t + 3) := by
    refine Nat.lt_trans hU ?_
    have h3 := Nat.mul_lt_mul_of_pos_right hVlt (show 0 < 4294967296 ^ (j + 1) from Nat.pow_pos (by omega))
    rw [← Nat.pow_add, show t + 2 + (j + 1) = j + t + 3 by omega] at h3
    exact h3
  have eU := val_three hN (drop_zero_of_lt hU3)
  rw [← h2, ← h1, ← h0, ← hh, hPQ] at eU
  have hul := val_take_lt hc (j + t)
  rw [hPQ] at hul
  -- the top word of the rest is no more than the divisor's
  have hxt : x2 ≤ top := by
    rcases Nat.lt_or_ge top x2 with q | q
    · exfalso
      have q1 : 4294967296 ^ t * (top * 4294967296 + nxt + 1) ≤ 4294967296 ^ t * (x2 * 4294967296) := Nat.mul_le_mul_left _ (by omega)
      rw [Nat.mul_add _ _ 1, Nat.mul_one] at q1
      have q2 : V * 4294967296 ^ (j + 1) ≤ 4294967296 ^ t * (x2 * 4294967296) * 4294967296 ^ (j + 1) := Nat.mul_le_mul_right _ (by omega)
      have q3 : 4294967296 ^ t * (x2 * 4294967296) * 4294967296 ^ (j + 1) = 4294967296 ^ j * 4294967296 ^ t * (x2 * 4294967296 * 4294967296) := by
        rw [Nat.pow_succ]
        generalize 4294967296 ^ j = A
        generalize 4294967296 ^ t = C
        generalize 4294967296 = B
        ac_rfl
      have q4 : 4294967296 ^ j * 4294967296 ^ t * (x2 * 4294967296 * 4294967296) ≤ 4294967296 ^ j * 4294967296 ^ t * (h * 4294967296 + x0) := Nat.mul_le_mul_left _ (by rw [hh, Nat.add_mul]; omega)
      omega
    · exact q
  have hhle : h + 1 ≤ top * 4294967296 + 4294967296 := by omega
  refine ⟨fun g r e => ?_, fun g r e hr => ?_, fun g r e hd => ?_, fun g r e hg hs => ?_, fun g r e hr => ?_⟩
  · rcases Nat.lt_or_ge g 4294967298 with q | q
    · omega
    · have := Nat.mul_le_mul_right top q
      omega
  · exact kn_hi eU hul eV (kn_first e hr hx0)
  · rcases hd with hd | hd
    · refine Nat.lt_of_lt_of_le hU ?_
      rw [Nat.pow_succ, Nat.mul_comm (4294967296 ^ j) 4294967296, ← Nat.mul_assoc, Nat.mul_comm V]
      exact Nat.mul_le_mul_right _ (Nat.mul_le_mul_right _ hd)
    · exact kn_hi eU hul eV (kn_down e hd)
  · refine kn_lo eU eV hvl (kn_stay e hs) ?_
    have q1 : 4294967296 ^ t * 4294967296 ≤ 4294967296 ^ t * (top * 4294967296 + nxt) := Nat.mul_le_mul_left _ (by omega)
    have q2 : g * 4294967296 ^ t ≤ 4294967296 * 4294967296 ^ t := Nat.mul_le_mul_right _ (by omega)
    rw [Nat.mul_comm 4294967296] at q2
    omega
  · have hg : g < 4294967296 := by
      rcases Nat.lt_or_ge g 4294967296 with q | q
      · exact q
      · have := Nat.mul_le_mul_right top q
        omega
    refine ⟨hg, ?_⟩
    have q1 : g * nxt ≤ 4294967295 * 4294967295 := Nat.mul_le_mul (by omega) (by omega)
    omega

end Go.Proofs.YtgcpconlmihilaaGreatDoor

namespace Go.Proofs.YtgcpconlmihilaaGreatDoor
open Go.RowKit

/-- A word less another one less what was borrowed, as the machine has it. -/
theorem sub_word {z lo d : Nat} (hz : z < 4294967296) (hl : lo < 4294967296) (hd : d ≤ 1) :
    ∃ T1 T r e : Nat, IntKind.u64.wrap ((z : Int) - (lo : Int)) = (T1 : Int) ∧ IntKind.u64.wrap ((T1 : Int) - (d : Int)) = (T : Int) ∧ T1 < 18446744073709551616 ∧ T < 18446744073709551616 ∧ (T : Int) % 4294967296 = (r : Int) ∧ (T : Int) / 9223372036854775808 = (e : Int) ∧ r < 4294967296 ∧ e ≤ 1 ∧ z + e * 4294967296 = r + lo + d := by
  rcases Nat.lt_or_ge z lo with h | h
  · refine ⟨18446744073709551616 + z - lo, 18446744073709551616 + z - lo - d, 4294967296 + z - lo - d, 1, ?_, ?_, by omega, by omega, by omega, by omega, by omega, by omega, by omega⟩
    · rw [IntKind.wrap_u64]; omega
    · rw [IntKind.wrap_u64]; omega
  · rcases Nat.lt_or_ge z (lo + d) with h2 | h2
    · refine ⟨0, 18446744073709551615, 4294967295, 1, ?_, ?_, by omega, by omega, by omega, by omega, by omega, by omega, by omega⟩
      · rw [IntKind.wrap_u64]; omega
      · rw [IntKind.wrap_u64]; omega
    · refine ⟨z - lo, z - lo - d, z - lo - d, 0, ?_, ?_, by omega, by omega, by omega, by omega, by omega, by omega, by omega⟩
      · rw [IntKind.wrap_u64]; omega
      · rw [IntKind.wrap_u64]; omega

theorem drop_set {l : List Nat} {k n r : Nat} (h : k < n) : (l.set k r).drop n = l.drop n := by
  rw [List.drop_set]; rw [if_pos h]
theorem val_lt_drop {l : List Nat} {k : Nat} (hw : Wd l) (h : val (l.drop k) = 0) : val l < 4294967296 ^ k := by
  have e := val_split l k
  rw [h, Nat.mul_zero, Nat.add_zero] at e
  rw [e]; exact val_take_lt hw k
theorem val_behind (n : Nat) (qs : List Nat) : val (behind n qs) = 4294967296 ^ n * val qs := by
  have e := val_split (behind n qs) n
  unfold behind at *
  rw [List.take_left' (by simp), List.drop_left' (by simp), val_zeros, Nat.zero_add] at e
  exact e
/-- The quotient so far, with a word more. -/
theorem round_eq {X V U U' g j : Nat} {qs : List Nat} (h : X = val (behind (j + 1) qs) * V + U) (hU : U' + g * V * 4294967296 ^ j = U) : X = val (behind j (g :: qs)) * V + U' := by
  rw [h, ← hU, val_behind, val_behind, val, Nat.pow_succ, Nat.mul_add, Nat.add_mul]
  have e1 : 4294967296 ^ j * g * V = g * V * 4294967296 ^ j := by rw [Nat.mul_assoc, Nat.mul_comm]
  have e2 : 4294967296 ^ j * (4294967296 * val qs) * V = 4294967296 ^ j * 4294967296 * val qs * V := by rw [Nat.mul_assoc (4294967296 ^ j) 4294967296]
  omega
/-- One word of what is taken away. -/
theorem sub_round {us vs : List Nat} {j i g p c d z r q lo e X : Nat} (hl : i + j < us.length) (hv : i < vs.length) (hp : p = vs.getD i 0) (hz : z = us.getD (i + j) 0) (h : val us + g * val (vs.take i) * 4294967296 ^ j = X + (c + d) * 4294967296 ^ (i + j)) (hc : q * 4294967296 + lo = c + g * p) (he : z + e * 4294967296 = r + lo + d) :
    val (us.set (i + j) r) + g * val (vs.take (i + 1)) * 4294967296 ^ j = X + (q + e) * 4294967296 ^ (i + 1 + j) := by
  have e1 := msub_step hl hz h hc he
  rw [val_take hv, ← hp, Nat.mul_add, Nat.mul_left_comm g]
  exact e1
/-- One word of what is put back. -/
theorem add_round {us vs : List Nat} {j i p c z r d X : Nat} (hl : i + j < us.length) (hv : i < vs.length) (hp : p = vs.getD i 0) (hz : z = us.getD (i + j) 0) (h : val us + c * 4294967296 ^ (i + j) = X + val (vs.take i) * 4294967296 ^ j) (hr : r = (c + (z + p)) % 4294967296) (hd : d = (c + (z + p)) / 4294967296) :
    val (us.set (i + j) r) + d * 4294967296 ^ (i + 1 + j) = X + val (vs.take (i + 1)) * 4294967296 ^ j := by
  have e1 := bmul_step (rs := us) (k := i) (q := j) (p := p) (c := c) (z := z) (r := r) (d := d) (W := X + val (vs.take i) * 4294967296 ^ j + p * 4294967296 ^ (i + j)) hl hz h (by rw [hr, Nat.add_comm z]) (by rw [hd, Nat.add_comm z]) rfl
  rw [show i + 1 + j = i + j + 1 by omega, e1, val_take hv, ← hp, Nat.add_mul, Nat.pow_add]
  have e2 : 4294967296 ^ i * p * 4294967296 ^ j = p * (4294967296 ^ i * 4294967296 ^ j) := by rw [Nat.mul_comm (4294967296 ^ i) p, Nat.mul_assoc]
  omega

end Go.Proofs.YtgcpconlmihilaaGreatDoor
