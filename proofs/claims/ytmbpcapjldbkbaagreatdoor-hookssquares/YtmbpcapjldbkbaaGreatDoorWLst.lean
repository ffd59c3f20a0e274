/-
  The contract of fill.leastAt.
-/
import Derived.Test.YtmbpcapjldbkbaaGreatDoorHTsr
import Derived.Test.YtmbpcapjldbkbaaGreatDoorCCst
import Derived.Test.YtmbpcapjldbkbaaGreatDoorCRow
import Derived.Deep.DeepCutAuto
namespace Go.Proofs.YtmbpcapjldbkbaaGreatDoor
open Go.RowKit

/-- The rows so far: those ahead of row i, j boxes of row i. -/
def rS (c : Nat → Nat) (g : Nat → Nat → Nat) (m i j : Nat) : List (List Nat) := (List.range m).map fun r => if r < i then (List.range (c r)).map (g r) else if r = i then (List.range j).map (g r) else []
theorem rS_len (c : Nat → Nat) (g : Nat → Nat → Nat) (m i j : Nat) : (rS c g m i j).length = m := by simp [rS]
theorem rS_row {c : Nat → Nat} {g : Nat → Nat → Nat} {m i j r : Nat} (h : r < m) : (rS c g m i j).getD r [] = if r < i then (List.range (c r)).map (g r) else if r = i then (List.range j).map (g r) else [] := by
  simp [rS, List.getD, h]
/-- One box of what is shown. -/
theorem rS_box {w : World} {a : Option Addr} {c : Nat → Nat} {g : Nat → Nat → Nat} {m i j : Nat} (h : Table w a (castT (rS c g m i j))) {r q : Nat} (hr : r < m) {l : List Nat} (hl : (rS c g m i j).getD r [] = l) (hq : q < l.length) :
    ∃ b off ar nr cr br or', a = some ⟨b, off, none⟩ ∧ w.cell? ⟨b, off + r, none⟩ = some (.slice ar nr cr) ∧ ar = some ⟨br, or', none⟩ ∧ nr = l.length ∧ w.cell? ⟨br, or' + q, none⟩ = some (.int .i64 ((l.getD q 0 : Nat) : Int)) := by
  obtain ⟨b, off, ai, n, ci, e1, e2, HM, HS, -, -⟩ := h.elemR (k := r) (by rw [castT_len, rS_len]; exact hr)
  rw [castT_at, hl] at HS HM
  obtain ⟨br, or', e3, e4⟩ := HS.out.nat hq
  exact ⟨b, off, ai, n, ci, br, or', e1, e2, e3, by rw [HM.out, castL_len], e4⟩

set_option maxHeartbeats 2000000 in
theorem leastAt_at (a : Option Addr) (n cap : Nat) (c : Nat → Nat) (g : Nat → Nat → Nat) (m i j : Nat) (w : World) (ht : Table w a (castT (rS c g m i j))) (hn : n = m) (hm : m ≤ 1000) (hi : i < m) (hj : j < c i) (hd : ∀ r, c (r + 1) ≤ c r) (hj1 : j ≤ 1000) (hg : ∀ r q, g r q ≤ 1000) (hc : ∀ r, c r ≤ 1000) :
    Calls Tryz.prog 79 #[.slice a n cap, .int .i64 (i : Int), .int .i64 (j : Int)] w fun e w' => e = .returned (.int .i64 ((loT g i j : Nat) : Int)) ∧ w' = w := by
  subst hn
  obtain ⟨L, HL⟩ : ∃ L, Hid (L = loT g i j) := ⟨_, rfl⟩
  rw [← HL.out]
  obtain ⟨A, HA⟩ : ∃ A, Hid (A = if j = 0 then 1 else g i (j - 1)) := ⟨_, rfl⟩
  have hA : A ≤ 1000 := by rw [HA.out]; split; omega; exact hg _ _
  have hcj := hc i
  have HF1 : Hid (0 < j → ∃ b off ar nr cr br or', a = some ⟨b, off, none⟩ ∧ w.cell? ⟨b, off + i, none⟩ = some (.slice ar nr cr) ∧ ar = some ⟨br, or', none⟩ ∧ nr = j ∧ w.cell? ⟨br, or' + (j - 1), none⟩ = some (.int .i64 (A : Int))) := fun h0 => by
    obtain ⟨b, off, ar, nr, cr, br, or', e1, e2, e3, e4, e5⟩ := rS_box ht (r := i) (q := j - 1) hi (l := (List.range j).map (g i)) (by rw [rS_row hi, if_neg (by omega), if_pos rfl]) (by simp; omega)
    refine ⟨b, off, ar, nr, cr, br, or', e1, e2, e3, by rw [e4]; simp, ?_⟩
    rw [e5, HA.out, if_neg (by omega)]
    simp [List.getD, show j - 1 < j by omega]
  obtain ⟨P, HP⟩ : ∃ P, Hid (P = c (i - 1)) := ⟨_, rfl⟩
  obtain ⟨U, HU⟩ : ∃ U, Hid (U = g (i - 1) j) := ⟨_, rfl⟩
  have hU : U ≤ 1000 := by rw [HU.out]; exact hg _ _
  have hPb : P ≤ 1000 := by rw [HP.out]; exact hc _
  have HPj : Hid (0 < i → j < P) := fun h0 => by
    rw [HP.out]
    have := hd (i - 1)
    rw [show i - 1 + 1 = i by omega] at this
    omega
  have HF2 : Hid (0 < i → ∃ b off ar nr cr br or', a = some ⟨b, off, none⟩ ∧ w.cell? ⟨b, off + (i - 1), none⟩ = some (.slice ar nr cr) ∧ ar = some ⟨br, or', none⟩ ∧ nr = P ∧ w.cell? ⟨br, or' + j, none⟩ = some (.int .i64 (U : Int))) := fun h0 => by
    obtain ⟨b, off, ar, nr, cr, br, or', e1, e2, e3, e4, e5⟩ := rS_box ht (r := i - 1) (q := j) (by omega) (l := (List.range (c (i - 1))).map (g (i - 1))) (by rw [rS_row (by omega), if_pos (by omega)]) (by have := HPj.out h0; rw [HP.out] at this; simpa using this)
    refine ⟨b, off, ar, nr, cr, br, or', e1, e2, e3, by rw [e4, HP.out]; simp, ?_⟩
    have hp := HPj.out h0
    rw [HP.out] at hp
    rw [e5, HU.out]
    simp [List.getD, hp]
  have HLv : Hid (L = max A (if i = 0 then 0 else U + 1)) := by show _ = _; rw [HL.out, HA.out, HU.out]; rfl
  clear ht hd hg hc hcj
  go_enter Tryz.func79, Tryz.ntmps79
  go_upto_if 9 with fail
  go_cut [7] (fun s7 wz => s7 = .int .i64 (A : Int) ∧ Hid (wz = w))
  case first =>
    rcases Nat.eq_zero_or_pos j with h0 | h0
    · have hj0 : ¬ ((j : Int) > 0) := by omega
      have HA1 : Hid (A = 1) := by show _ = _; rw [HA.out, if_pos h0]
      clear h0
      go_wp2_with fail
      go_meet
      exact ⟨by rw [HA1.out]; rfl, rfl⟩
    · have hj0 : (j : Int) > 0 := by omega
      obtain ⟨b, off, ar, nr, cr, br, or', rfl, e2, rfl, rfl, e5⟩ := HF1.out h0
      obtain ⟨j1, HJ1⟩ : ∃ j1, Hid (j1 = nr - 1) := ⟨_, rfl⟩
      have hsub : IntKind.i64.wrap ((nr : Int) - 1) = (j1 : Int) := by have := HJ1.out; rw [IntWalk.i64_left, IntWalk.wrap64_in _ (by omega)]; omega
      rw [← HJ1.out] at e5
      have hj1n : (j1 : Int) < (nr : Int) := by have := HJ1.out; omega
      have hin : (i : Int) < (n : Int) := by omega
      clear h0 hj0
      have hj0 : (nr : Int) > 0 := by omega
      go_wp2_with fail
      go_meet
      exact ⟨rfl, rfl⟩
  case rest =>
    obtain ⟨rfl, hwz⟩ := hcut
    obtain rfl := hwz.out
    clear hwz HF1
    rcases Nat.eq_zero_or_pos i with h0 | h0
    · have hi0 : ¬ ((i : Int) > 0) := by omega
      have HE : Hid (L = A) := by show _ = _; rw [HLv.out, if_pos h0]; omega
      clear h0
      go_wp2
      go_ret
      exact ⟨by rw [HE.out]; rfl, rfl⟩
    · have hi0 : (i : Int) > 0 := by omega
      obtain ⟨b, off, ar, nr, cr, br, or', rfl, e2, rfl, rfl, e5⟩ := HF2.out h0
      have hjn : (j : Int) < (nr : Int) := by have := HPj.out h0; omega
      have HE : Hid (L = max A (U + 1)) := by show _ = _; rw [HLv.out, if_neg (by omega)]
      obtain ⟨i1, HI1⟩ : ∃ i1, Hid (i1 = i - 1) := ⟨_, rfl⟩
      have hsub : IntKind.i64.wrap ((i : Int) - 1) = (i1 : Int) := by have := HI1.out; rw [IntWalk.i64_left, IntWalk.wrap64_in _ (by omega)]; omega
      rw [← HI1.out] at e2
      have hin : (i1 : Int) < (n : Int) := by have := HI1.out; omega
      by_cases hmx : A < U + 1
      · have hm1 : (U : Int) + 1 > (A : Int) := by omega
        have HEE : Hid (L = U + 1) := by show _ = _; rw [HE.out]; omega
        clear h0 hmx
        go_wp2
        go_ret
        exact ⟨by rw [HEE.out]; first | rfl | simp, rfl⟩
      · have hm1 : ¬ ((U : Int) + 1 > (A : Int)) := by omega
        have HEE : Hid (L = A) := by show _ = _; rw [HE.out]; omega
        clear h0 hmx
        go_wp2
        go_ret
        exact ⟨by rw [HEE.out]; first | rfl | simp, rfl⟩

end Go.Proofs.YtmbpcapjldbkbaaGreatDoor
