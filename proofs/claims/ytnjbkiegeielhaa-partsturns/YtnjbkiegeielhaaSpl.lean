/-
  The contract of parts.Split.
-/
import Derived.Test.YtnjbkiegeielhaaMrgB
namespace Go.Proofs.Ytnjbkiegeielhaa
open Go.RowKit

def splitStep (f : Nat → Int) (p : Nat) : Nat → Int := if p % 2 = 0 then upd (upd f (p / 2) (f (p / 2) + 2 * f p)) p 0 else f
def splitTo (f : Nat → Int) : Nat → Nat → Int
  | 0 => f
  | k + 1 => splitStep (splitTo f k) (40 - k)

theorem Good.split {f : Nat → Int} (h : Good f) {p : Nat} (hp : 0 < p) (hp2 : p < 41) : Good (splitStep f p) ∧ wt (splitStep f p) = wt f := by
  unfold splitStep
  by_cases h2 : p % 2 = 0
  · rw [if_pos h2]
    have e : wt (upd (upd f (p / 2) (f (p / 2) + 2 * f p)) p 0) = wt f := by
      rw [wt_upd _ hp2, wt_upd _ (by omega), upd_ne _ _ (by omega)]
      obtain ⟨q, hq⟩ : ∃ q, p = 2 * q := ⟨p / 2, by omega⟩
      have e0 : p / 2 = q := by omega
      rw [e0, show f q + 2 * f p - f q = 2 * f p by omega, show (0 : Int) - f p = - f p by omega]
      have e1 : (p : Int) * (- f p) = - ((q : Int) * (2 * f p)) := by
        rw [Int.mul_neg, hq, Int.natCast_mul, Int.mul_assoc, Int.mul_left_comm]; rfl
      rw [e1]; omega
    refine ⟨⟨fun j hj => ?_, ?_, by rw [e]; exact h.2.2⟩, e⟩
    · have := h.1 j hj
      have hq := h.1 (p / 2) (by omega)
      have hq2 := h.1 p (by omega)
      unfold upd
      split
      · omega
      · split <;> omega
    · rw [upd_ne _ _ (by omega), upd_ne _ _ (by omega)]; exact h.2.1
  · rw [if_neg h2]; exact ⟨h, rfl⟩

theorem Good.splitTo {f : Nat → Int} (h : Good f) : ∀ k, k ≤ 40 → Good (splitTo f k) ∧ wt (splitTo f k) = wt f := by
  intro k
  induction k with
  | zero => intro _; exact ⟨h, rfl⟩
  | succ k ih =>
    intro hk
    obtain ⟨i1, i2⟩ := ih (by omega)
    obtain ⟨j1, j2⟩ := i1.split (p := 40 - k) (by omega) (by omega)
    exact ⟨j1, j2.trans i2⟩

set_option maxHeartbeats 1000000 in
theorem Split_err (a : Option Addr) (cap : Nat) (zs : List Int) (w : World) (hs : Shows w a zs) (c : Int) (E : Hid (chkD zs = c)) (hc : (c != 0) = true) :
    Calls Try.prog 22 #[.slice a zs.length cap] w fun e w' => e = .returned (.tuple #[.slice none 0 0, .int .i64 c]) ∧ w' = w := by
  go_enter Try.func22, Try.ntmps22
  go_wp2_with (go_at_call 36; refine (checkDistinct_is _ _ _ _ hs E).mono ?_; rintro e w' ⟨rfl, rfl⟩)
  go_ret2
  exact ⟨rfl, rfl⟩

set_option maxHeartbeats 4000000 in
theorem Split_ok (a : Option Addr) (cap : Nat) (zs : List Int) (w : World) (hs : Shows w a zs) (E : Hid (chkD zs = 0)) (hp : IsPart zs) :
    Calls Try.prog 22 #[.slice a zs.length cap] w fun e w' => ∃ v, e = .returned (.tuple #[v, .int .i64 0]) ∧ Owns w' w.heap.size v (listed (splitTo (cnt zs) 40)) ∧ Below w.heap.size w w' := by
  have hl := hp.len
  have hG : Hid (Good (cnt zs)) := good_cnt hp
  go_enter Try.func22, Try.ntmps22
  go_wp2_with (go_at_call 36; refine (checkDistinct_is _ _ _ _ hs E).mono ?_; rintro e w' ⟨rfl, rfl⟩)
  refine (tallied_any _ _ zs _ hs (fun z hz => by have := hp.range z hz; omega)).mono ?_
  rintro e w1 ⟨rfl, hb1⟩
  go_wp2_with (refine wpList_store_row rfl 51 _ _ rfl _ _ rfl rfl 51 _ (heap_alloc_new _ _) (Try.sz51 _) (by rw [cellsOf_size]; rfl) (cellsOf_one _) ?_)
  have HB1 : Hid (Below w'.heap.size w' w1) := hb1
  clear hb1
  go_loopw [6] (fun i wr => ∃ p : Nat, p ≤ 40 ∧ i = .int .i64 p ∧ Hid (Arr wr w1.heap.size (splitTo (cnt zs) (40 - p))) ∧ Hid (Below w'.heap.size w' wr)) (fun i _ => (intOf i).toNat)
  case atStart => exact ⟨40, by omega, rfl, setRow_heap _ _ _ _ 51 _ (heap_alloc_new _ _), below_setRow (HB1.out.alloc HB1.out.size _) HB1.out.size _⟩
  case round =>
    obtain ⟨p, hp2, rfl, HA, HB⟩ := hrel
    by_cases hpl : 0 < p
    · obtain ⟨hG', -⟩ := hG.out.splitTo (40 - p) (by omega)
      have hcp := HA.out.cell (j := p) (by omega)
      obtain ⟨F, HF⟩ : ∃ F, Hid (F = splitTo (cnt zs) (40 - p)) := ⟨_, rfl⟩
      rw [← HF.out] at HA hG' hcp
      have hstep : Hid (splitTo (cnt zs) (40 - (p - 1)) = splitStep F p) := by
        show _ = _
        rw [show 40 - (p - 1) = (40 - p) + 1 by omega, splitTo, HF.out, show 40 - (40 - p) = p by omega]
      have hy0 := hG'.1 p (by omega)
      have hy1 := hG'.le (j := p) (by omega)
      obtain ⟨y, HY⟩ : ∃ y, Hid (y = F p) := ⟨_, rfl⟩
      rw [← HY.out] at hcp hy0 hy1
      have hpi : (0 : Int) < (p : Int) := by omega
      by_cases he : p % 2 = 0
      · have hc2 := HA.out.cell (j := p / 2) (by omega)
        have hz0 := hG'.1 (p / 2) (by omega)
        have hz1 := hG'.le (j := p / 2) (by omega)
        obtain ⟨z, HZ⟩ : ∃ z, Hid (z = F (p / 2)) := ⟨_, rfl⟩
        rw [← HZ.out] at hc2 hz0 hz1
        have hf2 := HA.out.frozen (p / 2)
        have hA1 := HA.out.store (p / 2) (z + 2 * y)
        have hcp1 := hA1.cell (j := p) (by omega)
        rw [upd_ne _ _ (by omega), ← HY.out] at hcp1
        have hfp1 := hA1.frozen p
        have HA2 : Hid _ := hA1.store p 0
        have HE : Hid (p % 2 = 0) := he
        clear hA1
        have hev : ((p : Int) % 2 == 0) = true := beq_iff_eq.2 (by omega)
        clear he
        go_wp2_with fail
        go_region
        go_wp2
        go_roundw
        case rel =>
          refine ⟨p - 1, by omega, by go_num, ?_, ?_⟩
          · show Arr _ _ _
            rw [hstep.out, splitStep, if_pos HE.out, ← HY.out, ← HZ.out]
            exact HA2.out
          · exact ((HB.out.setCell HB1.out.size _).setCell HB1.out.size _).drew
        case measure => simp [intOf]; omega
      · have hod : ((p : Int) % 2 == 0) = false := beq_eq_false_iff_ne.2 (by omega)
        go_wp2
        go_roundw
        case rel => exact ⟨p - 1, by omega, by go_num, by show Arr _ _ _; rw [hstep.out, splitStep, if_neg he]; exact HA.out, HB⟩
        case measure => simp [intOf]; omega
    · obtain rfl : p = 0 := by omega
      have hG' := (hG.out.splitTo 40 (by omega)).1.small
      go_wp2_with (first | (refine wpList_load_row rfl 51 _ rfl _ rfl 51 _ (0, 0) _ HA.out Try.underlying51 rfl (Try.sz51 _) ?_) | (go_at_call 35; refine (partition_any _ _ hG'.1 hG'.2).mono ?_; rintro e w2 ⟨v, rfl, hown, hb2⟩))
      go_ret2
      exact ⟨_, rfl, hown.mono HB.out.size, HB.out.trans (hb2.mono HB.out.size)⟩

#print axioms Split_ok
end Go.Proofs.Ytnjbkiegeielhaa
