/-
  The contract of parts.Merge: a partition of odd parts.
-/
import Derived.Test.YtnjbkiegeielhaaMrg
namespace Go.Proofs.Ytnjbkiegeielhaa
open Go.RowKit

theorem cnt_upd (zs : List Int) (m : Nat) : cnt ((m : Int) :: zs) = upd (cnt zs) m (cnt zs m + 1) := by
  funext j
  rw [cnt_cons]
  by_cases h : j = m
  · subst h; rw [upd_same, if_pos rfl]
  · rw [upd_ne _ _ h, if_neg (by omega)]; omega

theorem wt_cnt (zs : List Int) (h : ∀ z ∈ zs, 0 ≤ z ∧ z ≤ 40) : wt (cnt zs) = sum zs := by
  induction zs with
  | nil =>
    have : ∀ n, wtTo (cnt []) n = 0 := by
      intro n
      induction n with
      | zero => rfl
      | succ n ih => rw [wtTo, ih, cnt_nil]; simp
    exact this 41
  | cons z l ih =>
    have hz := h z (by simp)
    obtain ⟨m, rfl⟩ : ∃ m : Nat, z = m := ⟨z.toNat, by omega⟩
    rw [cnt_upd, wt_upd _ (by omega), ih (fun z hz => h z (by simp [hz])), sum, show cnt l m + 1 - cnt l m = 1 by omega]; omega

theorem good_cnt {zs : List Int} (h : IsPart zs) : Good (cnt zs) := by
  refine ⟨fun j _ => cnt_nonneg _ _, ?_, by rw [wt_cnt zs (fun z hz => by have := h.range z hz; omega)]; exact h.2⟩
  unfold cnt
  have : zs.countP (fun z => z == ((0 : Nat) : Int)) = 0 := by
    rw [List.countP_eq_zero]
    intro z hz
    have := h.range z hz
    simp; omega
  rw [this]; rfl

theorem Good.small {f : Nat → Int} (h : Good f) : (∀ j, j < 41 → 0 ≤ f j) ∧ (∀ j, j < 41 → f j ≤ 1000) := ⟨h.1, fun j hj => by have := h.le hj; omega⟩

set_option maxHeartbeats 4000000 in
theorem Merge_ok (a : Option Addr) (cap : Nat) (zs : List Int) (w : World) (hs : Shows w a zs) (E : Hid (chk zs = 0)) (hp : IsPart zs) (hev : Hid (evenB zs = false)) :
    Calls Try.prog 21 #[.slice a zs.length cap] w fun e w' => ∃ v, e = .returned (.tuple #[v, .int .i64 0]) ∧ Owns w' w.heap.size v (listed (mergeTo (cnt zs) 40)) ∧ Below w.heap.size w w' := by
  have hl := hp.len
  have hG : Hid (Good (cnt zs)) := good_cnt hp
  go_enter Try.func21, Try.ntmps21
  go_wp2_with (go_at_call 13; refine (Check_is _ _ _ _ hs E).mono ?_; rintro e w' ⟨rfl, rfl⟩)
  go_loop [16] (fun i => ∃ k : Nat, k ≤ zs.length ∧ i = .int .i64 k) (fun i => zs.length - (intOf i).toNat)
  case atStart => exact ⟨0, Nat.zero_le _, rfl⟩
  case round =>
    obtain ⟨k, hk, rfl⟩ := hrel
    by_cases hlt : k < zs.length
    · obtain ⟨b, off, z, rfl, HZ, hz1, hz2, hc⟩ := hs.elem hlt
      have hmem : z ∈ zs := by rw [HZ.out]; exact getD_mem hlt
      have hz0 : 1 ≤ z ∧ z ≤ 40 := hp.range z hmem
      obtain ⟨hz3, hz4⟩ := hz0
      have hb : (z % 2 == 0) = false := by
        have := hev.out
        unfold evenB at this
        rw [List.any_eq_false] at this
        simpa using this z hmem
      clear hmem
      go_wp2
      go_round
      case rel => exact ⟨k + 1, by omega, by go_num⟩
      case measure => simp [intOf]; omega
    · go_wp2_with fail
      refine (tallied_any _ _ zs _ hs (fun z hz => by have := hp.range z hz; omega)).mono ?_
      rintro e w1 ⟨rfl, hb1⟩
      go_wp2_with (refine wpList_store_row rfl 51 _ _ rfl _ _ rfl rfl 51 _ (heap_alloc_new _ _) (Try.sz51 _) (by rw [cellsOf_size]; rfl) (cellsOf_one _) ?_)
      have HB1 : Hid (Below w'.heap.size w' w1) := hb1
      clear hb1
      go_loopw [8] (fun i wr => ∃ p : Nat, 1 ≤ p ∧ p ≤ 41 ∧ i = .int .i64 p ∧ Hid (Arr wr w1.heap.size (mergeTo (cnt zs) (p - 1))) ∧ Hid (Below w'.heap.size w' wr)) (fun i _ => 41 - (intOf i).toNat)
      case atStart => exact ⟨1, by omega, by omega, rfl, setRow_heap _ _ _ _ 51 _ (heap_alloc_new _ _), below_setRow (HB1.out.alloc HB1.out.size _) HB1.out.size _⟩
      case round =>
        obtain ⟨p, hp1, hp2, rfl, HA, HB⟩ := hrel
        by_cases hpl : p ≤ 40
        · obtain ⟨hG', -⟩ := hG.out.mergeTo (p - 1) (by omega)
          have hcp := HA.out.cell (j := p) (by omega)
          obtain ⟨F, HF⟩ : ∃ F, Hid (F = mergeTo (cnt zs) (p - 1)) := ⟨_, rfl⟩
          rw [← HF.out] at HA hG' hcp
          have hstep : Hid (mergeTo (cnt zs) (p + 1 - 1) = mergeStep F p) := by
            show _ = _
            rw [show p + 1 - 1 = p - 1 + 1 by omega, mergeTo, HF.out, show p - 1 + 1 = p by omega]
          have hy0 := hG'.1 p (by omega)
          have hy1 := hG'.le (j := p) (by omega)
          obtain ⟨y, HY⟩ : ∃ y, Hid (y = F p) := ⟨_, rfl⟩
          rw [← HY.out] at hcp hy0 hy1
          by_cases hy : 1 < y
          · have h2p : 2 * p ≤ 40 := hG'.twice (j := p) (by omega) (by rw [← HY.out]; exact hy)
            have hc2 := HA.out.cell (j := 2 * p) (by omega)
            have hz0 := hG'.1 (2 * p) (by omega)
            have hz1 := hG'.le (j := 2 * p) (by omega)
            obtain ⟨z, HZ⟩ : ∃ z, Hid (z = F (2 * p)) := ⟨_, rfl⟩
            rw [← HZ.out] at hc2 hz0 hz1
            have hf2 := HA.out.frozen (2 * p)
            have hA1 := HA.out.store (2 * p) (z + y / 2)
            have hcp1 := hA1.cell (j := p) (by omega)
            rw [upd_ne _ _ (by omega), ← HY.out] at hcp1
            have hfp1 := hA1.frozen p
            have HA2 : Hid _ := hA1.store p (y % 2)
            clear hA1
            have hi2 : (2 : Int) * (p : Int) < 41 := by omega
            go_wp2_with fail
            go_region
            go_wp2
            go_roundw
            case rel =>
              refine ⟨p + 1, by omega, by omega, by go_num, ?_, ?_⟩
              · show Arr _ _ _
                rw [hstep.out, mergeStep, ← HY.out, if_pos hy, ← HZ.out]
                exact HA2.out
              · exact ((HB.out.setCell HB1.out.size _).setCell HB1.out.size _).drew
            case measure => simp [intOf]; omega
          · have hd : decide (1 < y) = false := by simp; omega
            go_wp2
            go_roundw
            case rel => exact ⟨p + 1, by omega, by omega, by go_num, by show Arr _ _ _; rw [hstep.out, mergeStep, ← HY.out, if_neg hy]; exact HA.out, HB⟩
            case measure => simp [intOf]; omega
        · obtain rfl : p = 41 := by omega
          have hG' := (hG.out.mergeTo 40 (by omega)).1.small
          go_wp2_with (first | (refine wpList_load_row rfl 51 _ rfl _ rfl 51 _ (0, 0) _ HA.out Try.underlying51 rfl (Try.sz51 _) ?_) | (go_at_call 35; refine (partition_any _ _ hG'.1 hG'.2).mono ?_; rintro e w2 ⟨v, rfl, hown, hb2⟩))
          go_ret2
          exact ⟨_, rfl, hown.mono HB.out.size, HB.out.trans (hb2.mono HB.out.size)⟩

#print axioms Merge_ok
end Go.Proofs.Ytnjbkiegeielhaa
