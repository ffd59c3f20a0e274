/-
  The sheets of package domino: isPaired.
-/
import Derived.Test.YtcnmndbckjmliaaDoorNPai
namespace Go.Proofs.YtcnmndbckjmliaaDoor
open Go.RowKit

/-- Has a half its other half where it should be? -/
def prB (r c : Nat) (f : Nat → UInt8) (i j : Nat) : Bool :=
  if atB r c f (i : Int) (j : Int) = 108 then decide (atB r c f (i : Int) ((j : Int) + 1) = 114) else if atB r c f (i : Int) (j : Int) = 114 then decide (atB r c f (i : Int) ((j : Int) - 1) = 108) else if atB r c f (i : Int) (j : Int) = 117 then decide (atB r c f ((i : Int) + 1) (j : Int) = 100) else if atB r c f (i : Int) (j : Int) = 100 then decide (atB r c f ((i : Int) - 1) (j : Int) = 117) else true

set_option maxHeartbeats 4000000 in
set_option maxRecDepth 100000 in
theorem dpair_at (G r c : Nat) (f : Nat → UInt8) (i j : Nat) (w : World) (hG : w.heap[G]? = some (.cells (shC r c f) 62 (0, 0))) (hr : r ≤ 8) (hc : c ≤ 8) (hi : i < 8) (hj : j < 8) (B : Bool) (hB : prB r c f i j = B) :
    Calls Tryd.prog 61 #[.pointer (some ⟨G, 0, none⟩), .int .i64 (i : Int), .int .i64 (j : Int)] w fun e w' => e = .returned (.bool B) ∧ w' = w := by
  have HB : Hid (prB r c f i j = B) := hB
  obtain ⟨x, HX⟩ : ∃ x, Hid (x = (atB r c f (i : Int) (j : Int)).toNat) := ⟨_, rfl⟩
  have HC0 := hid_w (dat_at G r c f (i : Int) (j : Int) w hG hr hc x HX.out)
  have w1 : IntKind.i64.wrap ((i : Int) + 1) = (i : Int) + 1 := by rw [IntKind.wrap_i64]; omega
  have w2 : IntKind.i64.wrap ((i : Int) - 1) = (i : Int) - 1 := by rw [IntKind.wrap_i64]; omega
  have w3 : IntKind.i64.wrap ((j : Int) + 1) = (j : Int) + 1 := by rw [IntKind.wrap_i64]; omega
  have w4 : IntKind.i64.wrap ((j : Int) - 1) = (j : Int) - 1 := by rw [IntKind.wrap_i64]; omega
  by_cases h0 : x = 108
  · obtain ⟨y, HY⟩ : ∃ y, Hid (y = (atB r c f (i : Int) ((j : Int) + 1)).toNat) := ⟨_, rfl⟩
    have HC1 := hid_w (dat_at G r c f (i : Int) ((j : Int) + 1) w hG hr hc y HY.out)
    have hE : B = decide (y = 114) := by
      rw [← HB.out]; unfold prB
      have e1 : atB r c f (i : Int) (j : Int) = 108 := (byteN (n := 108) (by omega)).1 (by rw [← HX.out]; exact h0)
      rw [e1]
      rw [if_pos rfl]
      apply decide_eq_decide.2
      rw [HY.out]
      exact (byteN (n := 114) (by omega)).symm
    clear hG hB HX HB
    subst h0
    go_enter Tryd.func61, Tryd.ntmps61
    go_wp2_with (first | (go_at_call 48; with_reducible (refine HC0.out.mono ?_); rintro e v1 ⟨rfl, rfl⟩) | (go_at_call 48; with_reducible (refine HC1.out.mono ?_); rintro e v1 ⟨rfl, rfl⟩))
    go_ret
    exact ⟨by rw [hE]; simp; rw [Bool.eq_iff_iff]; simp; omega, rfl⟩
  by_cases h1 : x = 114
  · obtain ⟨y, HY⟩ : ∃ y, Hid (y = (atB r c f (i : Int) ((j : Int) - 1)).toNat) := ⟨_, rfl⟩
    have HC1 := hid_w (dat_at G r c f (i : Int) ((j : Int) - 1) w hG hr hc y HY.out)
    have hE : B = decide (y = 108) := by
      rw [← HB.out]; unfold prB
      have e1 : atB r c f (i : Int) (j : Int) = 114 := (byteN (n := 114) (by omega)).1 (by rw [← HX.out]; exact h1)
      rw [e1]
      rw [if_neg (by decide)]
      rw [if_pos rfl]
      apply decide_eq_decide.2
      rw [HY.out]
      exact (byteN (n := 108) (by omega)).symm
    clear hG hB HX HB
    subst h1
    go_enter Tryd.func61, Tryd.ntmps61
    go_wp2_with (first | (go_at_call 48; with_reducible (refine HC0.out.mono ?_); rintro e v1 ⟨rfl, rfl⟩) | (go_at_call 48; with_reducible (refine HC1.out.mono ?_); rintro e v1 ⟨rfl, rfl⟩))
    go_ret
    exact ⟨by rw [hE]; simp; rw [Bool.eq_iff_iff]; simp; omega, rfl⟩
  by_cases h2 : x = 117
  · obtain ⟨y, HY⟩ : ∃ y, Hid (y = (atB r c f ((i : Int) + 1) (j : Int)).toNat) := ⟨_, rfl⟩
    have HC1 := hid_w (dat_at G r c f ((i : Int) + 1) (j : Int) w hG hr hc y HY.out)
    have hE : B = decide (y = 100) := by
      rw [← HB.out]; unfold prB
      have e1 : atB r c f (i : Int) (j : Int) = 117 := (byteN (n := 117) (by omega)).1 (by rw [← HX.out]; exact h2)
      rw [e1]
      rw [if_neg (by decide)]
      rw [if_neg (by decide)]
      rw [if_pos rfl]
      apply decide_eq_decide.2
      rw [HY.out]
      exact (byteN (n := 100) (by omega)).symm
    clear hG hB HX HB
    subst h2
    go_enter Tryd.func61, Tryd.ntmps61
    go_wp2_with (first | (go_at_call 48; with_reducible (refine HC0.out.mono ?_); rintro e v1 ⟨rfl, rfl⟩) | (go_at_call 48; with_reducible (refine HC1.out.mono ?_); rintro e v1 ⟨rfl, rfl⟩))
    go_ret
    exact ⟨by rw [hE]; simp; rw [Bool.eq_iff_iff]; simp; omega, rfl⟩
  by_cases h3 : x = 100
  · obtain ⟨y, HY⟩ : ∃ y, Hid (y = (atB r c f ((i : Int) - 1) (j : Int)).toNat) := ⟨_, rfl⟩
    have HC1 := hid_w (dat_at G r c f ((i : Int) - 1) (j : Int) w hG hr hc y HY.out)
    have hE : B = decide (y = 117) := by
      rw [← HB.out]; unfold prB
      have e1 : atB r c f (i : Int) (j : Int) = 100 := (byteN (n := 100) (by omega)).1 (by rw [← HX.out]; exact h3)
      rw [e1]
      rw [if_neg (by decide)]
      rw [if_neg (by decide)]
      rw [if_neg (by decide)]
      rw [if_pos rfl]
      apply decide_eq_decide.2
      rw [HY.out]
      exact (byteN (n := 117) (by omega)).symm
    clear hG hB HX HB
    subst h3
    go_enter Tryd.func61, Tryd.ntmps61
    go_wp2_with (first | (go_at_call 48; with_reducible (refine HC0.out.mono ?_); rintro e v1 ⟨rfl, rfl⟩) | (go_at_call 48; with_reducible (refine HC1.out.mono ?_); rintro e v1 ⟨rfl, rfl⟩))
    go_ret
    exact ⟨by rw [hE]; simp; rw [Bool.eq_iff_iff]; simp; omega, rfl⟩
  have hE : B = true := by
    rw [← HB.out]; unfold prB
    rw [if_neg (fun q => h0 (by rw [HX.out, q]; rfl)), if_neg (fun q => h1 (by rw [HX.out, q]; rfl)), if_neg (fun q => h2 (by rw [HX.out, q]; rfl)), if_neg (fun q => h3 (by rw [HX.out, q]; rfl))]
  have e0 : ((x : Int) == 108) = false := by simp; omega
  have e1 : ((x : Int) == 114) = false := by simp; omega
  have e2 : ((x : Int) == 117) = false := by simp; omega
  have e3 : ((x : Int) == 100) = false := by simp; omega
  clear hG hB HX HB h0 h1 h2 h3
  subst hE
  go_enter Tryd.func61, Tryd.ntmps61
  go_wp2_with (first | (go_at_call 48; with_reducible (refine HC0.out.mono ?_); rintro e v1 ⟨rfl, rfl⟩))
  go_ret
  exact ⟨rfl, rfl⟩

end Go.Proofs.YtcnmndbckjmliaaDoor
