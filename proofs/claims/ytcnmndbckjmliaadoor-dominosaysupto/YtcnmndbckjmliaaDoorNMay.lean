/-
  The sheets of package domino: mayTurn.
-/
import Derived.Test.YtcnmndbckjmliaaDoorNLie
import Derived.Deep.CutBlock
namespace Go.Proofs.YtcnmndbckjmliaaDoor
open Go.RowKit

/-- May the block there be turned? -/
def mtB (r c : Nat) (f : Nat → UInt8) (i j : Int) : Bool := if atB r c f i j = 108 then decide (atB r c f (i + 1) j = 108) else if atB r c f i j = 117 then decide (atB r c f i (j + 1) = 117) else false
theorem atB_in {r c : Nat} {f : Nat → UInt8} {i j : Int} (h : atB r c f i j ≠ 46) : 0 ≤ i ∧ i < (r : Int) ∧ 0 ≤ j ∧ j < (c : Int) := by
  unfold atB at h
  by_cases q : 0 ≤ i ∧ i < (r : Int) ∧ 0 ≤ j ∧ j < (c : Int)
  · exact q
  · rw [if_neg q] at h; exact absurd rfl h
theorem byteN {b : UInt8} {n : Nat} (hn : n < 256) : b.toNat = n ↔ b = UInt8.ofNat n := by
  constructor
  · intro h
    apply UInt8.toNat_inj.1
    rw [h, UInt8.toNat_ofNat']; omega
  · intro h
    rw [h, UInt8.toNat_ofNat']; omega

set_option maxHeartbeats 4000000 in
set_option maxRecDepth 100000 in
theorem dmay_at (G r c : Nat) (f : Nat → UInt8) (i j : Int) (w : World) (hG : w.heap[G]? = some (.cells (shC r c f) 62 (0, 0))) (hr : r ≤ 8) (hc : c ≤ 8) (B : Bool) (hB : mtB r c f i j = B) :
    Calls Tryd.prog 46 #[.pointer (some ⟨G, 0, none⟩), .int .i64 i, .int .i64 j] w fun e w' => e = .returned (.bool B) ∧ w' = w := by
  have HB : Hid (mtB r c f i j = B) := hB
  obtain ⟨x, HX⟩ : ∃ x, Hid (x = (atB r c f i j).toNat) := ⟨_, rfl⟩
  obtain ⟨y, HY⟩ : ∃ y, Hid (y = (atB r c f (i + 1) j).toNat) := ⟨_, rfl⟩
  obtain ⟨z, HZ⟩ : ∃ z, Hid (z = (atB r c f i (j + 1)).toNat) := ⟨_, rfl⟩
  have HC0 := hid_w (dat_at G r c f i j w hG hr hc x HX.out)
  have HC1 := hid_w (dat_at G r c f (i + 1) j w hG hr hc y HY.out)
  have HC2 := hid_w (dat_at G r c f i (j + 1) w hG hr hc z HZ.out)
  have HXY := hid_w (And.intro hr hc)
  have HIn : Hid (x = 108 ∨ x = 117 → 0 ≤ i ∧ i < 8 ∧ 0 ≤ j ∧ j < 8) := fun h => by
    have hne : atB r c f i j ≠ 46 := fun q => by
      have := HX.out
      rw [q] at this
      have e : (46 : UInt8).toNat = 46 := rfl
      omega
    have := atB_in hne
    have h2 := HXY.out
    omega
  clear hG hB hr hc
  by_cases h1 : x = 108
  · have hin := HIn.out (Or.inl h1)
    have hE : B = decide (y = 108) := by
      rw [← HB.out]; unfold mtB
      have e1 : atB r c f i j = 108 := (byteN (n := 108) (by omega)).1 (by rw [← HX.out]; exact h1)
      rw [if_pos e1]
      apply decide_eq_decide.2
      rw [HY.out]
      exact (byteN (n := 108) (by omega)).symm
    have hwr : IntKind.i64.wrap (i + 1) = i + 1 := by rw [IntKind.wrap_i64]; omega
    clear HIn HX HB hin HC2
    subst h1
    go_enter Tryd.func46, Tryd.ntmps46
    go_wp2_with (first | (go_at_call 48; with_reducible (refine HC0.out.mono ?_); rintro e w1 ⟨rfl, rfl⟩) | (go_at_call 48; with_reducible (refine HC1.out.mono ?_); rintro e w1 ⟨rfl, rfl⟩))
    go_ret
    exact ⟨by rw [hE]; simp; rw [Bool.eq_iff_iff]; simp; omega, rfl⟩
  · by_cases h2 : x = 117
    · have hin := HIn.out (Or.inr h2)
      have hE : B = decide (z = 117) := by
        rw [← HB.out]; unfold mtB
        have e1 : atB r c f i j = 117 := (byteN (n := 117) (by omega)).1 (by rw [← HX.out]; exact h2)
        rw [e1, if_neg (by decide), if_pos rfl]
        apply decide_eq_decide.2
        rw [HZ.out]
        exact (byteN (n := 117) (by omega)).symm
      have hwr : IntKind.i64.wrap (j + 1) = j + 1 := by rw [IntKind.wrap_i64]; omega
      clear HIn HX HB hin HC1 h1
      subst h2
      go_enter Tryd.func46, Tryd.ntmps46
      go_wp2_with (first | (go_at_call 48; with_reducible (refine HC0.out.mono ?_); rintro e w1 ⟨rfl, rfl⟩) | (go_at_call 48; with_reducible (refine HC2.out.mono ?_); rintro e w1 ⟨rfl, rfl⟩))
      go_ret
      exact ⟨by rw [hE]; simp; rw [Bool.eq_iff_iff]; simp; omega, rfl⟩
    · have hE : B = false := by
        rw [← HB.out]; unfold mtB
        rw [if_neg (fun q => h1 (by rw [HX.out, q]; rfl)), if_neg (fun q => h2 (by rw [HX.out, q]; rfl))]
      have h1' : ((x : Int) == 108) = false := by simp; omega
      have h2' : ((x : Int) == 117) = false := by simp; omega
      clear HIn HX HB HC1 HC2 h1 h2
      subst hE
      go_enter Tryd.func46, Tryd.ntmps46
      go_wp2_with (first | (go_at_call 48; with_reducible (refine HC0.out.mono ?_); rintro e w1 ⟨rfl, rfl⟩))
      go_ret
      exact ⟨rfl, rfl⟩

end Go.Proofs.YtcnmndbckjmliaaDoor
