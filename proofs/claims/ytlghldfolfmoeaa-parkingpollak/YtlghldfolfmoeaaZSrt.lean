/-
  The contracts of slices.Sort of numbers, of ferref.Pick.
-/
import Derived.Test.YtlghldfolfmoeaaBApp
import Derived.Test.YtlghldfolfmoeaaTShelf
import Derived.Sort.OwnSortedInts
namespace Go.Proofs.Ytlghldfolfmoeaa
open Go.RowKit

theorem SortI_at (g n cap base : Nat) (zs : List Int) (w : World) (ho : Owns w base (.slice (some ⟨g, 0, none⟩) n cap) zs) (hn : n = zs.length) (hl : n ≤ 1000000) :
    Calls Try.prog 22 #[.slice (some ⟨g, 0, none⟩) n cap] w fun e w' => e = .returned (.tuple #[]) ∧ Hid (Owns w' base (.slice (some ⟨g, 0, none⟩) n cap) (zs.mergeSort fun x y => decide (x ≤ y))) ∧ Hid (w.grownBy w' (some g)) := by
  subst hn
  obtain ⟨h1, cur, h2, h3, h4, h5, h6⟩ := ho.block rfl
  have hg : g < w.heap.size := (Array.getElem?_eq_some_iff.1 h2).1
  refine (Try.slices_Sort_int g 0 cap zs w (holds_of_blockI h2 h6) hg (by omega)).mono ?_
  rintro e w' ⟨he, m, os, rfl⟩
  refine ⟨he, ?_, grownBy_sortedI _⟩
  have := ownsRow_sortedI (n := m) (os := os) (e := 3) (base := base) (ss := zs) (ts := zs.mergeSort fun x y => decide (x ≤ y)) (by simp) h1 h2 h4 h5 (by omega)
  show Owns _ _ _ _
  unfold Owns
  rw [List.length_mergeSort]
  exact this

/-- Which of n things a number speaks of. -/
def pickN (x : Int) (n : Nat) : Nat := (Int.tmod (if x < 0 then -(x + 1) else x) (n : Int)).toNat
theorem pickN_lt (x : Int) {n : Nat} (hn : 0 < n) : pickN x n < n := by
  unfold pickN
  have h0 : 0 ≤ (if x < 0 then -(x + 1) else x) := by split <;> omega
  have h1 := Int.tmod_lt_of_pos (if x < 0 then -(x + 1) else x) (show (0 : Int) < n by omega)
  have h2 := Int.tmod_nonneg (n : Int) h0
  omega
theorem pickN_eq (x : Int) (n : Nat) : Int.tmod (if x < 0 then -(x + 1) else x) (n : Int) = (pickN x n : Int) := by
  unfold pickN
  rw [Int.toNat_of_nonneg (Int.tmod_nonneg _ (by split <;> omega))]
set_option maxHeartbeats 1000000 in
theorem Pick_z (x : Int) (n c : Nat) (w : World) (hx : -9223372036854775808 ≤ x ∧ x ≤ 9223372036854775807) (hn : 0 < n) (hn2 : n ≤ 1000) (hc : pickN x n = c) :
    Calls Try.prog 21 #[.int .i64 x, .int .i64 n] w fun e w' => e = .returned (.int .i64 c) ∧ w' = w := by
  have hn0 : ¬ (n : Int) = 0 := by omega
  have hn0b : ((n : Int) == 0) = false := beq_false_of_ne hn0
  have hcn : c < n := by rw [← hc]; exact pickN_lt x hn
  have hq := pickN_eq x n
  rw [hc] at hq
  by_cases hneg : x < 0
  · rw [if_pos hneg] at hq
    have h1 : IntKind.i64.wrap (x + 1) = x + 1 := by rw [IntWalk.i64_left, IntWalk.wrap64_in _ (by omega)]
    have h2 : IntKind.i64.wrap (-(x + 1)) = -(x + 1) := by rw [IntWalk.i64_left, IntWalk.wrap64_in _ (by omega)]
    have h3 : IntKind.i64.wrap (Int.tmod (-(x + 1)) (n : Int)) = (c : Int) := by rw [hq, IntWalk.i64_left, IntWalk.wrap64_in _ (by omega)]
    clear hc
    go_enter Try.func21, Try.ntmps21
    go_wp2
    go_ret
    exact ⟨rfl, rfl⟩
  · rw [if_neg hneg] at hq
    have h3 : IntKind.i64.wrap (Int.tmod x (n : Int)) = (c : Int) := by rw [hq, IntWalk.i64_left, IntWalk.wrap64_in _ (by omega)]
    clear hc
    go_enter Try.func21, Try.ntmps21
    go_wp2
    go_ret
    exact ⟨rfl, rfl⟩
end Go.Proofs.Ytlghldfolfmoeaa
