/-
  The contracts of strconv.Itoa at small numbers and of ferref.Pick, over fewer texts.
-/
import Derived.Test.YtfdhbnbmobmlpaaDoorWQuo
namespace Go.Proofs.YtfdhbnbmobmlpaaDoor
open Go.RowKit

theorem Itoa_e (k : Nat) (hk : k ≤ 1000000) (w : World) (htab : Lib.TabIs Tryd.prog w "internal/strconv.uint64pow10" .u64 Lib.pow10Tab) :
    Calls Tryd.prog 7 #[.int .i64 (k : Int)] w fun e w' => e = .returned (.string ⟨(numT k).toArray⟩) ∧ Below w.heap.size w w' := by
  refine (Go.Proofs.Tryd.strconv_Itoa (k : Int) (by omega) (by omega) w htab).mono ?_
  rintro e w' ⟨rfl, n, os, rfl⟩
  refine ⟨?_, ?_⟩
  · rw [numT_small (by omega)]
    unfold Lib.itoa
    rw [if_neg (by omega)]
    rfl
  · exact ⟨rfl, rfl, rfl, by first | (simp [Go.Sort.grow]; done) | (simp [Go.Sort.grow]; omega), fun i hi => by
      show ((w.drewN n).heap ++ os)[i]? = _
      rw [Array.getElem?_append_left (by show i < w.heap.size; omega)]
      rfl⟩

set_option maxHeartbeats 1000000 in
theorem Pick_e (x : Int) (n : Nat) (w : World) (hx : -9223372036854775808 ≤ x ∧ x ≤ 9223372036854775807) (hn : 0 < n) (hn2 : n ≤ 1000) :
    Calls Tryd.prog 4 #[.int .i64 x, .int .i64 n] w fun e w' => ∃ c : Nat, e = .returned (.int .i64 c) ∧ c < n ∧ w' = w := by
  have hn0 : ¬ (n : Int) = 0 := by omega
  have hn0b : ((n : Int) == 0) = false := beq_false_of_ne hn0
  have hres : ∀ y : Int, 0 ≤ y → ∃ c : Nat, Int.tmod y (n : Int) = (c : Int) ∧ c < n := fun y hy => by
    refine ⟨(Int.tmod y (n : Int)).toNat, ?_, ?_⟩
    · rw [Int.toNat_of_nonneg (Int.tmod_nonneg _ hy)]
    · have h1 := Int.tmod_lt_of_pos y (show (0 : Int) < n by omega)
      have h2 := Int.tmod_nonneg (n : Int) hy
      omega
  by_cases hneg : x < 0
  · have h1 : IntKind.i64.wrap (x + 1) = x + 1 := by rw [IntWalk.i64_left, IntWalk.wrap64_in _ (by omega)]
    have h2 : IntKind.i64.wrap (-(x + 1)) = -(x + 1) := by rw [IntWalk.i64_left, IntWalk.wrap64_in _ (by omega)]
    obtain ⟨c, hc, hcn⟩ := hres (-(x + 1)) (by omega)
    have h3 : IntKind.i64.wrap (Int.tmod (-(x + 1)) (n : Int)) = (c : Int) := by rw [hc, IntWalk.i64_left, IntWalk.wrap64_in _ (by omega)]
    have HC : Hid (c < n) := hcn
    clear hres
    go_enter Tryd.func4, Tryd.ntmps4
    go_wp2
    go_ret
    exact ⟨c, rfl, HC.out, rfl⟩
  · obtain ⟨c, hc, hcn⟩ := hres x (by omega)
    have h3 : IntKind.i64.wrap (Int.tmod x (n : Int)) = (c : Int) := by rw [hc, IntWalk.i64_left, IntWalk.wrap64_in _ (by omega)]
    have HC : Hid (c < n) := hcn
    clear hres
    go_enter Tryd.func4, Tryd.ntmps4
    go_wp2
    go_ret
    exact ⟨c, rfl, HC.out, rfl⟩

end Go.Proofs.YtfdhbnbmobmlpaaDoor
