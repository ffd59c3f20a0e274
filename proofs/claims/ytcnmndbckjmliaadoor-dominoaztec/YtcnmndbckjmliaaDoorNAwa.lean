/-
  What the law DominoAztec meets besides.
-/
import Derived.Test.YtcnmndbckjmliaaDoorNFr
import Derived.Test.YtcnmndbckjmliaaDoorNPy
namespace Go.Proofs.YtcnmndbckjmliaaDoor
open Go.RowKit

set_option maxHeartbeats 1000000 in
/-- Pick answers one number, whatever the memory. -/
theorem Pick_val (x : Int) (n : Nat) (hx : -9223372036854775808 ≤ x ∧ x ≤ 9223372036854775807) (hn : 0 < n) (hn2 : n ≤ 1000) :
    ∃ c : Nat, c < n ∧ ∀ w : World, Calls Tryd.prog 30 #[.int .i64 x, .int .i64 n] w fun e w' => e = .returned (.int .i64 c) ∧ w' = w := by
  have hn0 : ¬ (n : Int) = 0 := by omega
  have hn0b : ((n : Int) == 0) = false := beq_false_of_ne hn0
  have hres : ∀ y : Int, 0 ≤ y → ∃ c : Nat, Int.tmod y (n : Int) = (c : Int) ∧ c < n := fun y hy => by
    refine ⟨(Int.tmod y (n : Int)).toNat, ?_, ?_⟩
    · rw [Int.toNat_of_nonneg (Int.tmod_nonneg _ hy)]
    · have h1 := Int.tmod_lt_of_pos y (show (0 : Int) < n by omega)
      have h2 := Int.tmod_nonneg (n : Int) hy
      omega
  by_cases hneg : x < 0
  · have h1 : IntKind.i64.wrap (x + 1) = x + 1 := by rw [IntWalk.i64_left, IntWalk.wrap64_in _ (by omega)]
    have h2 : IntKind.i64.wrap (-(x + 1)) = -(x + 1) := by rw [IntWalk.i64_left, IntWalk.wrap64_in _ (by omega)]
    obtain ⟨c, hc, hcn⟩ := hres (-(x + 1)) (by omega)
    have h3 : IntKind.i64.wrap (Int.tmod (-(x + 1)) (n : Int)) = (c : Int) := by rw [hc, IntWalk.i64_left, IntWalk.wrap64_in _ (by omega)]
    refine ⟨c, hcn, fun w => ?_⟩
    clear hres hcn
    go_enter Tryd.func30, Tryd.ntmps30
    go_wp2
    go_ret
    exact ⟨rfl, rfl⟩
  · obtain ⟨c, hc, hcn⟩ := hres x (by omega)
    have h3 : IntKind.i64.wrap (Int.tmod x (n : Int)) = (c : Int) := by rw [hc, IntWalk.i64_left, IntWalk.wrap64_in _ (by omega)]
    refine ⟨c, hcn, fun w => ?_⟩
    clear hres hcn
    go_enter Tryd.func30, Tryd.ntmps30
    go_wp2
    go_ret
    exact ⟨rfl, rfl⟩
/-- The text of the diamond. -/
def dmT (n : Nat) : List UInt8 := tx (2 * n) (2 * n) (dmF n)
theorem dm_bd (n : Nat) {i j : Nat} (hi : i < 2 * n) (hj : j < 2 * n) (h4 : n ≤ 4) : dmF n (i * 8 + j) ∈ bdL := by
  rcases dm_inB (n := n) (k := i * 8 + j) ⟨by omega, by omega⟩ with e | e <;> rw [e] <;> decide
theorem no47b : (47 : UInt8) ∉ bdL := by decide
theorem dmT_shz (n : Nat) (h1 : 1 ≤ n) (h4 : n ≤ 4) : Shz bdL (2 * n) (2 * n) (pz (dmT n)) := by
  have hl : ∀ i, i < 2 * n → ∀ j, j < 2 * n → dmF n (i * 8 + j) ∈ bdL := fun i hi j hj => dm_bd n hi hj h4
  unfold dmT
  rw [pz_tx (lt := bdL) (by omega) hl no47b]
  exact shz_rwz (by omega) (by omega) (by omega) (by omega) hl
theorem dmT_bdn (n : Nat) (h1 : 1 ≤ n) (h4 : n ≤ 4) : BdN (dmT n) (2 * n) (2 * n) (2 ^ (n * (n + 1) / 2)) := by
  have hl : ∀ i, i < 2 * n → ∀ j, j < 2 * n → dmF n (i * 8 + j) ∈ bdL := fun i hi j hj => dm_bd n hi hj h4
  refine ⟨dmT_shz n h1 h4, dmC n, ⟨dmC_le n h1 h4, fun k hk => ?_⟩, ?_⟩
  · rw [dmC_bit n h1 h4 k hk]
    congr 1
    unfold isC
    by_cases q : k / 8 < 2 * n ∧ k % 8 < 2 * n
    · have e : cef (pz (dmT n)) k = dmF n k := by
        have := cef_tx (lt := bdL) (r := 2 * n) (c := 2 * n) (f := dmF n) (i := k / 8) (j := k % 8) (by omega) (by omega) hl no47b q.1 q.2
        rw [show k / 8 * 8 + k % 8 = k by omega] at this
        exact this
      rw [e, decide_eq_true q.1, decide_eq_true q.2, decide_eq_true (show k < 2 * n * 8 + 0 by omega)]
      simp
    · have e : dmF n k = 0 := by unfold dmF; rw [if_neg q]
      rw [e, decide_eq_false (by decide)]
      symm
      by_cases a : k / 8 < 2 * n
      · rw [decide_eq_false (show ¬ k % 8 < 2 * n by omega)]; simp
      · rw [decide_eq_false a]; simp
  · rcases (by omega : n = 1 ∨ n = 2 ∨ n = 3 ∨ n = 4) with rfl | rfl | rfl | rfl
    · exact cnt14.1.symm
    · exact cnt14.2.1.symm
    · exact cnt14.2.2.1.symm
    · exact cnt14.2.2.2.symm

end Go.Proofs.YtcnmndbckjmliaaDoor
