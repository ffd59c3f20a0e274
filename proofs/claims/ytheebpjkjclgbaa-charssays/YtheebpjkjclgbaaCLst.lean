/-
  The contract of parts.All.
-/
import Derived.Test.YtheebpjkjclgbaaCGen
import Derived.Laws.EntriesVeiled
namespace Go.Proofs.Ytheebpjkjclgbaa
open Go.RowKit

/-- The partitions of n, the greater parts first. -/
def genA (n : Nat) : List (List Int) := genF 21 n n
theorem genA_len {n : Nat} (h : n ≤ 20) : (genA n).length ≤ 1000 := by
  have : ∀ m, m < 21 → (genA m).length ≤ 1000 := by decide +kernel
  exact this n (by omega)
theorem allx_new (w : World) : AllX (((w.alloc (.cells #[.slice none 0 0] 38)).alloc (.cells #[.slice none 0 0] 22)).alloc (.cells #[allV w.heap.size] 66)) w.heap.size 66 (allV w.heap.size) (.slice none 0 0) [] (.slice none 0 0) [] [] := by
  refine ⟨?_, ?_, ?_, ⟨World.ownsRow_nil _ _ _ _, rfl, fun i h => absurd h (by simp), fun i _ h => absurd h (by simp), fun i h => absurd h (by simp)⟩, World.ownsRow_nil _ _ _ _, apart_nil _, fun i h => absurd h (by simp)⟩
  · rw [Below.heap_alloc _ _ _ (by simp; omega), Below.heap_alloc _ _ _ (by simp)]
    exact heap_alloc_new _ _
  · rw [Below.heap_alloc _ _ _ (by simp)]
    have := heap_alloc_new (w.alloc (.cells #[.slice none 0 0] 38)) (.cells #[.slice none 0 0] 22)
    simpa using this
  · have := heap_alloc_new ((w.alloc (.cells #[.slice none 0 0] 38)).alloc (.cells #[.slice none 0 0] 22)) (.cells #[allV w.heap.size] 66)
    simpa using this
theorem below_new (w : World) : Below w.heap.size w (((w.alloc (.cells #[.slice none 0 0] 38)).alloc (.cells #[.slice none 0 0] 22)).alloc (.cells #[allV w.heap.size] 66)) := by
  refine ((((Below.refl _ _).alloc (Nat.le_refl _) _).alloc ?_ _).alloc ?_ _)
  all_goals (try simp)
  all_goals omega

set_option maxHeartbeats 4000000 in
set_option maxRecDepth 100000 in
theorem All_ok (n : Nat) (h : n ≤ 20) (w : World) :
    Calls Try.prog 29 #[.int .i64 n] w fun e w' => ∃ v, e = .returned (.tuple #[v, .int .i64 0]) ∧ Tbl w' w.heap.size v (genA n) ∧ Below w.heap.size w w' := by
  have HL := genA_len h
  have h1 : ¬ ((n : Int) < 0) := by omega
  have h2 : ¬ ((20 : Int) < n) := by omega
  have HC : Hid (∀ W, W = (((w.alloc (.cells #[.slice none 0 0] 38)).alloc (.cells #[.slice none 0 0] 22)).alloc (.cells #[allV w.heap.size] 66)) →
      Calls Try.prog 42 #[.int .i64 n, .int .i64 n, bx w.heap.size, bx (w.heap.size + 1), bx (w.heap.size + 2)] W fun e w' => e = .returned (.tuple #[]) ∧ Below w.heap.size W w' ∧ ∃ v' vs' u', AllX w' w.heap.size 66 (allV w.heap.size) v' vs' u' ([] ++ (genF 21 n n).map (fun q => [] ++ q)) []) := fun W hW => by
    subst hW
    exact All1_at 66 21 n n _ _ _ _ [] [] _ (allx_new w) ⟨by simp; exact h, fun z hz => absurd hz (by simp)⟩ (by omega) h (by simpa [genA] using HL)
  have HB : Hid (Below w.heap.size w (((w.alloc (.cells #[.slice none 0 0] 38)).alloc (.cells #[.slice none 0 0] 22)).alloc (.cells #[allV w.heap.size] 66))) := below_new w
  clear HL
  go_enter Try.func29, Try.ntmps29
  go_wp2_with fail
  refine (HC.out _ rfl).mono ?_
  rintro e w1 ⟨rfl, hb, v1, vs1, u1, hx⟩
  have HB1 : Hid (Below w.heap.size w w1) := HB.out.trans hb
  have c0 := cell_of_one hx.b0
  have HT : Hid (Tbl w1 w.heap.size v1 (genA n)) := ⟨vs1, by
    have := hx.t
    rw [show ([] : List (List Int)) ++ (genF 21 n n).map (fun q => [] ++ q) = genA n by simp [genA]] at this
    exact ⟨ownsRow_down this.own (by omega), this.len, fun i hi => (this.rows i hi).mono (by omega), this.apart, this.off⟩⟩
  clear hx hb
  go_wp2
  go_ret2
  exact ⟨v1, rfl, HT.out, HB1.out⟩

set_option maxHeartbeats 1000000 in
theorem All_err (z : Int) (h : z < 0 ∨ 20 < z) (w : World) :
    Calls Try.prog 29 #[.int .i64 z] w fun e w' => e = .returned (.tuple #[.slice none 0 0, .int .i64 1]) ∧ Below w.heap.size w w' := by
  rcases h with h | h
  · go_enter Try.func29, Try.ntmps29
    go_wp2
    go_ret2
    exact ⟨rfl, Below.refl _ _⟩
  · have h1 : ¬ (z < 0) := by omega
    go_enter Try.func29, Try.ntmps29
    go_wp2
    go_ret2
    exact ⟨rfl, Below.refl _ _⟩

end Go.Proofs.Ytheebpjkjclgbaa
