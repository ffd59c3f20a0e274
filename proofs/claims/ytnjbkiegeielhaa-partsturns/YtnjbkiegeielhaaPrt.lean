/-
  The contract of (tally).partition.
-/
import Derived.Test.YtnjbkiegeielhaaTal
namespace Go.Proofs.Ytnjbkiegeielhaa
open Go.RowKit

/-- The parts from 40 down, as many of each as f says: the first k numbers are done. -/
def accK (f : Nat → Int) : Nat → List Int
  | 0 => []
  | k + 1 => accK f k ++ List.replicate (f (40 - k)).toNat ((40 - k : Nat) : Int)
def listed (f : Nat → Int) : List Int := accK f 40

theorem accK_len (f : Nat → Int) (h : ∀ j, j < 41 → f j ≤ 1000) : ∀ k, (accK f k).length ≤ 1000 * k := by
  intro k
  induction k with
  | zero => simp [accK]
  | succ k ih => have := h (40 - k) (by omega); simp [accK]; omega

theorem Owns.belowBase {w w' : World} {base : Nat} {v : Value} {zs : List Int} (_h : Owns w base v zs) (hb : Below base w w') {g : Nat} {f : Nat → Int} (ha : Arr w g f) (hg : g < base) : Arr w' g f := by
  unfold Arr; rw [hb.block g hg]; exact ha

set_option maxHeartbeats 2000000 in
theorem partition_any (f : Nat → Int) (w : World) (h0 : Hid (∀ j, j < 41 → 0 ≤ f j)) (h1 : Hid (∀ j, j < 41 → f j ≤ 1000)) :
    Calls Try.prog 35 #[.agg (cellsOf f)] w fun e w' => ∃ v, e = .returned v ∧ Owns w' w.heap.size v (listed f) ∧ Below w.heap.size w w' := by
  go_enter Try.func35, Try.ntmps35
  go_wp2
  go_loopw [3, 4] (fun v i wr => ∃ k : Nat, k ≤ 40 ∧ i = .int .i64 (40 - (k : Int)) ∧ Hid (Owns wr (w.heap.size + 1) v (accK f k)) ∧ Hid (Arr wr w.heap.size f) ∧ Hid (Below w.heap.size w wr)) (fun _ i _ => (intOf i).toNat)
  case atStart =>
    refine ⟨0, Nat.zero_le _, rfl, World.ownsRow_nil _ _ _ _, ?_, ?_⟩
    · exact heap_alloc_new w _
    · exact (Below.refl _ _).alloc (Nat.le_refl _) _
  case round =>
    obtain ⟨k, hk, rfl, HO, HA, HB⟩ := hrel
    by_cases hlt : k < 40
    · have hc := HA.out.cell (j := 40 - k) (by omega)
      obtain ⟨x, HX⟩ : ∃ x, Hid (x = f (40 - k)) := ⟨_, rfl⟩
      rw [← HX.out] at hc
      have hx0 : 0 ≤ x := by rw [HX.out]; exact h0.out _ (by omega)
      have hx1 : x ≤ 1000 := by rw [HX.out]; exact h1.out _ (by omega)
      have hk2 : ((40 : Int) - (k : Int)) = ((40 - k : Nat) : Int) := by omega
      obtain ⟨n, hn⟩ : ∃ n, n = 40 - k := ⟨_, rfl⟩
      rw [← hn] at hc
      have hn1 : 1 ≤ n := by omega
      have hn2 : n ≤ 40 := by omega
      have HN : Hid (n = 40 - k) := hn
      rw [hk2, ← hn]
      clear hn hk2
      have hn3 : 0 < n := by omega
      have hlen := accK_len f h1.out k
      go_wp2
      go_loopw [3, 12] (fun v i wq => ∃ m : Nat, (m : Int) ≤ x ∧ i = .int .i64 (m : Int) ∧ Hid (Owns wq (w.heap.size + 1) v (accK f k ++ List.replicate m (n : Int))) ∧ Hid (Arr wq w.heap.size f) ∧ Hid (Below w.heap.size w wq)) (fun _ i _ => (x - intOf i).toNat)
      case atStart => exact ⟨0, by omega, rfl, by simpa [Hid] using HO.out, HA, HB⟩
      case round =>
        obtain ⟨m, hm, rfl, HOm, HAm, HBm⟩ := hrel
        by_cases hml : (m : Int) < x
        · have hsz : w.heap.size + 1 ≤ wr.heap.size := by have := HAm.out.lt; omega
          go_wp2_with (at_builtin; refine append_int (x := (n : Int)) rfl _ _ rfl rfl HOm.out rfl ?c1 ?c2 ?_)
          case c1 => simp; omega
          case c2 => exact hsz
          intro v' w2 hown hb2
          have HS : Hid (Owns w2 (w.heap.size + 1) v' (accK f k ++ List.replicate (m + 1) (n : Int))) := by
            rw [← List.replicate_succ'] at hown; exact hown
          have HA2 : Hid (Arr w2 w.heap.size f) := HOm.out.belowBase hb2 HAm.out (by omega)
          have HB2 : Hid (Below w.heap.size w w2) := HBm.out.trans (hb2.mono (by omega))
          clear hown hb2
          go_wp2
          go_roundw
          case rel => exact ⟨m + 1, by omega, by go_num, HS, HA2, HB2⟩
          case measure => simp [intOf]; omega
        · obtain rfl : x = m := by omega
          have HS : Hid (Owns wr (w.heap.size + 1) u3 (accK f (k + 1))) := by
            have := HOm.out
            show Owns _ _ _ _
            rw [accK, ← HN.out, HN.out, ← HX.out, ← HN.out, Int.toNat_natCast]
            exact this
          go_wp2
          go_roundw
          case rel => exact ⟨k + 1, by omega, by have := HN.out; go_num, HS, HAm, HBm⟩
          case measure => have := HN.out; simp [intOf]; omega
    · obtain rfl : k = 40 := by omega
      go_wp2
      go_ret
      exact ⟨_, rfl, HO.out.mono (by omega), HB.out⟩

#print axioms partition_any
end Go.Proofs.Ytnjbkiegeielhaa
