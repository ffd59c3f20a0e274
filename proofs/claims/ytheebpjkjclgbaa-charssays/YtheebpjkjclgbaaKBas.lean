/-
  Sizes of anything, tables with capacities, bounds: what both laws of characters want.
-/
import Derived.Test.YtheebpjkjclgbaaKCha
namespace Go.Proofs.Ytheebpjkjclgbaa
open Go.RowKit

set_option maxHeartbeats 1000000 in
theorem RSize_some (a : Option Addr) (n cap : Nat) (zs : List Int) (w : World) (hs : Shows w a zs) (hn : n = zs.length) :
    Calls Try.prog 10 #[.slice a n cap] w fun e w' => ∃ v : Int, e = .returned (.int .i64 v) ∧ w' = w := by
  subst hn
  have hl := hs.len
  go_enter Try.func10, Try.ntmps10
  go_wp2
  go_loop [3, 4] (fun t i => ∃ (k : Nat) (x : Int), k ≤ zs.length ∧ i = .int .i64 k ∧ t = .int .i64 x) (fun _ i => zs.length - (intOf i).toNat)
  case atStart => exact ⟨0, 0, Nat.zero_le _, rfl, rfl⟩
  case round =>
    obtain ⟨k, x, hk, rfl, rfl⟩ := hrel
    by_cases hlt : k < zs.length
    · obtain ⟨b, off, z, rfl, HZ, hz1, hz2, hc⟩ := hs.elem (k := k) hlt
      have hlt' : (k : Int) < (zs.length : Int) := by omega
      go_wp2
      go_round
      case rel => exact ⟨k + 1, _, by omega, by go_num, rfl⟩
      case measure => simp [intOf]; omega
    · obtain rfl : k = zs.length := by omega
      have hlt' : ¬ ((zs.length : Int) < (zs.length : Int)) := by omega
      go_wp2
      go_ret
      first | exact ⟨_, rfl, rfl⟩ | exact ⟨⟨_, rfl⟩, rfl⟩
/-- The size, where it is one. -/
theorem RSize_q (a : Option Addr) (n cap : Nat) (zs : List Int) (w : World) (hs : Shows w a zs) (hn : n = zs.length) :
    Calls Try.prog 10 #[.slice a n cap] w fun e w' => ∃ v : Int, e = .returned (.int .i64 v) ∧ Hid (ptC zs = 0 → v = (szN zs : Int)) ∧ w' = w := by
  by_cases h : ptC zs = 0
  · have hp := pt_of h
    refine (RSize_pt a n cap zs w hs hn hp (by have := szN_40 hp; omega)).mono ?_
    rintro e w' ⟨rfl, rfl⟩
    exact ⟨_, rfl, fun _ => rfl, rfl⟩
  · refine (RSize_some a n cap zs w hs hn).mono ?_
    rintro e w' ⟨v, rfl, rfl⟩
    exact ⟨v, rfl, fun q => absurd q h, rfl⟩
theorem owns_madeX {w : World} {base g n : Nat} (h : w.ownsRow base 3 1 (.slice (some ⟨g, 0, none⟩) n n) n (madeCells #[Value.int .i64 0] n).toList) : Owns w base (.slice (some ⟨g, 0, none⟩) n n) (tab n (fun _ => 0)) := by
  unfold Owns
  rw [tab_length]
  have e : (tab n (fun _ => 0)).map (Value.int .i64) = (madeCells #[Value.int .i64 0] n).toList := by
    rw [toList_madeCells_one]
    simp only [tab, List.map_map]
    rw [List.eq_replicate_iff]
    refine ⟨by simp, fun v hv => ?_⟩
    obtain ⟨j, _, rfl⟩ := List.mem_map.1 hv
    rfl
  rw [e]; exact h

theorem mul_abs {a b : Int} {A B : Nat} (h1 : a.natAbs ≤ A) (h2 : b.natAbs ≤ B) : (a * b).natAbs ≤ A * B := by rw [Int.natAbs_mul]; exact Nat.mul_le_mul h1 h2
/-- A table whose rows' capacities are known to be enough. -/
def TabC (w : World) (a : Option Addr) (ls : List (List Int)) : Prop := ∀ k, k < ls.length → ∃ b off ai ci, a = some ⟨b, off, none⟩ ∧ b < w.heap.size ∧ w.cell? ⟨b, off + k, none⟩ = some (.slice ai (ls.getD k []).length ci) ∧ Shows w ai (ls.getD k []) ∧ (ls.getD k []).length ≤ ci
theorem TabC.below {w w' : World} {a : Option Addr} {ls : List (List Int)} (h : TabC w a ls) (hb : Below w.heap.size w w') : TabC w' a ls := fun k hk => by
  obtain ⟨b, off, ai, ci, h1, h2, h3, h4, h5⟩ := h k hk
  exact ⟨b, off, ai, ci, h1, Nat.lt_of_lt_of_le h2 hb.size, (hb.cell h2).trans h3, h4.below hb, h5⟩
theorem Tbl.tabC {w : World} {lo : Nat} {v : Value} {ls : List (List Int)} (h : Tbl w lo v ls) (hl : ∀ l ∈ ls, l.length ≤ 17592186044416 ∧ ∀ z ∈ l, -9223372036854775808 ≤ z ∧ z ≤ 9223372036854775807) :
    ∃ a n cap, v = .slice a n cap ∧ TabC w a ls ∧ Hid (n = ls.length) := by
  obtain ⟨a, n, cap, hv, hT, hn⟩ := h.table hl
  refine ⟨a, n, cap, hv, fun k hk => ?_, hn⟩
  obtain ⟨b, off, ai, ci, h1, h2, h3, h4, h5⟩ := hT k hk
  refine ⟨b, off, ai, ci, h1, h2, h3, h4, ?_⟩
  obtain ⟨vs, hV⟩ := h
  obtain ⟨g9, n9, cap9, e9, -, hg9, hgs9, hfr9, hce9⟩ := hV.head (by omega)
  rw [hv, h1] at e9
  simp only [Value.slice.injEq, Option.some.injEq, Addr.mk.injEq, and_true] at e9
  obtain ⟨⟨rfl, rfl⟩, -, -⟩ := e9
  have h6 := hce9 k hk
  rw [Nat.zero_add] at h3
  rw [h3] at h6
  simp only [Option.some.injEq] at h6
  have hr := hV.rows k hk
  rw [← h6] at hr
  rcases hr.2 with ⟨q, h0⟩ | ⟨g, cap', cur, q, _, _, hnc, _⟩
  · simp only [Value.slice.injEq] at q
    omega
  · simp only [Value.slice.injEq] at q
    obtain ⟨_, _, rfl⟩ := q
    exact hnc
theorem genA_few : ∀ n, n < 10 → (genA n).length ≤ 30 := by decide +kernel

end Go.Proofs.Ytheebpjkjclgbaa
