/-
  Contracts of parts.falls and parts.Check for every slice that can be read.
-/
import Derived.Test.YtnjbkiegeielhaaView
namespace Go.Proofs.Ytnjbkiegeielhaa
open Go.RowKit

/-- At place j: not below m, and at least d below the one ahead. -/
def stepOk (m d : Int) (zs : List Int) (j : Nat) : Prop := m ≤ zs.getD j 0 ∧ (0 < j → zs.getD j 0 + d ≤ zs.getD (j - 1) 0)
def Goes (m d : Int) (zs : List Int) : Prop := ∀ j, j < zs.length → stepOk m d zs j
def goesB (m d : Int) (zs : List Int) : Bool := (List.range zs.length).all fun j => decide (m ≤ zs.getD j 0) && (decide (j = 0) || decide (zs.getD j 0 + d ≤ zs.getD (j - 1) 0))

theorem goesB_iff {m d : Int} {zs : List Int} : goesB m d zs = true ↔ Goes m d zs := by
  unfold goesB Goes stepOk
  rw [List.all_eq_true]
  constructor
  · intro h j hj
    have := h j (List.mem_range.2 hj)
    simp only [Bool.and_eq_true, Bool.or_eq_true, decide_eq_true_eq] at this
    exact ⟨this.1, fun h0 => this.2.resolve_left (by omega)⟩
  · intro h j hj
    have := h j (List.mem_range.1 hj)
    simp only [Bool.and_eq_true, Bool.or_eq_true, decide_eq_true_eq]
    refine ⟨this.1, ?_⟩
    by_cases h0 : j = 0
    · exact Or.inl h0
    · exact Or.inr (this.2 (by omega))
theorem goesB_pos {m d : Int} {zs : List Int} (h : Goes m d zs) : goesB m d zs = true := goesB_iff.2 h
theorem goesB_neg {m d : Int} {zs : List Int} (h : ¬ Goes m d zs) : goesB m d zs = false := by
  cases e : goesB m d zs with
  | false => rfl
  | true => exact absurd (goesB_iff.1 e) h
theorem ret_bool {a b : Bool} (h : a = b) : Ending.returned (.bool a) = .returned (.bool b) := by rw [h]

set_option maxHeartbeats 1000000 in
theorem falls_any (a : Option Addr) (cap : Nat) (zs : List Int) (w : World) (hs : Shows w a zs) :
    Calls Try.prog 32 #[.slice a zs.length cap] w fun e w' => e = .returned (.bool (goesB 0 1 zs)) ∧ w' = w := by
  have hl := hs.len
  go_enter Try.func32, Try.ntmps32
  go_wp2
  go_loop [7] (fun i => ∃ k : Nat, k ≤ zs.length ∧ i = .int .i64 k ∧ Hid (∀ j, j < k → stepOk 0 1 zs j)) (fun i => zs.length - (intOf i).toNat)
  case atStart => exact ⟨0, Nat.zero_le _, rfl, fun j hj => by omega⟩
  case round =>
    obtain ⟨k, hk, rfl, HR⟩ := hrel
    by_cases hlt : k < zs.length
    · rcases Nat.eq_zero_or_pos k with rfl | hpos
      · obtain ⟨b, off, z, rfl, HZ, hz1, hz2, hc⟩ := hs.elem hlt
        rw [Nat.add_zero] at hc
        by_cases h1 : z < 0
        · go_wp2
          go_ret
          exact ⟨ret_bool (by rw [goesB_neg (fun h => by have := (h 0 hlt).1; rw [← HZ.out] at this; omega)]), rfl⟩
        · go_wp2
          go_round
          case rel => exact ⟨1, by omega, by go_num, fun j hj => by obtain rfl : j = 0 := (by omega); exact ⟨by rw [← HZ.out]; omega, fun h => by omega⟩⟩
          case measure => simp [intOf]; omega
      · obtain ⟨m, rfl⟩ : ∃ m, k = m + 1 := ⟨k - 1, by omega⟩
        obtain ⟨b, off, z, y, rfl, HZ, HY, hz1, hz2, hy1, hy2, hc, hcy⟩ := hs.elem2 hlt (show m < zs.length by omega)
        by_cases h1 : z < 0
        · go_wp2
          go_ret
          exact ⟨ret_bool (by rw [goesB_neg (fun h => by have := (h (m + 1) hlt).1; rw [← HZ.out] at this; omega)]), rfl⟩
        · by_cases h2 : y ≤ z
          · go_wp2
            go_ret
            exact ⟨ret_bool (by rw [goesB_neg (fun h => by have := (h (m + 1) hlt).2 (by omega); rw [← HZ.out, Nat.add_sub_cancel, ← HY.out] at this; omega)]), rfl⟩
          · go_wp2
            go_round
            case rel => exact ⟨m + 2, by omega, by go_num, fun j hj => by
                          by_cases hj' : j < m + 1
                          · exact HR.out j hj'
                          · obtain rfl : j = m + 1 := by omega
                            exact ⟨by rw [← HZ.out]; omega, fun h => by rw [← HZ.out, Nat.add_sub_cancel, ← HY.out]; omega⟩⟩
            case measure => simp [intOf]; omega
    · go_wp2
      go_ret
      exact ⟨ret_bool (by rw [goesB_pos (fun j hj => HR.out j (by omega))]), rfl⟩

/-- What Check answers. -/
def chk (zs : List Int) : Int := if goesB 1 0 zs = true then (if room 40 zs < 0 then 2 else 0) else 1

set_option maxHeartbeats 1000000 in
theorem Check_any (a : Option Addr) (cap : Nat) (zs : List Int) (w : World) (hs : Shows w a zs) :
    Calls Try.prog 13 #[.slice a zs.length cap] w fun e w' => e = .returned (.int .i64 (chk zs)) ∧ w' = w := by
  have hl := hs.len
  go_enter Try.func13, Try.ntmps13
  go_wp2
  go_loop [7] (fun i => ∃ k : Nat, k ≤ zs.length ∧ i = .int .i64 k ∧ Hid (∀ j, j < k → stepOk 1 0 zs j)) (fun i => zs.length - (intOf i).toNat)
  case atStart => exact ⟨0, Nat.zero_le _, rfl, fun j hj => by omega⟩
  case round =>
    obtain ⟨k, hk, rfl, HR⟩ := hrel
    by_cases hlt : k < zs.length
    · rcases Nat.eq_zero_or_pos k with rfl | hpos
      · obtain ⟨b, off, z, rfl, HZ, hz1, hz2, hc⟩ := hs.elem hlt
        rw [Nat.add_zero] at hc
        by_cases h1 : z < 1
        · go_wp2
          go_ret
          exact ⟨ret_int (by rw [chk, goesB_neg (fun h => by have := (h 0 hlt).1; rw [← HZ.out] at this; omega)]; rfl), rfl⟩
        · go_wp2
          go_round
          case rel => exact ⟨1, by omega, by go_num, fun j hj => by obtain rfl : j = 0 := (by omega); exact ⟨by rw [← HZ.out]; omega, fun h => by omega⟩⟩
          case measure => simp [intOf]; omega
      · obtain ⟨m, rfl⟩ : ∃ m, k = m + 1 := ⟨k - 1, by omega⟩
        obtain ⟨b, off, z, y, rfl, HZ, HY, hz1, hz2, hy1, hy2, hc, hcy⟩ := hs.elem2 hlt (show m < zs.length by omega)
        by_cases h1 : z < 1
        · go_wp2
          go_ret
          exact ⟨ret_int (by rw [chk, goesB_neg (fun h => by have := (h (m + 1) hlt).1; rw [← HZ.out] at this; omega)]; rfl), rfl⟩
        · by_cases h2 : y < z
          · go_wp2
            go_ret
            exact ⟨ret_int (by rw [chk, goesB_neg (fun h => by have := (h (m + 1) hlt).2 (by omega); rw [← HZ.out, Nat.add_sub_cancel, ← HY.out] at this; omega)]; rfl), rfl⟩
          · go_wp2
            go_round
            case rel => exact ⟨m + 2, by omega, by go_num, fun j hj => by
                          by_cases hj' : j < m + 1
                          · exact HR.out j hj'
                          · obtain rfl : j = m + 1 := by omega
                            exact ⟨by rw [← HZ.out]; omega, fun h => by rw [← HZ.out, Nat.add_sub_cancel, ← HY.out]; omega⟩⟩
            case measure => simp [intOf]; omega
    · have hg : Hid (Goes 1 0 zs) := fun j hj => HR.out j (by omega)
      have h0 : Hid (∀ z ∈ zs, 0 ≤ z) := fun z hz => by
        obtain ⟨j, hj, rfl⟩ := List.getElem_of_mem hz
        have := (hg j hj).1
        simp [List.getD, List.getElem?_eq_getElem hj] at this
        omega
      have hrl := room_le zs 40 h0.out (by omega)
      by_cases hneg : room 40 zs < 0
      · go_wp2_with (go_at_call 31; refine (roomLeft_any _ _ _ _ _ hs h0.out (by omega) (by omega)).mono ?_; rintro e w' ⟨rfl, rfl⟩)
        go_ret
        exact ⟨ret_int (by rw [chk, goesB_pos hg.out]; simp [hneg]), rfl⟩
      · go_wp2_with (go_at_call 31; refine (roomLeft_any _ _ _ _ _ hs h0.out (by omega) (by omega)).mono ?_; rintro e w' ⟨rfl, rfl⟩)
        go_ret
        exact ⟨ret_int (by rw [chk, goesB_pos hg.out]; simp [hneg]), rfl⟩

#print axioms Check_any
end Go.Proofs.Ytnjbkiegeielhaa
