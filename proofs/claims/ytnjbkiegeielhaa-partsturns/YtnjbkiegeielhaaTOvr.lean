/-
  The contract of ferref.Over.
-/
import Derived.Test.YtnjbkiegeielhaaTPts
namespace Go.Proofs.Ytnjbkiegeielhaa
open Go.RowKit

/-- The first numbers together, at most as many as there are. -/
theorem pre_min (zs : List Int) (k : Nat) : pre zs k = sum (zs.take (if (zs.length : Int) < (k : Int) then zs.length else k)) := by
  unfold pre
  by_cases h : (zs.length : Int) < (k : Int)
  · rw [if_pos h, List.take_of_length_le (by omega), List.take_of_length_le (Nat.le_refl _)]
  · rw [if_neg h]

theorem over_iff {xs ys : List Int} (h : sum xs = sum ys) : domB xs ys = true ↔ ∀ k, k ≤ xs.length + ys.length → pre ys k ≤ pre xs k := by
  rw [domB_iff h]
  constructor
  · intro hd k _; exact hd k
  · intro hd k
    by_cases hk : k ≤ xs.length + ys.length
    · exact hd k hk
    · rw [pre_all ys (by omega), pre_all xs (by omega), h]; exact Int.le_refl _

set_option maxHeartbeats 40000000 in
theorem Over_ok (a b : Option Addr) (ca cb : Nat) (xs ys : List Int) (t : Bool) (w : World) (hs : Shows w a xs) (ht : Shows w b ys) (hca : xs.length ≤ ca) (hcb : ys.length ≤ cb) (hx : IsPart xs) (hy : IsPart ys) (hsum : sum xs = sum ys) (hT : t = domB xs ys) :
    Calls Try.prog 20 #[.slice a xs.length ca, .slice b ys.length cb] w fun e w' => e = .returned (.bool t) ∧ ∃ n, w' = w.drewN n := by
  have HT : Hid (t = true ↔ ∀ k, k ≤ xs.length + ys.length → pre ys k ≤ pre xs k) := by show _ ↔ _; rw [hT]; exact over_iff hsum
  have hl1 := hx.len
  have hl2 := hy.len
  have HXW : Hid (∀ z ∈ xs, 0 ≤ z ∧ z ≤ 1000) := fun z hz => by have := hx.range z hz; omega
  have HYW : Hid (∀ z ∈ ys, 0 ≤ z ∧ z ≤ 1000) := fun z hz => by have := hy.range z hz; omega
  clear hx hy hsum hT
  go_enter Try.func20, Try.ntmps20
  go_wp2
  go_loopw [5] (fun i wr => ∃ k : Nat, k ≤ xs.length + ys.length + 1 ∧ i = .int .i64 k ∧ Hid (∀ j, j < k → pre ys j ≤ pre xs j) ∧ ∃ n, wr = w.drewN n) (fun i _ => xs.length + ys.length + 1 - (intOf i).toNat)
  case atStart => exact ⟨0, by omega, rfl, fun j hj => by omega, 0, rfl⟩
  case round =>
    obtain ⟨k, hk, rfl, HR, n0, rfl⟩ := hrel
    by_cases hlt : k ≤ xs.length + ys.length
    · have hle : decide ((k : Int) ≤ (xs.length : Int) + (ys.length : Int)) = true := by simp; omega
      have hle' : (k : Int) ≤ (xs.length : Int) + (ys.length : Int) := by omega
      have HB0 : Hid (Below w.heap.size w (w.drewN (n0 + 1))) := below_drewN (Below.refl _ _) _
      obtain ⟨X, HX⟩ : ∃ X, Hid (X = pre xs k) := ⟨_, rfl⟩
      obtain ⟨Y, HY⟩ : ∃ Y, Hid (Y = pre ys k) := ⟨_, rfl⟩
      have HXY : Hid ((decide (X < Y) = true ∧ t = false) ∨ (decide (X < Y) = false ∧ Y ≤ X)) := by
        by_cases hxy : X < Y
        · refine Or.inl ⟨by simpa using hxy, ?_⟩
          cases t with
          | false => rfl
          | true => have := HT.out.1 rfl k hlt; rw [← HX.out, ← HY.out] at this; omega
        · exact Or.inr ⟨by simpa using hxy, by omega⟩
      by_cases hA : (xs.length : Int) < (k : Int)
      · by_cases hB : (ys.length : Int) < (k : Int)
        · have HSX : Hid (∀ W, Below w.heap.size w W → Calls Try.prog 19 #[.slice a xs.length ca] W fun e w' => e = .returned (.int .i64 X) ∧ w' = W) := fun W hW => Size_at _ _ _ (xs.take xs.length) _ ((hs.below hW).take xs.length) (fun z hz => HXW.out z (List.mem_of_mem_take hz)) (by simp) _ (by rw [HX.out]; rw [pre_all xs (by omega), List.take_of_length_le (Nat.le_refl _)])
          have HSY : Hid (∀ W, Below w.heap.size w W → Calls Try.prog 19 #[.slice b ys.length cb] W fun e w' => e = .returned (.int .i64 Y) ∧ w' = W) := fun W hW => Size_at _ _ _ (ys.take ys.length) _ ((ht.below hW).take ys.length) (fun z hz => HYW.out z (List.mem_of_mem_take hz)) (by simp) _ (by rw [HY.out]; rw [pre_all ys (by omega), List.take_of_length_le (Nat.le_refl _)])
          have bp : xs.length ≤ ca := by omega
          have bq : ys.length ≤ cb := by omega
          go_wp2_with fail
          go_region_with (go_at_call 19; first | (with_reducible (refine (HSX.out _ HB0.out).mono ?_); rintro e W1 ⟨rfl, rfl⟩) | (with_reducible (refine (HSY.out _ HB0.out).mono ?_); rintro e W1 ⟨rfl, rfl⟩))
          all_goals (
            rcases HXY.out with ⟨hb, HF⟩ | ⟨hb, HE⟩
            · obtain rfl := HF
              rw [hb]
              go_wp2
              go_ret
              exact ⟨rfl, _, rfl⟩
            · rw [hb]
              go_wp2
              go_roundw
              case rel => exact ⟨k + 1, by omega, by go_num, fun j hj => by
                            by_cases hj' : j < k
                            · exact HR.out j hj'
                            · obtain rfl : j = k := by omega
                              rw [← HX.out, ← HY.out]; exact HE, _, rfl⟩
              case measure => simp [intOf]; omega)
        · have HSX : Hid (∀ W, Below w.heap.size w W → Calls Try.prog 19 #[.slice a xs.length ca] W fun e w' => e = .returned (.int .i64 X) ∧ w' = W) := fun W hW => Size_at _ _ _ (xs.take xs.length) _ ((hs.below hW).take xs.length) (fun z hz => HXW.out z (List.mem_of_mem_take hz)) (by simp) _ (by rw [HX.out]; rw [pre_all xs (by omega), List.take_of_length_le (Nat.le_refl _)])
          have HSY : Hid (∀ W, Below w.heap.size w W → Calls Try.prog 19 #[.slice b k cb] W fun e w' => e = .returned (.int .i64 Y) ∧ w' = W) := fun W hW => Size_at _ _ _ (ys.take k) _ ((ht.below hW).take k) (fun z hz => HYW.out z (List.mem_of_mem_take hz)) (by simp; omega) _ (by rw [HY.out]; unfold pre; rfl)
          have bp : xs.length ≤ ca := by omega
          have bq : k ≤ cb := by omega
          go_wp2_with fail
          go_region_with (go_at_call 19; first | (with_reducible (refine (HSX.out _ HB0.out).mono ?_); rintro e W1 ⟨rfl, rfl⟩) | (with_reducible (refine (HSY.out _ HB0.out).mono ?_); rintro e W1 ⟨rfl, rfl⟩))
          all_goals (
            rcases HXY.out with ⟨hb, HF⟩ | ⟨hb, HE⟩
            · obtain rfl := HF
              rw [hb]
              go_wp2
              go_ret
              exact ⟨rfl, _, rfl⟩
            · rw [hb]
              go_wp2
              go_roundw
              case rel => exact ⟨k + 1, by omega, by go_num, fun j hj => by
                            by_cases hj' : j < k
                            · exact HR.out j hj'
                            · obtain rfl : j = k := by omega
                              rw [← HX.out, ← HY.out]; exact HE, _, rfl⟩
              case measure => simp [intOf]; omega)
      · by_cases hB : (ys.length : Int) < (k : Int)
        · have HSX : Hid (∀ W, Below w.heap.size w W → Calls Try.prog 19 #[.slice a k ca] W fun e w' => e = .returned (.int .i64 X) ∧ w' = W) := fun W hW => Size_at _ _ _ (xs.take k) _ ((hs.below hW).take k) (fun z hz => HXW.out z (List.mem_of_mem_take hz)) (by simp; omega) _ (by rw [HX.out]; unfold pre; rfl)
          have HSY : Hid (∀ W, Below w.heap.size w W → Calls Try.prog 19 #[.slice b ys.length cb] W fun e w' => e = .returned (.int .i64 Y) ∧ w' = W) := fun W hW => Size_at _ _ _ (ys.take ys.length) _ ((ht.below hW).take ys.length) (fun z hz => HYW.out z (List.mem_of_mem_take hz)) (by simp) _ (by rw [HY.out]; rw [pre_all ys (by omega), List.take_of_length_le (Nat.le_refl _)])
          have bp : k ≤ ca := by omega
          have bq : ys.length ≤ cb := by omega
          go_wp2_with fail
          go_region_with (go_at_call 19; first | (with_reducible (refine (HSX.out _ HB0.out).mono ?_); rintro e W1 ⟨rfl, rfl⟩) | (with_reducible (refine (HSY.out _ HB0.out).mono ?_); rintro e W1 ⟨rfl, rfl⟩))
          all_goals (
            rcases HXY.out with ⟨hb, HF⟩ | ⟨hb, HE⟩
            · obtain rfl := HF
              rw [hb]
              go_wp2
              go_ret
              exact ⟨rfl, _, rfl⟩
            · rw [hb]
              go_wp2
              go_roundw
              case rel => exact ⟨k + 1, by omega, by go_num, fun j hj => by
                            by_cases hj' : j < k
                            · exact HR.out j hj'
                            · obtain rfl : j = k := by omega
                              rw [← HX.out, ← HY.out]; exact HE, _, rfl⟩
              case measure => simp [intOf]; omega)
        · have HSX : Hid (∀ W, Below w.heap.size w W → Calls Try.prog 19 #[.slice a k ca] W fun e w' => e = .returned (.int .i64 X) ∧ w' = W) := fun W hW => Size_at _ _ _ (xs.take k) _ ((hs.below hW).take k) (fun z hz => HXW.out z (List.mem_of_mem_take hz)) (by simp; omega) _ (by rw [HX.out]; unfold pre; rfl)
          have HSY : Hid (∀ W, Below w.heap.size w W → Calls Try.prog 19 #[.slice b k cb] W fun e w' => e = .returned (.int .i64 Y) ∧ w' = W) := fun W hW => Size_at _ _ _ (ys.take k) _ ((ht.below hW).take k) (fun z hz => HYW.out z (List.mem_of_mem_take hz)) (by simp; omega) _ (by rw [HY.out]; unfold pre; rfl)
          have bp : k ≤ ca := by omega
          have bq : k ≤ cb := by omega
          go_wp2_with fail
          go_region_with (go_at_call 19; first | (with_reducible (refine (HSX.out _ HB0.out).mono ?_); rintro e W1 ⟨rfl, rfl⟩) | (with_reducible (refine (HSY.out _ HB0.out).mono ?_); rintro e W1 ⟨rfl, rfl⟩))
          all_goals (
            rcases HXY.out with ⟨hb, HF⟩ | ⟨hb, HE⟩
            · obtain rfl := HF
              rw [hb]
              go_wp2
              go_ret
              exact ⟨rfl, _, rfl⟩
            · rw [hb]
              go_wp2
              go_roundw
              case rel => exact ⟨k + 1, by omega, by go_num, fun j hj => by
                            by_cases hj' : j < k
                            · exact HR.out j hj'
                            · obtain rfl : j = k := by omega
                              rw [← HX.out, ← HY.out]; exact HE, _, rfl⟩
              case measure => simp [intOf]; omega)
    · have hle : decide ((k : Int) ≤ (xs.length : Int) + (ys.length : Int)) = false := by simp; omega
      have HF : Hid (t = true) := HT.out.2 (fun j hj => HR.out j (by omega))
      obtain rfl := HF.out
      go_wp2
      go_ret
      exact ⟨rfl, n0, rfl⟩

end Go.Proofs.Ytnjbkiegeielhaa
