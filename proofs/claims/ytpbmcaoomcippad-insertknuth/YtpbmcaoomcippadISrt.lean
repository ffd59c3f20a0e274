/-
  The contracts of cmp.Compare[int], cmp.Or[int], insert.byLetters, slices.IsSortedFunc over pairs.
-/
import Derived.Test.YtpbmcaoomcippadIPrs
import Derived.Deep.RegionHeld3
namespace Go.Proofs.Ytpbmcaoomcippad
open Go.RowKit

def cmpI (x y : Int) : Int := if x < y then -1 else if x > y then 1 else 0
def ordI (c d : Int × Int) : Int := if cmpI c.1 d.1 ≠ 0 then cmpI c.1 d.1 else cmpI c.2 d.2
theorem ordI_lt (c d : Int × Int) : ordI d c < 0 ↔ ¬ Ord2 c d := by
  unfold ordI cmpI Ord2
  by_cases h1 : d.1 < c.1
  · simp only [if_pos h1]; simp; omega
  · simp only [if_neg h1]
    by_cases h2 : d.1 > c.1
    · simp only [if_pos h2]; simp; omega
    · simp only [if_neg h2]
      by_cases h3 : d.2 < c.2
      · simp [h3]; omega
      · by_cases h4 : d.2 > c.2
        · simp [h3, h4]; omega
        · simp [h3, h4]; omega
theorem cmpI_bd (x y : Int) : -1 ≤ cmpI x y ∧ cmpI x y ≤ 1 := by unfold cmpI; split <;> (try split) <;> omega

set_option maxHeartbeats 1000000 in
theorem isNaNI_at (x : Int) (w : World) : Calls Try.prog 81 #[.int .i64 x] w fun e w' => e = .returned (.bool false) ∧ w' = w := by
  have hb : (x != x) = false := by simp
  go_enter Try.func81, Try.ntmps81
  go_wp2
  go_ret
  exact ⟨rfl, rfl⟩
set_option maxHeartbeats 1000000 in
theorem CompareI_at (x y : Int) (w : World) : Calls Try.prog 74 #[.int .i64 x, .int .i64 y] w fun e w' => e = .returned (.int .i64 (cmpI x y)) ∧ w' = w := by
  by_cases h1 : x < y
  · have HC : Hid (cmpI x y = -1) := if_pos h1
    go_enter Try.func74, Try.ntmps74
    go_wp2_with fail
    refine (isNaNI_at x w).mono ?_
    rintro e w1 ⟨rfl, hw1⟩
    obtain rfl := hw1
    go_wp2_with fail
    refine (isNaNI_at y w1).mono ?_
    rintro e w2 ⟨rfl, hw2⟩
    obtain rfl := hw2
    go_wp2
    go_ret
    exact ⟨ret_int HC.out.symm, rfl⟩
  · by_cases h2 : x > y
    · have HC : Hid (cmpI x y = 1) := by show _ = _; unfold cmpI; rw [if_neg h1, if_pos h2]
      go_enter Try.func74, Try.ntmps74
      go_wp2_with fail
      refine (isNaNI_at x w).mono ?_
      rintro e w1 ⟨rfl, hw1⟩
      obtain rfl := hw1
      go_wp2_with fail
      refine (isNaNI_at y w1).mono ?_
      rintro e w2 ⟨rfl, hw2⟩
      obtain rfl := hw2
      go_wp2
      go_ret
      exact ⟨ret_int HC.out.symm, rfl⟩
    · have HC : Hid (cmpI x y = 0) := by show _ = _; unfold cmpI; rw [if_neg h1, if_neg h2]
      go_enter Try.func74, Try.ntmps74
      go_wp2_with fail
      refine (isNaNI_at x w).mono ?_
      rintro e w1 ⟨rfl, hw1⟩
      obtain rfl := hw1
      go_wp2_with fail
      refine (isNaNI_at y w1).mono ?_
      rintro e w2 ⟨rfl, hw2⟩
      obtain rfl := hw2
      go_wp2
      go_ret
      exact ⟨ret_int HC.out.symm, rfl⟩
set_option maxHeartbeats 1000000 in
theorem OrI_at (b : Nat) (x y : Int) (w : World) (hc0 : w.cell? ⟨b, 0, none⟩ = some (.int .i64 x)) (hc1 : w.cell? ⟨b, 1, none⟩ = some (.int .i64 y)) :
    Calls Try.prog 73 #[.slice (some ⟨b, 0, none⟩) 2 2] w fun e w' => e = .returned (.int .i64 (if x ≠ 0 then x else y)) ∧ w' = w := by
  have H0 : Hid (w.cell? ⟨b, 0, none⟩ = some (.int .i64 x)) := hc0
  have H1 : Hid (w.cell? ⟨b, 1, none⟩ = some (.int .i64 y)) := hc1
  clear hc0 hc1
  go_enter Try.func73, Try.ntmps73
  go_wp2
  go_loop [8] (fun q => ∃ k : Nat, k ≤ 2 ∧ q = .int .i64 k ∧ Hid (0 < k → x = 0) ∧ Hid (1 < k → y = 0)) (fun q => 2 - (intOf q).toNat)
  case atStart => exact ⟨0, by omega, rfl, fun h => by omega, fun h => by omega⟩
  case round =>
    obtain ⟨k, hk, rfl, HX, HY⟩ := hrel
    have hk3 : k = 0 ∨ k = 1 ∨ k = 2 := by omega
    rcases hk3 with rfl | rfl | rfl
    · have hc := H0.out
      by_cases hx : x = 0
      · subst hx
        go_wp2
        go_round
        case rel => exact ⟨1, by omega, rfl, by simp [Hid], by simp [Hid]⟩
        case measure => simp [intOf]
      · have hb : (x != 0) = true := bne_iff_ne.2 hx
        go_wp2
        go_ret
        exact ⟨by first | rfl | simp [hx], rfl⟩
    · have hc := H1.out
      have hx := HX.out (by omega)
      subst hx
      by_cases hy : y = 0
      · subst hy
        go_wp2
        go_round
        case rel => exact ⟨2, by omega, rfl, by simp [Hid], by simp [Hid]⟩
        case measure => simp [intOf]
      · have hb : (y != 0) = true := bne_iff_ne.2 hy
        have HC : Hid ((if (0 : Int) ≠ 0 then (0 : Int) else y) = y) := if_neg (by simp)
        go_wp2
        go_ret
        exact ⟨ret_int HC.out.symm, rfl⟩
    · have hx := HX.out (by omega)
      have hy := HY.out (by omega)
      subst hx; subst hy
      go_wp2
      go_ret
      exact ⟨rfl, rfl⟩
set_option maxHeartbeats 8000000 in
set_option maxRecDepth 100000 in
theorem byLetters_at (c d : Int × Int) (w : World) : Calls Try.prog 49 #[.agg #[.int .i64 c.1, .int .i64 c.2], .agg #[.int .i64 d.1, .int .i64 d.2]] w fun e w' => e = .returned (.int .i64 (ordI c d)) ∧ Below w.heap.size w w' := by
  obtain ⟨c1, c2⟩ := c
  obtain ⟨d1, d2⟩ := d
  simp only
  obtain ⟨w1, HW1⟩ : ∃ w1, Hid (w1 = (w.alloc (.cells #[.int .i64 c1, .int .i64 c2] 39)).alloc (.cells #[.int .i64 d1, .int .i64 d2] 39)) := ⟨_, rfl⟩
  have h10 : w1.cell? ⟨w.heap.size, 0, none⟩ = some (.int .i64 c1) := by rw [HW1.out, World.cell?_alloc_past _ _ _ (by simp), World.cell?_alloc_at _ _ _ _ rfl]; rfl
  have h11 : w1.cell? ⟨w.heap.size, 1, none⟩ = some (.int .i64 c2) := by rw [HW1.out, World.cell?_alloc_past _ _ _ (by simp), World.cell?_alloc_at _ _ _ _ rfl]; rfl
  have h20 : w1.cell? ⟨w.heap.size + 1, 0, none⟩ = some (.int .i64 d1) := by rw [HW1.out, World.cell?_alloc_at _ _ _ _ (by simp)]; rfl
  have h21 : w1.cell? ⟨w.heap.size + 1, 1, none⟩ = some (.int .i64 d2) := by rw [HW1.out, World.cell?_alloc_at _ _ _ _ (by simp)]; rfl
  have HB1 : Hid (Below w.heap.size w w1) := by rw [HW1.out]; exact ((Below.refl _ _).alloc (Nat.le_refl _) _).alloc (by simp) _
  obtain ⟨x, HX⟩ : ∃ x, Hid (x = cmpI c1 d1) := ⟨_, rfl⟩
  obtain ⟨y, HY⟩ : ∃ y, Hid (y = cmpI c2 d2) := ⟨_, rfl⟩
  have HC1 : Hid (∀ W, Calls Try.prog 74 #[.int .i64 c1, .int .i64 d1] W fun e w' => e = .returned (.int .i64 x) ∧ w' = W) := fun W => by rw [HX.out]; exact CompareI_at c1 d1 W
  have HC2 : Hid (∀ W, Calls Try.prog 74 #[.int .i64 c2, .int .i64 d2] W fun e w' => e = .returned (.int .i64 y) ∧ w' = W) := fun W => by rw [HY.out]; exact CompareI_at c2 d2 W
  obtain ⟨r, HR⟩ : ∃ r, Hid (r = ordI (c1, c2) (d1, d2)) := ⟨_, rfl⟩
  have HO : Hid (Calls Try.prog 73 #[.slice (some ⟨w1.heap.size, 0, none⟩) 2 2] (w1.alloc (.cells #[.int .i64 x, .int .i64 y] 3)).drew fun e w' => e = .returned (.int .i64 r) ∧ w' = (w1.alloc (.cells #[.int .i64 x, .int .i64 y] 3)).drew) := by
    have := OrI_at w1.heap.size x y (w1.alloc (.cells #[.int .i64 x, .int .i64 y] 3)).drew (by show (w1.alloc (.cells #[.int .i64 x, .int .i64 y] 3)).cell? _ = _; rw [World.cell?_alloc_at _ _ _ _ rfl]; rfl) (by show (w1.alloc (.cells #[.int .i64 x, .int .i64 y] 3)).cell? _ = _; rw [World.cell?_alloc_at _ _ _ _ rfl]; rfl)
    have e : (if x ≠ 0 then x else y) = r := by rw [HR.out, HX.out, HY.out]; rfl
    rw [e] at this; exact this
  have HBe : Hid (Below w.heap.size w (w1.alloc (.cells #[.int .i64 x, .int .i64 y] 3)).drew) := below_drewN (HB1.out.alloc HB1.out.size _) 1
  rw [← HR.out]
  go_enter Try.func49, Try.ntmps49
  go_wp2_with fail
  rw [← HW1.out]
  clear HX HY HR
  have hs1 : w.heap.size < w1.heap.size := by rw [HW1.out]; simp; omega
  have hs2 : w.heap.size + 1 < w1.heap.size := by rw [HW1.out]; simp
  go_region_held3 (fun W => W.cell? ⟨w.heap.size, 0, none⟩ = some (.int .i64 c1) ∧ W.cell? ⟨w.heap.size, 1, none⟩ = some (.int .i64 c2) ∧ W.cell? ⟨w.heap.size + 1, 0, none⟩ = some (.int .i64 d1) ∧ W.cell? ⟨w.heap.size + 1, 1, none⟩ = some (.int .i64 d2)) (go_keep)
    (first | (go_at_call 74; first | (with_reducible (refine (HC1.out _).mono ?_); rintro e W1 ⟨rfl, rfl⟩) | (with_reducible (refine (HC2.out _).mono ?_); rintro e W1 ⟨rfl, rfl⟩)) | (go_at_call 73; with_reducible (refine HO.out.mono ?_); rintro e W3 ⟨rfl, rfl⟩))
  all_goals (
    go_wp2
    go_ret
    exact ⟨rfl, HBe.out⟩)

end Go.Proofs.Ytpbmcaoomcippad
