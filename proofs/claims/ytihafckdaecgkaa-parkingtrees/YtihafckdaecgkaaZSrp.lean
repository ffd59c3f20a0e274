/-
  slices.SortFunc of pairs by cmp.Or over cmp.Compare: edges in order; edgeOf, inOrder.
-/
import Derived.Test.YtihafckdaecgkaaZPrs
import Derived.Test.YtihafckdaecgkaaZPru
import Derived.Deep.RegionHeld3
import Derived.Shelf.SlSortCmp.NoneTotal
namespace Go.Proofs.Ytihafckdaecgkaa
open Go.RowKit Go.Shelf Go.Sort

def cmpI (x y : Int) : Int := if x < y then -1 else if x > y then 1 else 0
def ordI (c d : Int × Int) : Int := if cmpI c.1 d.1 ≠ 0 then cmpI c.1 d.1 else cmpI c.2 d.2
theorem ordI_neg (c d : Int × Int) : ordI c d < 0 ↔ ltP c d := by
  unfold ordI cmpI ltP
  repeat' split
  all_goals omega
theorem cmpI_bd (x y : Int) : -1 ≤ cmpI x y ∧ cmpI x y ≤ 1 := by unfold cmpI; split <;> (try split) <;> omega

set_option maxHeartbeats 1000000 in
theorem isNaNI_at (x : Int) (w : World) : Calls Try.prog 43 #[.int .i64 x] w fun e w' => e = .returned (.bool false) ∧ w' = w := by
  have hb : (x != x) = false := by simp
  go_enter Try.func43, Try.ntmps43
  go_wp2
  go_ret
  exact ⟨rfl, rfl⟩
set_option maxHeartbeats 1000000 in
theorem CompareI_at (x y : Int) (w : World) : Calls Try.prog 36 #[.int .i64 x, .int .i64 y] w fun e w' => e = .returned (.int .i64 (cmpI x y)) ∧ w' = w := by
  by_cases h1 : x < y
  · have HC : Hid (cmpI x y = -1) := if_pos h1
    go_enter Try.func36, Try.ntmps36
    go_wp2_with fail
    refine (isNaNI_at x w).mono ?_
    rintro e w1 ⟨rfl, hw1⟩
    obtain rfl := hw1
    go_wp2_with fail
    refine (isNaNI_at y w1).mono ?_
    rintro e w2 ⟨rfl, hw2⟩
    obtain rfl := hw2
    go_wp2
    go_ret
    exact ⟨ret_int HC.out.symm, rfl⟩
  · by_cases h2 : x > y
    · have HC : Hid (cmpI x y = 1) := by show _ = _; unfold cmpI; rw [if_neg h1, if_pos h2]
      go_enter Try.func36, Try.ntmps36
      go_wp2_with fail
      refine (isNaNI_at x w).mono ?_
      rintro e w1 ⟨rfl, hw1⟩
      obtain rfl := hw1
      go_wp2_with fail
      refine (isNaNI_at y w1).mono ?_
      rintro e w2 ⟨rfl, hw2⟩
      obtain rfl := hw2
      go_wp2
      go_ret
      exact ⟨ret_int HC.out.symm, rfl⟩
    · have HC : Hid (cmpI x y = 0) := by show _ = _; unfold cmpI; rw [if_neg h1, if_neg h2]
      go_enter Try.func36, Try.ntmps36
      go_wp2_with fail
      refine (isNaNI_at x w).mono ?_
      rintro e w1 ⟨rfl, hw1⟩
      obtain rfl := hw1
      go_wp2_with fail
      refine (isNaNI_at y w1).mono ?_
      rintro e w2 ⟨rfl, hw2⟩
      obtain rfl := hw2
      go_wp2
      go_ret
      exact ⟨ret_int HC.out.symm, rfl⟩
set_option maxHeartbeats 1000000 in
theorem OrI_at (b : Nat) (x y : Int) (w : World) (hc0 : w.cell? ⟨b, 0, none⟩ = some (.int .i64 x)) (hc1 : w.cell? ⟨b, 1, none⟩ = some (.int .i64 y)) :
    Calls Try.prog 35 #[.slice (some ⟨b, 0, none⟩) 2 2] w fun e w' => e = .returned (.int .i64 (if x ≠ 0 then x else y)) ∧ w' = w := by
  have H0 : Hid (w.cell? ⟨b, 0, none⟩ = some (.int .i64 x)) := hc0
  have H1 : Hid (w.cell? ⟨b, 1, none⟩ = some (.int .i64 y)) := hc1
  clear hc0 hc1
  go_enter Try.func35, Try.ntmps35
  go_wp2
  go_loop [8] (fun q => ∃ k : Nat, k ≤ 2 ∧ q = .int .i64 k ∧ Hid (0 < k → x = 0) ∧ Hid (1 < k → y = 0)) (fun q => 2 - (intOf q).toNat)
  case atStart => exact ⟨0, by omega, rfl, fun h => by omega, fun h => by omega⟩
  case round =>
    obtain ⟨k, hk, rfl, HX, HY⟩ := hrel
    have hk3 : k = 0 ∨ k = 1 ∨ k = 2 := by omega
    rcases hk3 with rfl | rfl | rfl
    · have hc := H0.out
      by_cases hx : x = 0
      · subst hx
        go_wp2
        go_round
        case rel => exact ⟨1, by omega, rfl, by simp [Hid], by simp [Hid]⟩
        case measure => simp [intOf]
      · have hb : (x != 0) = true := bne_iff_ne.2 hx
        go_wp2
        go_ret
        exact ⟨by first | rfl | simp [hx], rfl⟩
    · have hc := H1.out
      have hx := HX.out (by omega)
      subst hx
      by_cases hy : y = 0
      · subst hy
        go_wp2
        go_round
        case rel => exact ⟨2, by omega, rfl, by simp [Hid], by simp [Hid]⟩
        case measure => simp [intOf]
      · have hb : (y != 0) = true := bne_iff_ne.2 hy
        have HC : Hid ((if (0 : Int) ≠ 0 then (0 : Int) else y) = y) := if_neg (by simp)
        go_wp2
        go_ret
        exact ⟨ret_int HC.out.symm, rfl⟩
    · have hx := HX.out (by omega)
      have hy := HY.out (by omega)
      subst hx; subst hy
      go_wp2
      go_ret
      exact ⟨rfl, rfl⟩
theorem three_grow (w : World) (o1 o2 o3 : Array Value) (t1 t2 t3 : TypeId) : ∃ q os, ((((w.alloc (.cells o1 t1)).alloc (.cells o2 t2)).alloc (.cells o3 t3)).drew) = grow (w.drewN q) os := by
  refine ⟨1, #[.cells o1 t1, .cells o2 t2, .cells o3 t3], ?_⟩
  unfold grow World.alloc World.drew World.drewN
  simp
  exact Array.ext' (by simp)
set_option maxHeartbeats 8000000 in
set_option maxRecDepth 100000 in
theorem pkOrder1_at (c d : Int × Int) (w : World) : Calls Try.prog 34 #[.agg #[.int .i64 c.1, .int .i64 c.2], .agg #[.int .i64 d.1, .int .i64 d.2]] w fun e w' => e = .returned (.int .i64 (ordI c d)) ∧ ∃ q os, w' = grow (w.drewN q) os := by
  obtain ⟨c1, c2⟩ := c
  obtain ⟨d1, d2⟩ := d
  simp only
  obtain ⟨w1, HW1⟩ : ∃ w1, Hid (w1 = (w.alloc (.cells #[.int .i64 c1, .int .i64 c2] 34)).alloc (.cells #[.int .i64 d1, .int .i64 d2] 34)) := ⟨_, rfl⟩
  have h10 : w1.cell? ⟨w.heap.size, 0, none⟩ = some (.int .i64 c1) := by rw [HW1.out, World.cell?_alloc_past _ _ _ (by simp), World.cell?_alloc_at _ _ _ _ rfl]; rfl
  have h11 : w1.cell? ⟨w.heap.size, 1, none⟩ = some (.int .i64 c2) := by rw [HW1.out, World.cell?_alloc_past _ _ _ (by simp), World.cell?_alloc_at _ _ _ _ rfl]; rfl
  have h20 : w1.cell? ⟨w.heap.size + 1, 0, none⟩ = some (.int .i64 d1) := by rw [HW1.out, World.cell?_alloc_at _ _ _ _ (by simp)]; rfl
  have h21 : w1.cell? ⟨w.heap.size + 1, 1, none⟩ = some (.int .i64 d2) := by rw [HW1.out, World.cell?_alloc_at _ _ _ _ (by simp)]; rfl
  obtain ⟨x, HX⟩ : ∃ x, Hid (x = cmpI c1 d1) := ⟨_, rfl⟩
  obtain ⟨y, HY⟩ : ∃ y, Hid (y = cmpI c2 d2) := ⟨_, rfl⟩
  have HC1 : Hid (∀ W, Calls Try.prog 36 #[.int .i64 c1, .int .i64 d1] W fun e w' => e = .returned (.int .i64 x) ∧ w' = W) := fun W => by rw [HX.out]; exact CompareI_at c1 d1 W
  have HC2 : Hid (∀ W, Calls Try.prog 36 #[.int .i64 c2, .int .i64 d2] W fun e w' => e = .returned (.int .i64 y) ∧ w' = W) := fun W => by rw [HY.out]; exact CompareI_at c2 d2 W
  obtain ⟨r, HR⟩ : ∃ r, Hid (r = ordI (c1, c2) (d1, d2)) := ⟨_, rfl⟩
  have HO : Hid (Calls Try.prog 35 #[.slice (some ⟨w1.heap.size, 0, none⟩) 2 2] (w1.alloc (.cells #[.int .i64 x, .int .i64 y] 3)).drew fun e w' => e = .returned (.int .i64 r) ∧ w' = (w1.alloc (.cells #[.int .i64 x, .int .i64 y] 3)).drew) := by
    have := OrI_at w1.heap.size x y (w1.alloc (.cells #[.int .i64 x, .int .i64 y] 3)).drew (by show (w1.alloc (.cells #[.int .i64 x, .int .i64 y] 3)).cell? _ = _; rw [World.cell?_alloc_at _ _ _ _ rfl]; rfl) (by show (w1.alloc (.cells #[.int .i64 x, .int .i64 y] 3)).cell? _ = _; rw [World.cell?_alloc_at _ _ _ _ rfl]; rfl)
    have e : (if x ≠ 0 then x else y) = r := by rw [HR.out, HX.out, HY.out]; rfl
    rw [e] at this; exact this
  have HG : Hid (∃ q os, (w1.alloc (.cells #[.int .i64 x, .int .i64 y] 3)).drew = grow (w.drewN q) os) := by rw [HW1.out]; exact three_grow _ _ _ _ _ _ _
  rw [← HR.out]
  go_enter Try.func34, Try.ntmps34
  go_wp2_with fail
  rw [← HW1.out]
  clear HX HY HR
  have hs1 : w.heap.size < w1.heap.size := by rw [HW1.out]; simp; omega
  have hs2 : w.heap.size + 1 < w1.heap.size := by rw [HW1.out]; simp
  go_region_held3 (fun W => W.cell? ⟨w.heap.size, 0, none⟩ = some (.int .i64 c1) ∧ W.cell? ⟨w.heap.size, 1, none⟩ = some (.int .i64 c2) ∧ W.cell? ⟨w.heap.size + 1, 0, none⟩ = some (.int .i64 d1) ∧ W.cell? ⟨w.heap.size + 1, 1, none⟩ = some (.int .i64 d2)) (go_keep)
    (first | (go_at_call 36; first | (with_reducible (refine (HC1.out _).mono ?_); rintro e W1 ⟨rfl, rfl⟩) | (with_reducible (refine (HC2.out _).mono ?_); rintro e W1 ⟨rfl, rfl⟩)) | (go_at_call 35; with_reducible (refine HO.out.mono ?_); rintro e W3 ⟨rfl, rfl⟩))
  all_goals (
    go_wp2
    go_ret
    exact ⟨rfl, HG.out⟩)


theorem sortK_other {w : World} {g m k : Nat} {F : Array Value} {os : Array Obj} (hk : k < w.heap.size) (hne : k ≠ g) : (sortWorld id w g 0 m F os).heap[k]? = w.heap[k]? := by
  unfold sortWorld
  rw [heap_grow_old _ _ (by rw [size_putRow]; exact hk)]
  unfold putRow mapBlock
  simp only [Array.getElem?_modify]
  rw [if_neg (fun e => hne e.symm)]
  rfl
theorem sortK_block {w : World} {g m : Nat} {F : Array Value} {os : Array Obj} {c : Array Value} {ty : TypeId} {fr : Nat × Nat} (h : w.heap[g]? = some (.cells c ty fr)) : (sortWorld id w g 0 m F os).heap[g]? = some (.cells (putCells id 0 F c) ty fr) := by
  have hk : g < w.heap.size := (Array.getElem?_eq_some_iff.1 h).1
  unfold sortWorld
  rw [heap_grow_old _ _ (by rw [size_putRow]; exact hk)]
  unfold putRow mapBlock
  have e : (Go.Sort.ahead w m).heap[g]? = some (.cells c ty fr) := h
  simp only [Array.getElem?_modify]
  rw [if_pos trivial, e]
  rfl
theorem sortK_below {w : World} {g m lo : Nat} {F : Array Value} {os : Array Obj} (hg : lo ≤ g) (hlo : lo ≤ w.heap.size) : Below lo w (sortWorld id w g 0 m F os) := by
  refine ⟨rfl, rfl, rfl, ?_, fun k hk => sortK_other (by omega) (by omega)⟩
  unfold sortWorld
  rw [size_grow, size_putRow]
  exact Nat.le_add_right _ _
theorem sortK_size {w : World} {g m : Nat} {F : Array Value} {os : Array Obj} : w.heap.size ≤ (sortWorld id w g 0 m F os).heap.size := by
  unfold sortWorld
  rw [size_grow, size_putRow]
  exact Nat.le_add_right _ _
theorem putK_take {F c : Array Value} (h : F.size ≤ c.size) : (putCells id 0 F c).toList.take F.size = F.toList := by
  refine List.ext_getElem (by simp [putCells]; omega) (fun i h1 h2 => ?_)
  have hi : i < F.size := by simpa using h2
  simp [putCells, hi, getElem!_pos]


end Go.Proofs.Ytihafckdaecgkaa
