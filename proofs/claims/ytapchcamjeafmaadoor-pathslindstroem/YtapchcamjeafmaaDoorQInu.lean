/-
  slices.Insert of one number, ahead of the end, without room.
-/
import Derived.Test.YtapchcamjeafmaaDoorQIns
namespace Go.Proofs.YtapchcamjeafmaaDoor
open Go.RowKit

theorem grow_ints {l : List Int} {n i G : Nat} (x : Value) (hn : n = l.length) (hi : i < n) (hG : n + 1 ≤ G) (Z : List Value) (hZ : (vi (l.take i) ++ Z).length = G) (R : List Value)
    (hR : R = (vi (l.take i) ++ Z).take i ++ [x] ++ (vi (l.take i) ++ Z).drop (i + 1)) :
    (R.take ((i + 1)) ++ vi (l.drop i) ++ R.drop ((i + 1) + (vi (l.drop i)).length)).take ((n + 1)) = vi (l.take i) ++ [x] ++ vi (l.drop i) ∧ R.length = G := by
  have hd : (vi (l.drop i)).length = (n - i) := by rw [vi_length, List.length_drop, hn]
  have e3 : (vi (l.take i)).length = i := by rw [vi_length, List.length_take]; omega
  have hRl : R.length = G := by
    rw [hR]; simp only [List.length_append, List.length_take, List.length_drop, List.length_cons, List.length_nil] at hZ ⊢; omega
  refine ⟨?_, hRl⟩
  have h1 : R.take ((i + 1)) = vi (l.take i) ++ [x] := by
    have e4 : (vi (l.take i) ++ Z).take i = vi (l.take i) := by rw [List.take_append_of_le_length (by omega), List.take_of_length_le (by omega)]
    rw [hR, e4, List.take_append_of_le_length (by simp only [List.length_append, List.length_cons, List.length_nil, e3]; omega), List.take_of_length_le (by simp only [List.length_append, List.length_cons, List.length_nil, e3]; omega)]
  rw [h1, List.take_append_of_le_length (by simp only [List.length_append, List.length_cons, List.length_nil, e3, hd]; omega), List.take_of_length_le (by simp only [List.length_append, List.length_cons, List.length_nil, e3, hd]; omega)]

set_option maxHeartbeats 8000000 in
set_option maxRecDepth 100000 in
theorem InsI_grow (g n cap i base N : Nat) (x : Int) (l : List Int) (w : World) (hO : Owns w base (.slice (some ⟨g, 0, none⟩) n cap) l) (hn : n = l.length) (hi : i < n) (hroom : cap < n + 1) (h40 : n ≤ 40) (hN : N = w.heap.size) (hbs : base ≤ w.heap.size) :
    Calls Tryd.prog 14 #[.slice (some ⟨g, 0, none⟩) n cap, .int .i64 (i : Int), .slice (some ⟨N, 0, none⟩) 1 1] (w.alloc (.cells #[.int .i64 x] 3)) fun e w' => ∃ v', e = .returned v' ∧ Hid (Owns w' base v' (l.take i ++ x :: l.drop i)) ∧ Hid (Below base w w') := by
  have hown : w.ownsRow base 3 1 (.slice (some ⟨g, 0, none⟩) n cap) l.length (vi l) := hO
  obtain ⟨hbg, cur, hcur, hcs, hcap, -, -⟩ := hO.block hn
  have hcells : ∀ j, j < n → w.cell? ⟨g, j, none⟩ = (vi l)[j]? := fun j hj => by
    rw [← hn] at hown
    exact World.ownsRow.cellAt hown j (by omega)
  have hgw : g < w.heap.size := (Array.getElem?_eq_some_iff.1 hcur).1
  obtain ⟨i1, hi1⟩ : ∃ i1 : Nat, i1 = i + 1 := ⟨_, rfl⟩
  obtain ⟨n1, hn1⟩ : ∃ n1 : Nat, n1 = n + 1 := ⟨_, rfl⟩
  obtain ⟨k, hk⟩ : ∃ k : Nat, k = n1 - i := ⟨_, rfl⟩
  have hii : (i : Int) + 1 = (i1 : Int) := by omega
  have hnn : (n : Int) + 1 = (n1 : Int) := by omega
  have hkk : (n1 : Int) - (i : Int) = (k : Int) := by omega
  have hik : i + k = n1 := by omega
  obtain ⟨W0, HW0⟩ : ∃ W0, Hid (W0 = w.alloc (.cells #[.int .i64 x] 3)) := ⟨_, rfl⟩
  have hB0 : Below w.heap.size w W0 := by rw [HW0.out]; exact (Below.refl _ _).alloc (Nat.le_refl _) _
  have hnew : W0.heap[N]? = some (.cells #[.int .i64 x] 3 (0, 0)) := by rw [HW0.out, hN]; exact heap_alloc_new _ _
  have hNs : N < W0.heap.size := (Array.getElem?_eq_some_iff.1 hnew).1
  have hgs : g < W0.heap.size := Nat.lt_of_lt_of_le hgw hB0.size
  have hcells0 : ∀ j, j < n → W0.cell? ⟨g, j, none⟩ = (vi l)[j]? := fun j hj => (hB0.cell (p := ⟨g, j, none⟩) hgw).trans (hcells j hj)
  have hpl : vi l = vi (l.take i) ++ vi (l.drop i) := by rw [← vi_app, List.take_append_drop]
  have e3 : (vi (l.take i)).length = i := by rw [vi_length, List.length_take]; omega
  have hdl : (vi (l.drop i)).length = (n - i) := by rw [vi_length, List.length_drop, hn]
  obtain ⟨i0, hi0, hz0, hz1, hz2⟩ := info_parts Tryd.info3
  have hold : (Builtin.firstCells i0.size i (.slice (some ⟨g, 0, none⟩) i cap)).run Tryd.prog W0.drew = .ok (vi (l.take i)).toArray W0.drew := by
    rw [hz1]
    exact run_firstCells_some W0.drew 1 i ⟨g, 0, none⟩ i cap (vi (l.take i)) (by rw [e3]; omega) (fun j v hj => by
      have hj' := (List.getElem?_eq_some_iff.1 hj).1
      rw [Addr.add_lit, Nat.zero_add]
      refine (hcells0 j (by omega)).trans ?_
      rw [hpl, List.getElem?_append_left hj']; exact hj)
  obtain ⟨G, hG⟩ : ∃ G, G = grownCap W0 n1 cap 3 := ⟨_, rfl⟩
  obtain ⟨ROW, hROW⟩ : ∃ ROW : Array Value, ROW = (vi (l.take i)).toArray ++ Builtin.zeroCells (Value.int .i64 0).cells k ++ Builtin.zeroCells (Value.int .i64 0).cells (G - n1) := ⟨_, rfl⟩
  have hrz : ∀ ty, (Builtin.append_ #[36, 3] ty #[.slice (some ⟨g, 0, none⟩) i cap, .int .i64 (k : Int)]).run Tryd.prog W0 = .ok (.slice (some ⟨W0.heap.size, 0, none⟩) n1 G) (W0.drew.alloc (.cells ROW 3)) := fun ty => by
    have h := Lib.run_append_grow_zeros W0 36 3 ty 3 i0 _ .i64 .i64 Tryd.underlying36 Tryd.underlying3 hi0 hz0 (some ⟨g, 0, none⟩) i cap (vi (l.take i)) hold k (by omega) (by omega) (by omega) (by omega) (by rw [hz2]; omega) (by rw [hz2, hik]; exact growslice_fits (by omega) (by omega))
    rw [hik, ← hG, ← hROW] at h
    exact h
  have hGn : n1 ≤ G := by rw [hG]; exact grownCap_ge W0 _ _ _
  have hGM : G ≤ maxLen := by
    have := grownCap_le_maxLen W0 n1 cap 3 (by unfold maxLen; omega)
    rw [← hG] at this
    exact this
  have hRs : ROW.size = G := by
    rw [hROW]
    simp [Builtin.zeroCells, Value.cells, e3]
    omega
  obtain ⟨Z, hZ⟩ : ∃ Z : List Value, ROW.toList = vi (l.take i) ++ Z := ⟨(Builtin.zeroCells (Value.int .i64 0).cells k).toList ++ (Builtin.zeroCells (Value.int .i64 0).cells (G - n1)).toList, by rw [hROW]; simp⟩
  obtain ⟨B, hB⟩ : ∃ B : Nat, B = W0.heap.size := ⟨_, rfl⟩
  obtain ⟨W1, hW1⟩ : ∃ W1, W1 = W0.drew.alloc (.cells ROW 3) := ⟨_, rfl⟩
  rw [← hW1, ← hB] at hrz
  have hB1 : Below W0.heap.size W0 W1 := by rw [hW1]; exact (below_drewN (Below.refl W0.heap.size W0) 1).alloc (Nat.le_refl _) _
  have hrowW1 : W1.heap[B]? = some (.cells ROW 3 (0, 0)) := by rw [hW1, hB]; exact heap_alloc_new W0.drew _
  have hnewW1 : W1.heap[N]? = some (.cells #[.int .i64 x] 3 (0, 0)) := (hB1.block N hNs).trans hnew
  have hcells1 : ∀ j, j < n → W1.cell? ⟨g, j, none⟩ = (vi l)[j]? := fun j hj => (hB1.cell (p := ⟨g, j, none⟩) hgs).trans (hcells0 j hj)
  obtain ⟨R, hR⟩ : ∃ R : List Value, R = ROW.toList.take i ++ [Value.int .i64 x] ++ ROW.toList.drop (i + 1) := ⟨_, rfl⟩
  have hZl : (vi (l.take i) ++ Z).length = G := by rw [← hZ, Array.length_toList, hRs]
  obtain ⟨hgc, hRl⟩ := grow_ints (.int .i64 x) hn hi (by omega) Z hZl R (by rw [hR, hZ])
  have hcp1 : ∀ ty dc, (Builtin.copy_ #[36, 36] ty #[.slice (some ⟨B, i, none⟩) (n1 - i) dc, .slice (some ⟨N, 0, none⟩) 1 1]).run Tryd.prog W1 = .ok (goInt 1) (W1.setRow B R.toArray) := fun ty dc => by
    have h := run_copy_ints W1 ty B i (n1 - i) dc ⟨N, 0, none⟩ 1 1 ROW [.int .i64 x] 1 hrowW1 (by simp only [Nat.min_def]; split <;> omega) rfl (fun j v hj => by
      rw [Addr.add_lit, cell_of_row W1 N _ _ _ _ hnewW1, Nat.zero_add]
      simpa using hj) (by simp [hRs]; omega) (fun u hu => by simp at hu; subst hu; rfl)
    rw [hR]
    simpa using h
  obtain ⟨W2, hW2⟩ : ∃ W2, W2 = W1.setRow B R.toArray := ⟨_, rfl⟩
  have hrowW2 : W2.heap[B]? = some (.cells R.toArray 3 (0, 0)) := by rw [hW2]; exact setRow_heap W1 B ROW _ _ _ hrowW1
  have hBg : g ≠ B := by omega
  have hcells2 : ∀ j, j < n → W2.cell? ⟨g, j, none⟩ = (vi l)[j]? := fun j hj => by
    rw [← hcells1 j hj, hW2]
    unfold World.cell?
    rw [setRow_other _ _ _ _ hBg]
  have hcp2 : ∀ ty dc sc, (Builtin.copy_ #[36, 36] ty #[.slice (some ⟨B, i1, none⟩) (n1 - i1) dc, .slice (some ⟨g, i, none⟩) (n - i) sc]).run Tryd.prog W2.drew = .ok (goInt ((n - i : Nat) : Int)) (W2.drew.setRow B (R.take ((i + 1)) ++ vi (l.drop i) ++ R.drop ((i + 1) + (vi (l.drop i)).length)).toArray) := fun ty dc sc => by
    have h := run_copy_ints W2.drew ty B i1 (n1 - i1) dc ⟨g, i, none⟩ (n - i) sc R.toArray (vi (l.drop i)) (n - i) hrowW2 (by simp only [Nat.min_def]; split <;> omega) hdl (fun j v hj => by
      have hj' : j < (vi (l.drop i)).length := (List.getElem?_eq_some_iff.1 hj).1
      rw [Addr.add_lit]
      refine (hcells2 (i + j) (by omega)).trans ?_
      rw [hpl, List.getElem?_append_right (by omega), e3, show i + j - i = j by omega]
      exact hj) (by rw [hdl]; simp [hRl]; omega) (vi_one _)
    rw [h, hi1]
  obtain ⟨W3, hW3⟩ : ∃ W3, W3 = W2.drew.setRow B (R.take ((i + 1)) ++ vi (l.drop i) ++ R.drop ((i + 1) + (vi (l.drop i)).length)).toArray := ⟨_, rfl⟩
  rw [← hW2] at hcp1
  rw [← hW3] at hcp2
  have HFin : Hid (Owns W3 base (.slice (some ⟨B, 0, none⟩) n1 G) (l.take i ++ x :: l.drop i)) := by
    have hll : (l.take i ++ x :: l.drop i).length = n1 := by simp; omega
    refine ⟨by simp, Or.inr ⟨B, G, _, by rw [hll], by have := hB0.size; omega, by rw [hW3]; exact setRow_heap W2.drew B _ _ _ _ hrowW2, by omega, hGM, ?_, ?_⟩⟩
    · rw [List.size_toArray]
      simp only [List.length_append, List.length_take, List.length_drop, hdl, hRl]
      omega
    · rw [hll, hn1, List.toList_toArray, Nat.mul_one, hgc]
      show _ = vi _
      rw [vi_app, vi_cons]; simp
  have HBf : Hid (Below base w W3) := by
    have hs0 := hB0.size
    have hb1 : Below base w W1 := (hB0.mono (by omega)).trans (hB1.mono (by omega))
    rw [hW3, hW2]
    exact below_setRow (below_drewN (below_setRow hb1 (by omega) _) 1) (by omega) _
  have b1 : ¬ ((i : Int) = (n : Int)) := by omega
  have b2 : i ≤ n := by omega
  have b3 : i1 ≤ n1 := by omega
  have b5 : ¬ cap = i := by omega
  have b6 : ¬ G = i1 := by omega
  have b6' : ¬ G = i := by omega
  have b7 : (cap : Int) < (n1 : Int) := by omega
  have b8 : i ≤ cap := by omega
  have b9 : i1 ≤ G := by omega
  have b9' : i ≤ G := by omega
  have b10 : i ≤ n1 := by omega
  have hw1 : IntKind.i64.wrap ((i1 : Nat) : Int) = (i1 : Int) := by rw [IntKind.wrap_i64]; omega
  have hw2 : IntKind.i64.wrap ((n1 : Nat) : Int) = (n1 : Int) := by rw [IntKind.wrap_i64]; omega
  have hw3 : IntKind.i64.wrap ((k : Nat) : Int) = (k : Int) := by rw [IntKind.wrap_i64]; omega
  have b11 : (i1 : Int) ≤ (n1 : Int) := by omega
  have b12 : (i : Int) ≤ (n1 : Int) := by omega
  have b13 : (i : Int) ≤ (n : Int) := by omega
  rw [← HW0.out]
  have hG63 : G ≤ 9223372036854775807 := by unfold maxLen at hGM; omega
  clear hown hO hcur hcs hrowW1 hnewW1 hnew hB0 hN hn1 hi1 hn hW1 HW0 hW2 hW3 hgc hRl hZl hR hZ hROW hRs hG hold hpl e3 hdl hz0 hz1 hz2 hi0 hB hB1 hcells hcells0 hcells1 hcells2 hrowW2 hk hik
  go_enter Tryd.func14, Tryd.ntmps14
  go_wp2_with (first
    | (at_builtin; refine Lib.wpList_append_run _ rfl _ _ _ _ rfl _ _ rfl rfl _ _ (hrz _) ?_)
    | (at_builtin; refine wpList_copy_runI _ rfl _ _ 36 36 rfl _ _ rfl rfl (hcp1 _ _) ?_))
  go_region_law (refine step_copy_runI rfl _ _ 36 36 rfl _ _ (by simp [Act.eval, Act.put]) (by simp [Act.eval, Act.put]) (hcp2 _ _ _) ?_)
  go_wp2
  go_ret
  exact ⟨_, rfl, HFin, HBf⟩
end Go.Proofs.YtapchcamjeafmaaDoor
