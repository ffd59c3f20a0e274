/-
  slices.Insert of one number, ahead of the end, with room.
-/
import Derived.Test.YtapchcamjeafmaaDoorQIns
namespace Go.Proofs.YtapchcamjeafmaaDoor
open Go.RowKit

theorem shift_ints {l : List Int} {L : List Value} {n i cap : Nat} (x : Value) (hn : n = l.length) (hi : i < n) (hroom : n + 1 ≤ cap) (hL : L.length = cap) (ht : L.take (n) = vi l) (R : List Value)
    (hR : R = L.take ((i + 1)) ++ vi (l.drop i) ++ L.drop ((i + 1) + (vi (l.drop i)).length)) :
    (R.take i ++ [x] ++ R.drop (i + 1)).take ((n + 1)) = vi (l.take i) ++ [x] ++ vi (l.drop i) ∧ R.length = cap := by
  have hd : (vi (l.drop i)).length = (n - i) := by rw [vi_length, List.length_drop, hn]
  have hRl : R.length = cap := by
    rw [hR]; simp only [List.length_append, List.length_take, List.length_drop, hd, hL]; omega
  refine ⟨?_, hRl⟩
  have h1 : R.take i = vi (l.take i) := by
    rw [hR, List.append_assoc, List.take_append_of_le_length (by rw [List.length_take, hL]; omega), List.take_take, Nat.min_eq_left (by omega)]
    have e : L.take i = (L.take (n)).take i := by rw [List.take_take, Nat.min_eq_left (by omega)]
    have e2 : vi l = vi (l.take i) ++ vi (l.drop i) := by rw [← vi_app, List.take_append_drop]
    have e3 : (vi (l.take i)).length = i := by rw [vi_length, List.length_take]; omega
    rw [e, ht, e2, List.take_append_of_le_length (by omega), List.take_of_length_le (by omega)]
  have h2 : R.drop (i + 1) = vi (l.drop i) ++ L.drop ((i + 1) + (vi (l.drop i)).length) := by
    have e0 : (L.take (i + 1)).length = i + 1 := by rw [List.length_take, hL]; omega
    have e1 := List.drop_left (l₁ := L.take (i + 1)) (l₂ := vi (l.drop i) ++ L.drop ((i + 1) + (vi (l.drop i)).length))
    rw [e0] at e1
    rw [hR, List.append_assoc, e1]
  rw [h1, h2]
  have e3 : (vi (l.take i)).length = i := by rw [vi_length, List.length_take]; omega
  rw [← List.append_assoc, List.take_append_of_le_length (by simp only [List.length_append, List.length_cons, List.length_nil, e3, hd]; omega), List.take_of_length_le (by simp only [List.length_append, List.length_cons, List.length_nil, e3, hd]; omega)]

set_option maxHeartbeats 8000000 in
set_option maxRecDepth 100000 in
theorem InsI_shift (g n cap i base N : Nat) (x : Int) (l : List Int) (w : World) (hO : Owns w base (.slice (some ⟨g, 0, none⟩) n cap) l) (hn : n = l.length) (hi : i < n) (hroom : n + 1 ≤ cap) (h40 : n ≤ 40) (hN : N = w.heap.size) :
    Calls Tryd.prog 14 #[.slice (some ⟨g, 0, none⟩) n cap, .int .i64 (i : Int), .slice (some ⟨N, 0, none⟩) 1 1] (w.alloc (.cells #[.int .i64 x] 3)) fun e w' => ∃ v', e = .returned v' ∧ Hid (Owns w' base v' (l.take i ++ x :: l.drop i)) ∧ Hid (Below base w w') := by
  have hown : w.ownsRow base 3 1 (.slice (some ⟨g, 0, none⟩) n cap) l.length (vi l) := hO
  obtain ⟨cur, hbg, hcur, hcapM, hcs, htk⟩ : ∃ cur : Array Value, base ≤ g ∧ w.heap[g]? = some (.cells cur 3 (0, 0)) ∧ cap ≤ maxLen ∧ cur.size = cap ∧ cur.toList.take (n) = vi l := by
    rcases hown.2 with ⟨h2, h3⟩ | ⟨g', cap', cur, hv, hg, hh, h4, h5, h6, h7⟩
    · cases h2
    · simp only [Value.slice.injEq, Option.some.injEq, Addr.mk.injEq, and_true] at hv
      obtain ⟨rfl, -, rfl⟩ := hv
      exact ⟨cur, hg, hh, h5, by simpa using h6, by rw [hn]; simpa [vi] using h7⟩
  have hgw : g < w.heap.size := (Array.getElem?_eq_some_iff.1 hcur).1
  have hc63 : cap ≤ 9223372036854775807 := by unfold maxLen at hcapM; omega
  obtain ⟨i1, hi1⟩ : ∃ i1 : Nat, i1 = i + 1 := ⟨_, rfl⟩
  obtain ⟨n1, hn1⟩ : ∃ n1 : Nat, n1 = n + 1 := ⟨_, rfl⟩
  have hii : (i : Int) + 1 = (i1 : Int) := by omega
  have hnn : (n : Int) + 1 = (n1 : Int) := by omega
  obtain ⟨W0, HW0⟩ : ∃ W0, Hid (W0 = w.alloc (.cells #[.int .i64 x] 3)) := ⟨_, rfl⟩
  have hB0 : Below w.heap.size w W0 := by rw [HW0.out]; exact (Below.refl _ _).alloc (Nat.le_refl _) _
  have hcur0 : W0.heap[g]? = some (.cells cur 3 (0, 0)) := (hB0.block g hgw).trans hcur
  have hnew : W0.heap[N]? = some (.cells #[.int .i64 x] 3 (0, 0)) := by rw [HW0.out, hN]; exact heap_alloc_new _ _
  have hNg : N ≠ g := by omega
  have hov : ∀ lb cb, (callFunc 21 #[.slice (some ⟨N, 0, none⟩) 1 1, .slice (some ⟨g, i1, none⟩) lb cb]).run Tryd.prog W0 = .ok (.value (.bool false)) W0 := fun lb cb => by
    rw [run_callFunc_extern Tryd.func21 (by kernel_rfl) (by kernel_rfl) (by kernel_rfl) (e := Extern.SlicesOverlaps.overlaps #[36, 36] #[4]) (by kernel_rfl),
      Lib.run_overlaps_apart W0 36 4 3 Tryd.underlying36 1 Tryd.sizeOf3 ⟨N, 0, none⟩ ⟨g, i1, none⟩ 1 1 lb cb hNg 3 3 1 cur.size (by simp [World.shape?, hnew]) (by simp [World.shape?, hcur0]) (by omega) (by simp [World.frozen?, hnew]) (by simp [World.frozen?, hnew])]
    rfl
  obtain ⟨row1, hrow1⟩ : ∃ row1 : List Value, row1 = cur.toList.take ((i + 1)) ++ vi (l.drop i) ++ cur.toList.drop ((i + 1) + (vi (l.drop i)).length) := ⟨_, rfl⟩
  obtain ⟨hsc, hr1l⟩ := shift_ints (.int .i64 x) hn hi hroom (by simpa using hcs) htk row1 hrow1
  have hdl : (vi (l.drop i)).length = (n - i) := by rw [vi_length, List.length_drop, hn]
  have hcp1 : ∀ ty dc sc, (Builtin.copy_ #[36, 36] ty #[.slice (some ⟨g, i1, none⟩) (n1 - i1) dc, .slice (some ⟨g, i, none⟩) (n1 - i) sc]).run Tryd.prog W0.drew = .ok (goInt ((n - i : Nat) : Int)) (W0.drew.setRow g row1.toArray) := fun ty dc sc => by
    have h := run_copy_ints W0.drew ty g i1 (n1 - i1) dc ⟨g, i, none⟩ (n1 - i) sc cur (vi (l.drop i)) (n - i) hcur0 (by simp only [Nat.min_def]; split <;> omega) hdl (fun j v hj => by
      have hj' : j < (vi (l.drop i)).length := (List.getElem?_eq_some_iff.1 hj).1
      rw [Addr.add_lit, cell_of_row W0.drew g _ _ _ _ hcur0]
      have e : cur[i + j]? = (cur.toList.take (n))[i + j]? := by rw [List.getElem?_take, if_pos (by omega), Array.getElem?_toList]
      have e2 : vi l = vi (l.take i) ++ vi (l.drop i) := by rw [← vi_app, List.take_append_drop]
      have e3 : (vi (l.take i)).length = i := by rw [vi_length, List.length_take]; omega
      rw [e, htk, e2, List.getElem?_append_right (by omega), e3, show i + j - i = j by omega]
      exact hj) (by rw [hdl]; omega) (vi_one _)
    rw [h, hrow1, hi1]
  obtain ⟨W1, hW1⟩ : ∃ W1, W1 = W0.drew.setRow g row1.toArray := ⟨_, rfl⟩
  have hrowW1 : W1.heap[g]? = some (.cells row1.toArray 3 (0, 0)) := by rw [hW1]; exact setRow_heap W0.drew g cur _ _ _ hcur0
  have hnewW1 : W1.heap[N]? = some (.cells #[.int .i64 x] 3 (0, 0)) := by rw [hW1, setRow_other _ _ _ _ hNg]; exact hnew
  have hcp2 : ∀ ty dc, (Builtin.copy_ #[36, 36] ty #[.slice (some ⟨g, i, none⟩) (n1 - i) dc, .slice (some ⟨N, 0, none⟩) 1 1]).run Tryd.prog W1 = .ok (goInt 1) (W1.setRow g (row1.take i ++ [Value.int .i64 x] ++ row1.drop (i + 1)).toArray) := fun ty dc => by
    have h := run_copy_ints W1 ty g i (n1 - i) dc ⟨N, 0, none⟩ 1 1 row1.toArray [.int .i64 x] 1 hrowW1 (by simp only [Nat.min_def]; split <;> omega) rfl (fun j v hj => by
      rw [Addr.add_lit, cell_of_row W1 N _ _ _ _ hnewW1, Nat.zero_add]
      simpa using hj) (by simp [hr1l]; omega) (fun u hu => by simp at hu; subst hu; rfl)
    simpa using h
  have HFin : Hid (Owns (W1.setRow g (row1.take i ++ [Value.int .i64 x] ++ row1.drop (i + 1)).toArray) base (.slice (some ⟨g, 0, none⟩) n1 cap) (l.take i ++ x :: l.drop i)) := by
    have hll : (l.take i ++ x :: l.drop i).length = n1 := by simp; omega
    refine ⟨by simp, Or.inr ⟨g, cap, _, by rw [hll], hbg, setRow_heap _ _ _ _ _ _ hrowW1, by omega, hcapM, ?_, ?_⟩⟩
    · simp [hr1l]; omega
    · rw [hll, hn1, List.toList_toArray, Nat.mul_one, hsc]
      show _ = vi _
      rw [vi_app, vi_cons]; simp
  have HBf : Hid (Below base w (W1.setRow g (row1.take i ++ [Value.int .i64 x] ++ row1.drop (i + 1)).toArray)) := by
    have hb1 : Below base w W0.drew := below_drewN (hB0.mono (by omega)) 1
    rw [hW1]
    exact below_setRow (below_setRow hb1 hbg _) hbg _
  have b1 : ¬ ((i : Int) = (n : Int)) := by omega
  have b2 : i ≤ n := by omega
  have b3 : i1 ≤ n1 := by omega
  have b4 : n1 ≤ cap := by omega
  have b5 : ¬ cap = i := by omega
  have b6 : ¬ cap = i1 := by omega
  have b7 : ¬ (cap : Int) < (n1 : Int) := by omega
  have b8 : i ≤ cap := by omega
  have b9 : i1 ≤ cap := by omega
  have b10 : i ≤ n1 := by omega
  have hw1 : IntKind.i64.wrap ((i1 : Nat) : Int) = (i1 : Int) := by rw [IntKind.wrap_i64]; omega
  have b11 : (i1 : Int) ≤ (n1 : Int) := by omega
  have b12 : (i : Int) ≤ (n1 : Int) := by omega
  rw [← HW0.out]
  rw [← hW1] at hcp1
  obtain ⟨W2, HW2⟩ : ∃ W2, Hid (W2 = W1.setRow g (row1.take i ++ [Value.int .i64 x] ++ row1.drop (i + 1)).toArray) := ⟨_, rfl⟩
  rw [← HW2.out] at HFin HBf hcp2
  clear hown hO hcur hcs htk hsc hr1l hdl hrow1 hrowW1 hnewW1 hnew hcur0 hB0 hN hn1 hi1 hn hW1 HW0
  go_enter Tryd.func14, Tryd.ntmps14
  go_wp2_with (simp only [hov])
  go_region_law (refine step_copy_runI rfl _ _ 36 36 rfl _ _ (by simp [Act.eval, Act.put]) (by simp [Act.eval, Act.put]) (hcp1 _ _ _) ?_)
  go_wp2_with (at_builtin; refine wpList_copy_runI _ rfl _ _ 36 36 rfl _ _ rfl rfl (hcp2 _ _) ?_)
  go_ret
  exact ⟨_, rfl, HFin, HBf⟩
end Go.Proofs.YtapchcamjeafmaaDoor
