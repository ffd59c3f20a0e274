/-
  slices.Insert of one pair, ahead of the end, with room.
-/
import Derived.Test.YtihafckdaecgkaaZIns
namespace Go.Proofs.Ytihafckdaecgkaa
open Go.RowKit

theorem shift_cells {l : List (Int × Int)} {L : List Value} {n i cap : Nat} (x y : Value) (hn : n = l.length) (hi : i < n) (hroom : n + 1 ≤ cap) (hL : L.length = cap * 2) (ht : L.take (n * 2) = pc l) (R : List Value)
    (hR : R = L.take ((i + 1) * 2) ++ pc (l.drop i) ++ L.drop ((i + 1) * 2 + (pc (l.drop i)).length)) :
    (R.take (i * 2) ++ [x, y] ++ R.drop (i * 2 + 2)).take ((n + 1) * 2) = pc (l.take i) ++ [x, y] ++ pc (l.drop i) ∧ R.length = cap * 2 := by
  have hd : (pc (l.drop i)).length = (n - i) * 2 := by rw [pc_length, List.length_drop, hn]
  have hRl : R.length = cap * 2 := by
    rw [hR]; simp only [List.length_append, List.length_take, List.length_drop, hd, hL]; omega
  refine ⟨?_, hRl⟩
  have h1 : R.take (i * 2) = pc (l.take i) := by
    rw [hR, List.append_assoc, List.take_append_of_le_length (by rw [List.length_take, hL]; omega), List.take_take, Nat.min_eq_left (by omega)]
    have e : L.take (i * 2) = (L.take (n * 2)).take (i * 2) := by rw [List.take_take, Nat.min_eq_left (by omega)]
    have e2 : pc l = pc (l.take i) ++ pc (l.drop i) := by rw [← pc_app, List.take_append_drop]
    have e3 : (pc (l.take i)).length = i * 2 := by rw [pc_length, List.length_take]; omega
    rw [e, ht, e2, List.take_append_of_le_length (by omega), List.take_of_length_le (by omega)]
  have h2 : R.drop (i * 2 + 2) = pc (l.drop i) ++ L.drop ((i + 1) * 2 + (pc (l.drop i)).length) := by
    rw [hR, List.append_assoc, show i * 2 + 2 = (L.take ((i + 1) * 2)).length by rw [List.length_take, hL]; omega, List.drop_left]
  rw [h1, h2]
  have e3 : (pc (l.take i)).length = i * 2 := by rw [pc_length, List.length_take]; omega
  rw [← List.append_assoc, List.take_append_of_le_length (by simp only [List.length_append, List.length_cons, List.length_nil, e3, hd]; omega), List.take_of_length_le (by simp only [List.length_append, List.length_cons, List.length_nil, e3, hd]; omega)]

set_option maxHeartbeats 8000000 in
set_option maxRecDepth 100000 in
theorem Insert_shift (g n cap i base N : Nat) (x y : Int) (l : List (Int × Int)) (w : World) (hO : OwnsP w base (.slice (some ⟨g, 0, none⟩) n cap) l) (hn : n = l.length) (hi : i < n) (hroom : n + 1 ≤ cap) (h40 : n ≤ 40) (hN : N = w.heap.size) :
    Calls Try.prog 32 #[.slice (some ⟨g, 0, none⟩) n cap, .int .i64 (i : Int), .slice (some ⟨N, 0, none⟩) 1 1] (w.alloc (.cells #[.int .i64 x, .int .i64 y] 34)) fun e w' => ∃ v', e = .returned v' ∧ Hid (OwnsP w' base v' (l.take i ++ (x, y) :: l.drop i)) ∧ Hid (Below base w w') := by
  have hown : w.ownsRow base 34 2 (.slice (some ⟨g, 0, none⟩) n cap) l.length (pc l) := hO
  obtain ⟨cur, hbg, hcur, hcapM, hcs, htk⟩ : ∃ cur : Array Value, base ≤ g ∧ w.heap[g]? = some (.cells cur 34 (0, 0)) ∧ cap ≤ maxLen ∧ cur.size = cap * 2 ∧ cur.toList.take (n * 2) = pc l := by
    rcases hown.2 with ⟨h2, h3⟩ | ⟨g', cap', cur, hv, hg, hh, h4, h5, h6, h7⟩
    · cases h2
    · simp only [Value.slice.injEq, Option.some.injEq, Addr.mk.injEq, and_true] at hv
      obtain ⟨rfl, -, rfl⟩ := hv
      exact ⟨cur, hg, hh, h5, h6, by rw [hn]; exact h7⟩
  have hgw : g < w.heap.size := (Array.getElem?_eq_some_iff.1 hcur).1
  have hc63 : cap ≤ 9223372036854775807 := by unfold maxLen at hcapM; omega
  obtain ⟨i1, hi1⟩ : ∃ i1 : Nat, i1 = i + 1 := ⟨_, rfl⟩
  obtain ⟨n1, hn1⟩ : ∃ n1 : Nat, n1 = n + 1 := ⟨_, rfl⟩
  have hii : (i : Int) + 1 = (i1 : Int) := by omega
  have hnn : (n : Int) + 1 = (n1 : Int) := by omega
  obtain ⟨W0, HW0⟩ : ∃ W0, Hid (W0 = w.alloc (.cells #[.int .i64 x, .int .i64 y] 34)) := ⟨_, rfl⟩
  have hB0 : Below w.heap.size w W0 := by rw [HW0.out]; exact (Below.refl _ _).alloc (Nat.le_refl _) _
  have hcur0 : W0.heap[g]? = some (.cells cur 34 (0, 0)) := (hB0.block g hgw).trans hcur
  have hnew : W0.heap[N]? = some (.cells #[.int .i64 x, .int .i64 y] 34 (0, 0)) := by rw [HW0.out, hN]; exact heap_alloc_new _ _
  have hNg : N ≠ g := by omega
  have hov : ∀ lb cb, (callFunc 39 #[.slice (some ⟨N, 0, none⟩) 1 1, .slice (some ⟨g, i1 * 2, none⟩) lb cb]).run Try.prog W0 = .ok (.value (.bool false)) W0 := fun lb cb => by
    rw [run_callFunc_extern Try.func39 (by kernel_rfl) (by kernel_rfl) (by kernel_rfl) (e := Extern.SlicesOverlaps.overlaps #[22, 22] #[4]) (by kernel_rfl),
      Lib.run_overlaps_apart W0 22 4 34 Try.underlyingP 2 Try.sizeOf34 ⟨N, 0, none⟩ ⟨g, i1 * 2, none⟩ 1 1 lb cb hNg 34 34 2 cur.size (by simp [World.shape?, hnew]) (by simp [World.shape?, hcur0]) (by omega) (by simp [World.frozen?, hnew]) (by simp [World.frozen?, hnew])]
    rfl
  obtain ⟨row1, hrow1⟩ : ∃ row1 : List Value, row1 = cur.toList.take ((i + 1) * 2) ++ pc (l.drop i) ++ cur.toList.drop ((i + 1) * 2 + (pc (l.drop i)).length) := ⟨_, rfl⟩
  obtain ⟨hsc, hr1l⟩ := shift_cells (.int .i64 x) (.int .i64 y) hn hi hroom (by simpa using hcs) htk row1 hrow1
  have hdl : (pc (l.drop i)).length = (n - i) * 2 := by rw [pc_length, List.length_drop, hn]
  have hcp1 : ∀ ty dc sc, (Builtin.copy_ #[22, 22] ty #[.slice (some ⟨g, i1 * 2, none⟩) (n1 - i1) dc, .slice (some ⟨g, i * 2, none⟩) (n1 - i) sc]).run Try.prog W0.drew = .ok (goInt ((n - i : Nat) : Int)) (W0.drew.setRow g row1.toArray) := fun ty dc sc => by
    have h := run_copy_prs W0.drew ty g (i1 * 2) (n1 - i1) dc ⟨g, i * 2, none⟩ (n1 - i) sc cur (pc (l.drop i)) (n - i) hcur0 (by simp only [Nat.min_def]; split <;> omega) hdl (fun j v hj => by
      have hj' : j < (pc (l.drop i)).length := (List.getElem?_eq_some_iff.1 hj).1
      rw [Addr.add_lit, cell_of_row W0.drew g _ _ _ _ hcur0]
      have e : cur[i * 2 + j]? = (cur.toList.take (n * 2))[i * 2 + j]? := by rw [List.getElem?_take, if_pos (by omega), Array.getElem?_toList]
      have e2 : pc l = pc (l.take i) ++ pc (l.drop i) := by rw [← pc_app, List.take_append_drop]
      have e3 : (pc (l.take i)).length = i * 2 := by rw [pc_length, List.length_take]; omega
      rw [e, htk, e2, List.getElem?_append_right (by omega), e3, show i * 2 + j - i * 2 = j by omega]
      exact hj) (by rw [hdl]; omega) (pc_one _)
    rw [h, hrow1, hi1]
  obtain ⟨W1, hW1⟩ : ∃ W1, W1 = W0.drew.setRow g row1.toArray := ⟨_, rfl⟩
  have hrowW1 : W1.heap[g]? = some (.cells row1.toArray 34 (0, 0)) := by rw [hW1]; exact setRow_heap W0.drew g cur _ _ _ hcur0
  have hnewW1 : W1.heap[N]? = some (.cells #[.int .i64 x, .int .i64 y] 34 (0, 0)) := by rw [hW1, setRow_other _ _ _ _ hNg]; exact hnew
  have hcp2 : ∀ ty dc, (Builtin.copy_ #[22, 22] ty #[.slice (some ⟨g, i * 2, none⟩) (n1 - i) dc, .slice (some ⟨N, 0, none⟩) 1 1]).run Try.prog W1 = .ok (goInt 1) (W1.setRow g (row1.take (i * 2) ++ [Value.int .i64 x, Value.int .i64 y] ++ row1.drop (i * 2 + 2)).toArray) := fun ty dc => by
    have h := run_copy_prs W1 ty g (i * 2) (n1 - i) dc ⟨N, 0, none⟩ 1 1 row1.toArray [.int .i64 x, .int .i64 y] 1 hrowW1 (by simp only [Nat.min_def]; split <;> omega) rfl (fun j v hj => by
      rw [Addr.add_lit, cell_of_row W1 N _ _ _ _ hnewW1, Nat.zero_add]
      simpa using hj) (by simp [hr1l]; omega) (fun u hu => by simp at hu; rcases hu with rfl | rfl <;> rfl)
    simpa using h
  have HFin : Hid (OwnsP (W1.setRow g (row1.take (i * 2) ++ [Value.int .i64 x, Value.int .i64 y] ++ row1.drop (i * 2 + 2)).toArray) base (.slice (some ⟨g, 0, none⟩) n1 cap) (l.take i ++ (x, y) :: l.drop i)) := by
    have hll : (l.take i ++ (x, y) :: l.drop i).length = n1 := by simp; omega
    refine ⟨by rw [pc_length], Or.inr ⟨g, cap, _, by rw [hll], hbg, setRow_heap _ _ _ _ _ _ hrowW1, by omega, hcapM, ?_, ?_⟩⟩
    · simp [hr1l]; omega
    · rw [hll, hn1, List.toList_toArray, hsc]
      rw [pc_app, pc_cons]; simp
  have HBf : Hid (Below base w (W1.setRow g (row1.take (i * 2) ++ [Value.int .i64 x, Value.int .i64 y] ++ row1.drop (i * 2 + 2)).toArray)) := by
    have hb1 : Below base w W0.drew := below_drewN (hB0.mono (by omega)) 1
    rw [hW1]
    exact below_setRow (below_setRow hb1 hbg _) hbg _
  have b1 : ¬ ((i : Int) = (n : Int)) := by omega
  have b2 : i ≤ n := by omega
  have b3 : i1 ≤ n1 := by omega
  have b4 : n1 ≤ cap := by omega
  have b5 : ¬ cap = i := by omega
  have b6 : ¬ cap = i1 := by omega
  have b7 : ¬ (cap : Int) < (n1 : Int) := by omega
  have b8 : i ≤ cap := by omega
  have b9 : i1 ≤ cap := by omega
  have b10 : i ≤ n1 := by omega
  have hw1 : IntKind.i64.wrap ((i1 : Nat) : Int) = (i1 : Int) := by rw [IntKind.wrap_i64]; omega
  have b11 : (i1 : Int) ≤ (n1 : Int) := by omega
  have b12 : (i : Int) ≤ (n1 : Int) := by omega
  rw [← HW0.out]
  rw [← hW1] at hcp1
  obtain ⟨W2, HW2⟩ : ∃ W2, Hid (W2 = W1.setRow g (row1.take (i * 2) ++ [Value.int .i64 x, Value.int .i64 y] ++ row1.drop (i * 2 + 2)).toArray) := ⟨_, rfl⟩
  rw [← HW2.out] at HFin HBf hcp2
  clear hown hO hcur hcs htk hsc hr1l hdl hrow1 hrowW1 hnewW1 hnew hcur0 hB0 hN hn1 hi1 hn hW1 HW0
  go_enter Try.func32, Try.ntmps32
  go_wp2_with (simp only [hov])
  go_region_law (refine step_copy_runI rfl _ _ 22 22 rfl _ _ (by simp [Act.eval, Act.put]) (by simp [Act.eval, Act.put]) (hcp1 _ _ _) ?_)
  go_wp2_with (at_builtin; refine wpList_copy_runI _ rfl _ _ 22 22 rfl _ _ rfl rfl (hcp2 _ _) ?_)
  go_ret
  exact ⟨_, rfl, HFin, HBf⟩
end Go.Proofs.Ytihafckdaecgkaa
