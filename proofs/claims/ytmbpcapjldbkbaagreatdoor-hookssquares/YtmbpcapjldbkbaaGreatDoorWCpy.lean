/-
  The contract of fill.copied.
-/
import Derived.Test.YtmbpcapjldbkbaaGreatDoorCRow
import Derived.Deep.OwnRows
import Derived.Laws.NewBlocks
namespace Go.Proofs.YtmbpcapjldbkbaaGreatDoor
open Go.RowKit

/-- The rows, k of them copied. -/
def cpR (ls : List (List Int)) (k : Nat) : List (List Int) := (List.range ls.length).map fun r => if r < k then ls.getD r [] else []
theorem cpR_len (ls : List (List Int)) (k : Nat) : (cpR ls k).length = ls.length := by simp [cpR]
theorem cpR_zero (ls : List (List Int)) : cpR ls 0 = List.replicate ls.length [] := by
  unfold cpR
  rw [List.eq_replicate_iff]
  refine ⟨by simp, fun b hb => ?_⟩
  obtain ⟨r, _, rfl⟩ := List.mem_map.1 hb
  simp
theorem cpR_all (ls : List (List Int)) : cpR ls ls.length = ls := by
  refine List.ext_getElem (by simp [cpR]) fun r h1 h2 => ?_
  simp [cpR, h2, List.getD]
theorem cpR_set (ls : List (List Int)) (k : Nat) (zs : List Int) : ((cpR ls k).set k zs).set k (ls.getD k []) = cpR ls (k + 1) := by
  refine List.ext_getElem (by simp [cpR]) fun r h1 h2 => ?_
  simp only [cpR, List.getElem_set, List.getElem_map, List.getElem_range]
  by_cases e : k = r
  · subst e; simp
  · rw [if_neg e, if_neg e]
    by_cases e2 : r < k
    · rw [if_pos e2, if_pos (by omega)]
    · rw [if_neg e2, if_neg (by omega)]
theorem run_copy_other {w : World} {a : Option Addr} {cap g : Nat} {zs : List Int} (hs : Shows w a zs) (hrow : w.heap[g]? = some (.cells (List.replicate zs.length (Value.int .i64 0)).toArray 3 (0, 0))) :
    ∃ w2, Sem.run Tryz.prog (Builtin.copy_ #[22, 22] 3 #[.slice (some ⟨g, 0, none⟩) zs.length zs.length, .slice a zs.length cap]) w = .ok (.int .i64 zs.length) w2 ∧
      Hid (w2.heap[g]? = some (.cells (zs.map (Value.int .i64)).toArray 3 (0, 0)) ∧ Below g w w2 ∧ ∀ k, k ≠ g → w2.heap[k]? = w.heap[k]?) := by
  by_cases hne : zs = []
  · subst hne
    exact ⟨w, run_copy_none (P := Tryz.prog) w 22 22 3 3 _ _ _ _ _ _ Tryz.underlying22 Tryz.sz3 (by simp), by simpa [Hid] using hrow, Below.refl _ _, fun _ _ => rfl⟩
  · obtain ⟨b, off, ha, _, hc⟩ := hs.cells hne
    subst ha
    have hrun := run_copy_row (P := Tryz.prog) w 22 22 3 3 g 0 zs.length zs.length ⟨b, off, none⟩ zs.length cap _ 3 (zs.map (Value.int .i64)) Tryz.underlying22 Tryz.sz3 hrow (by simp) (fun j v hj => by
      have hj' : j < zs.length := by have := (List.getElem?_eq_some_iff.1 hj).1; simpa using this
      rw [Addr.add_lit, hc j hj', ← hj]; simp [List.getD, List.getElem?_eq_getElem hj']) (by simp) (ints_oneCell _ _)
    refine ⟨_, by rw [hrun]; simp only [List.length_map]; rfl, ?_, below_setRow (Below.refl _ _) (Nat.le_refl _) _, fun k hk => ?_⟩
    · show _ = _
      rw [setRow_heap w g _ _ 3 _ hrow]
      simp
    · unfold World.setRow
      simp [Array.getElem?_modify, Ne.symm hk]

set_option maxHeartbeats 4000000 in
theorem fcopied_at (a : Option Addr) (n cap : Nat) (ls : List (List Int)) (w : World) (hs : Table w a ls) (hn : n = ls.length) (hl : ls.length ≤ 1000) (hr : ∀ r ∈ ls, r.length ≤ 1000) :
    Calls Tryz.prog 73 #[.slice a n cap] w fun e w' => ∃ v, e = .returned v ∧ Tbl w' w.heap.size v ls ∧ Below w.heap.size w w' := by
  subst hn
  have HS : Hid (Table w a ls) := hs
  have HR : Hid (∀ r ∈ ls, r.length ≤ 1000) := hr
  clear hs hr
  obtain ⟨i1, hi1, hy0, hy1, hy2⟩ := info_parts Tryz.info22
  go_enter Tryz.func73, Tryz.ntmps73
  go_wp2_with (at_make; refine wpList_make_full _ rfl _ _ 34 rfl w.heap.size 22 i1 (.slice none 0 0) 1 Tryz.underlying34 hi1 hy0 hy1 _ _ _ _ ls.length rfl rfl rfl rfl ?b1 ?b2 ?b3 ?_)
  case b1 => rw [hy2]; omega
  case b2 => unfold maxLen; omega
  case b3 => exact Nat.le_refl _
  intro w1 hown hgrow
  have HB1 : Hid (Below w.heap.size w w1) := (Below.refl _ _).grown hgrow (Nat.le_refl _) (fun k h => by cases h)
  obtain ⟨G, HG⟩ : ∃ G, Hid (G = w.heap.size) := ⟨_, rfl⟩
  have HT1 : Hid (Tbl w1 G (.slice (some ⟨G, 0, none⟩) ls.length ls.length) (cpR ls 0)) := by
    show Tbl _ _ _ _
    rw [cpR_zero, HG.out]; exact ⟨_, tbl_made (by simpa [Value.cells] using hown)⟩
  rw [← HG.out]
  rw [← HG.out] at HB1
  clear hown hgrow
  go_wp2
  go_loopw [11] (fun i wr => ∃ k : Nat, k ≤ ls.length ∧ i = .int .i64 k ∧ Hid (Tbl wr G (.slice (some ⟨G, 0, none⟩) ls.length ls.length) (cpR ls k)) ∧ Hid (Below G w wr)) (fun i _ => ls.length - (intOf i).toNat)
  case atStart => exact ⟨0, Nat.zero_le _, rfl, HT1, HB1⟩
  case round =>
    obtain ⟨k, hk, rfl, HT, HB⟩ := hrel
    by_cases hlt : k < ls.length
    · have hlt' : (k : Int) < (ls.length : Int) := by omega
      obtain ⟨b, off, ai, m, ci, rfl, hc0, HM, HSk, -, hmb⟩ := HS.out.elemR hlt
      have hc := (HB.out.cell (p := ⟨b, off + k, none⟩) (by rw [HG.out]; exact World.block_lt_of_cell? w _ hc0)).trans hc0
      obtain ⟨vs, hV⟩ := HT.out
      obtain ⟨z, HZ⟩ : ∃ z, Hid (z = ls.getD k []) := ⟨_, rfl⟩
      have hm1 : m ≤ 1000 := by rw [HM.out]; exact HR.out _ (by simp [List.getD, hlt])
      have hmz : m = z.length := by rw [HM.out, HZ.out]
      have hkl : k < (cpR ls k).length := by rw [cpR_len]; exact hlt
      have hGl : G < wr.heap.size := (hV.own.lt G rfl).2
      obtain ⟨g9, n9, cap9, e9, _, _, _, hf9, hc9⟩ := hV.head (by omega)
      cases e9
      have cG := hc9 k hkl
      have fG := hf9 k
      have hmP : ∀ W, (Instr.makeSlice 22 (.int .i64 (m : Int)) (.int .i64 (m : Int))).run Tryz.prog W = .ok (.slice (some ⟨W.heap.size, 0, none⟩) m m) (W.alloc (.cells (madeCells #[Value.int .i64 0] m) 3)) := fun W =>
        run_make_row' (P := Tryz.prog) 22 3 (.int .i64 0) 8 Tryz.underlying22 (by kernel_rfl) rfl .i64 .i64 m (by omega) (by omega) W
      have hB1 : Below wr.heap.size wr (wr.alloc (.cells (madeCells #[Value.int .i64 0] m) 3)) := (Below.refl _ _).alloc (Nat.le_refl _) _
      have hmade : (madeCells #[Value.int .i64 0] m) = (List.replicate m (Value.int .i64 0)).toArray := by
        apply Array.toList_inj.1
        rw [toList_madeCells_one]
      have hO : Owns (wr.alloc (.cells (madeCells #[Value.int .i64 0] m) 3)) G (.slice (some ⟨wr.heap.size, 0, none⟩) m m) (List.replicate m 0) := by
        refine owns_of_row (by omega) ?_ (by simp) (by simp; omega)
        rw [heap_alloc_new wr, hmade]; simp
      have hK : KeepB (rowv vs k) (.slice (some ⟨wr.heap.size, 0, none⟩) m m) wr (wr.alloc (.cells (madeCells #[Value.int .i64 0] m) 3)) := ⟨hB1.size, fun q hq _ => hB1.block q hq, fun g hg => Or.inr (by cases hg; exact Nat.le_refl _)⟩
      have hT2 := hV.setRow hkl hO hK
      rw [World.setCell_alloc_past _ _ _ _ hGl] at hT2
      obtain ⟨W2, hW2⟩ : ∃ W2, W2 = (wr.setCell ⟨G, k, none⟩ (.slice (some ⟨wr.heap.size, 0, none⟩) m m)).alloc (.cells (madeCells #[Value.int .i64 0] m) 3) := ⟨_, rfl⟩
      have hBW : Below G wr W2 := by
        rw [hW2]
        refine Below.alloc ((Below.refl _ _).setCell (p := ⟨G, k, none⟩) (Nat.le_refl _) _) ?_ _
        simp; omega
      have hsz : (wr.setCell ⟨G, k, none⟩ (.slice (some ⟨wr.heap.size, 0, none⟩) m m)).heap.size = wr.heap.size := by simp
      have hnew : W2.heap[wr.heap.size]? = some (.cells (List.replicate z.length (Value.int .i64 0)).toArray 3 (0, 0)) := by
        have := heap_alloc_new (wr.setCell ⟨G, k, none⟩ (.slice (some ⟨wr.heap.size, 0, none⟩) m m)) (.cells (madeCells #[Value.int .i64 0] m) 3)
        rw [hsz, ← hW2, hmade, hmz] at this
        exact this
      rw [← hW2] at hT2
      have hSh : Shows W2 ai z := by
        have h0 : Shows w ai z := by rw [HZ.out]; exact HSk.out
        exact h0.below (by rw [← HG.out]; exact HB.out.trans hBW)
      obtain ⟨w3, hcopy, HW3⟩ := run_copy_other (cap := ci) hSh hnew
      rw [← hmz] at hcopy
      have hlen2 : (vs.set k (.slice (some ⟨wr.heap.size, 0, none⟩) m m)).length = ls.length := by rw [List.length_set, hV.len, cpR_len]
      have hrv : rowv (vs.set k (.slice (some ⟨wr.heap.size, 0, none⟩) m m)) k = .slice (some ⟨wr.heap.size, 0, none⟩) m m := by rw [rowv_set _ _ _ _ (by rw [hV.len, cpR_len]; exact hlt), if_pos rfl]
      have HT3 : Hid (Tbl w3 G (.slice (some ⟨G, 0, none⟩) ls.length ls.length) (cpR ls (k + 1))) := by
        have h3 := hT2.refill (w' := w3) (i := k) (zs := z) (by rw [List.length_set]; exact hkl) (fun q hq _ => HW3.out.2.2 q (fun e => hq (by rw [hrv, e]; rfl))) (by
          rw [hrv]
          exact owns_of_row (by omega) HW3.out.1 hmz (by omega))
        rw [HZ.out, cpR_set] at h3
        exact ⟨_, h3⟩
      have HB3 : Hid (Below G w w3) := (HB.out.trans hBW).trans (HW3.out.2.1.mono (by omega))
      have cG2 : W2.cell? ⟨G, k, none⟩ = some (.slice (some ⟨wr.heap.size, 0, none⟩) m m) := by
        obtain ⟨g8, n8, cap8, e8, _, _, _, _, hc8⟩ := hT2.head (by rw [List.length_set]; omega)
        cases e8
        rw [hc8 k (by rw [List.length_set]; exact hkl), hrv]
      have hkl' : (k : Int) < (ls.length : Int) := hlt'
      rw [hW2] at cG2 hcopy
      clear hT2 hnew hSh hO hK hB1 hBW hc9 hf9 hV HT hrv hlen2 hW2 hsz hmade hc0 hmz
      go_wp2
      go_roundw
      case rel => exact ⟨k + 1, by omega, by go_num, HT3, HB3⟩
      case measure => simp [intOf]; omega
    · obtain rfl : k = ls.length := by omega
      have hlt' : ¬ ((ls.length : Int) < (ls.length : Int)) := by omega
      have HE : Hid (Tbl wr G (.slice (some ⟨G, 0, none⟩) ls.length ls.length) ls) := by have := HT.out; rw [cpR_all] at this; exact this
      go_wp2
      go_ret
      exact ⟨_, rfl, by rw [← HG.out]; exact HE.out, by rw [← HG.out]; exact HB.out⟩

end Go.Proofs.YtmbpcapjldbkbaaGreatDoor
