/-
  The memory of the closure in fill.tableauxOf.
-/
import Derived.Test.YtmbpcapjldbkbaaGreatDoorWLst
import Derived.Test.YtmbpcapjldbkbaaGreatDoorWCpy
import Derived.Test.YtmbpcapjldbkbaaGreatDoorTTab
namespace Go.Proofs.YtmbpcapjldbkbaaGreatDoor
open Go.RowKit

theorem Tryz.infoC : (Tryz.prog.info? 34).map (fun i => (i.zero, i.size, i.bytes)) = some (some (.slice none 0 0), 1, 24) := by kernel_rfl
theorem elem_cub : Elem 23 34 (.slice none 0 0) 24 := ⟨Tryz.underlying23, Tryz.infoC, rfl⟩
theorem cell_oneX {w : World} {B : Nat} {v : Value} {ty : TypeId} (h : w.heap[B]? = some (.cells #[v] ty (0, 0))) : w.cell? ⟨B, 0, none⟩ = some v ∧ w.frozen? ⟨B, 0, none⟩ = false :=
  ⟨by simp [World.cell?, h], frozen_of_row w _ 0 _ _ h⟩
theorem Owns.cutX {w : World} {base n cap m : Nat} {a : Option Addr} {zs : List Int} (h : Owns w base (.slice a n cap) zs) (hm : m ≤ zs.length) (ha : a = none → m = 0) : Owns w base (.slice a m cap) (zs.take m) := by
  unfold Owns at h ⊢
  rcases h.2 with ⟨h2, h3⟩ | ⟨g, cap', cur, hv, hg, hh, h4, h5, h6, h7⟩
  · simp only [Value.slice.injEq] at h2
    obtain ⟨rfl, rfl, rfl⟩ := h2
    obtain rfl : m = 0 := ha rfl
    exact ⟨by simp, Or.inl ⟨rfl, by simp⟩⟩
  · simp only [Value.slice.injEq] at hv
    obtain ⟨rfl, rfl, rfl⟩ := hv
    have e : (zs.take m).length = m := by rw [List.length_take]; omega
    refine ⟨by simp, Or.inr ⟨g, cap, cur, by rw [e], hg, hh, by rw [e]; omega, h5, h6, ?_⟩⟩
    rw [e, Nat.mul_one] at *
    rw [List.map_take, ← h7, List.take_take]
    rw [Nat.min_eq_left hm]

structure TX (H : Nat) (w0 w : World) (l0 R lo m : Nat) (vl : Value) (us vs : List Value) (rows : List (List Nat)) : Prop where
  st : ∀ k, k < lo → k ≠ l0 → k ≠ R → w.heap[k]? = w0.heap[k]?
  sz : lo ≤ w.heap.size
  lb : w.heap[l0]? = some (.cells #[vl] 23 (0, 0))
  li : w.ownsRow lo 34 1 vl us.length us
  tb : TblV w R (.slice (some ⟨R, 0, none⟩) m m) vs (castT rows)
  rl : ∀ i, i < m → ∀ g, (rowv vs i).ownBlock = some g → lo ≤ g
  ap : ∀ i, i < m → Apart (rowv vs i) vl
  lt : l0 < lo ∧ R < lo ∧ l0 ≠ R
  rm : rows.length = m
  be : Below H w0 w
  hh : H ≤ l0 ∧ H ≤ R
theorem TX.lenV {H : Nat} {w0 w : World} {l0 R lo m : Nat} {vl : Value} {us vs : List Value} {rows : List (List Nat)} (h : TX H w0 w l0 R lo m vl us vs rows) : vs.length = m := by rw [h.tb.len, castT_len, h.rm]
theorem TX.below {H : Nat} {w0 w w' : World} {l0 R lo m : Nat} {vl : Value} {us vs : List Value} {rows : List (List Nat)} (h : TX H w0 w l0 R lo m vl us vs rows) (hb : Below w.heap.size w w') : TX H w0 w' l0 R lo m vl us vs rows :=
  ⟨fun k h1 h2 h3 => by rw [hb.block k (Nat.lt_of_lt_of_le h1 h.sz)]; exact h.st k h1 h2 h3, Nat.le_trans h.sz hb.size, by rw [hb.block l0 (Nat.lt_of_lt_of_le h.lt.1 h.sz)]; exact h.lb, ownsRow_blocks h.li (fun k e => hb.block k (h.li.lt k e).2), h.tb.same (fun k _ hk => hb.block k hk), h.rl, h.ap, h.lt, h.rm, h.be.trans (hb.mono (Nat.le_trans h.hh.1 (Nat.le_trans (Nat.le_of_lt h.lt.1) h.sz))), h.hh⟩
/-- The list grows. -/
theorem TX.push {H : Nat} {w0 w w2 : World} {l0 R lo m : Nat} {vl v2 u : Value} {us vs : List Value} {rows : List (List Nat)} (h : TX H w0 w l0 R lo m vl us vs rows) (ho : w2.ownsRow lo 34 1 v2 (us ++ [u]).length (us ++ [u])) (hb : Below lo w w2) (hk : KeepB vl v2 w w2) :
    TX H w0 (w2.setCell ⟨l0, 0, none⟩ v2) l0 R lo m v2 (us ++ [u]) vs rows := by
  obtain ⟨h1, h2, h3⟩ := h.lt
  have hsz := h.sz
  have hvl : ∀ k, k < lo → vl.ownBlock ≠ some k := fun k hk2 e => by have := (h.li.lt k e).1; omega
  have key : ∀ k, k < w.heap.size → vl.ownBlock ≠ some k → k ≠ l0 → (w2.setCell ⟨l0, 0, none⟩ v2).heap[k]? = w.heap[k]? := fun k a1 a2 a3 => by
    rw [heap_setCell_other _ _ _ _ a3, hk.block k a1 a2]
  have hrow : ∀ i, i < m → ∀ g, (rowv vs i).ownBlock = some g → g < w.heap.size := fun i hi g hg => ((h.tb.rows i (by rw [castT_len, h.rm]; exact hi)).lt hg).2
  refine ⟨fun k a1 a2 a3 => by rw [key k (by omega) (hvl k a1) a2]; exact h.st k a1 a2 a3, ?_, ?_, ?_, ?_, h.rl, fun i hi => ?_, h.lt, h.rm, ?_, h.hh⟩
  · have := hk.size; simp; omega
  · have e0 : w2.heap[l0]? = some (.cells #[vl] 23 (0, 0)) := by rw [hk.block l0 (by omega) (hvl l0 h1)]; exact h.lb
    have := heap_setCell_same w2 l0 0 _ _ v2 e0
    simpa using this
  · exact ownsRow_blocks ho (fun k e => heap_setCell_other _ _ _ _ (by have := (ho.lt k e).1; show k ≠ l0; omega))
  · refine ⟨ownsRow_blocks h.tb.own (fun k e => key k (h.tb.own.lt k e).2 ?_ ?_), h.tb.len, fun i hi => ownsRow_blocks (h.tb.rows i hi) (fun k e => key k ((h.tb.rows i hi).lt e).2 ?_ ?_), h.tb.apart, h.tb.off⟩
    · have : k = R := by cases e; rfl
      rw [this]; exact hvl R h2
    · have : k = R := by cases e; rfl
      omega
    · exact h.ap i (by rw [castT_len, h.rm] at hi; exact hi) k e
    · have := h.rl i (by rw [castT_len, h.rm] at hi; exact hi) k e; omega
  · intro g e1 e2
    rcases hk.lies g e2 with q | q
    · exact h.ap i hi g e1 q
    · have := hrow i hi g e1; omega
  · exact (h.be.trans (hb.mono (Nat.le_trans h.hh.1 (Nat.le_of_lt h1)))).setCell (p := ⟨l0, 0, none⟩) h.hh.1 _
/-- A row changes. -/
theorem TX.setrow {H : Nat} {w0 w w2 : World} {l0 R lo m i : Nat} {vl v2 : Value} {us vs : List Value} {rows : List (List Nat)} {l : List Nat} (h : TX H w0 w l0 R lo m vl us vs rows) (hi : i < m) (ho : Owns w2 lo v2 (castL l)) (hb : Below lo w w2) (hk : KeepB (rowv vs i) v2 w w2) :
    TX H w0 (w2.setCell ⟨R, i, none⟩ v2) l0 R lo m vl us (vs.set i v2) (rows.set i l) := by
  obtain ⟨h1, h2, h3⟩ := h.lt
  have hsz := h.sz
  have hvr : ∀ k, k < lo → (rowv vs i).ownBlock ≠ some k := fun k hk2 e => by have := h.rl i hi k e; omega
  have key : ∀ k, k < w.heap.size → (rowv vs i).ownBlock ≠ some k → k ≠ R → (w2.setCell ⟨R, i, none⟩ v2).heap[k]? = w.heap[k]? := fun k a1 a2 a3 => by
    rw [heap_setCell_other _ _ _ _ a3, hk.block k a1 a2]
  have hlr : ∀ q, q < m → rowv (vs.set i v2) q = if q = i then v2 else rowv vs q := fun q hq => rowv_set _ _ _ _ (by rw [h.lenV]; exact hq)
  refine ⟨fun k a1 a2 a3 => by rw [key k (by omega) (hvr k a1) a3]; exact h.st k a1 a2 a3, ?_, by rw [key l0 (by omega) (hvr l0 h1) h3]; exact h.lb, ownsRow_blocks h.li (fun k e => key k (h.li.lt k e).2 (fun e2 => h.ap i hi k e2 e) (by have := (h.li.lt k e).1; omega)), ?_, fun q hq g hg => ?_, fun q hq => ?_, h.lt, by rw [List.length_set]; exact h.rm, (h.be.trans (hb.mono (Nat.le_trans h.hh.1 (Nat.le_of_lt h1)))).setCell (p := ⟨R, i, none⟩) h.hh.2 _, h.hh⟩
  · have := hk.size; simp; omega
  · have h5 := h.tb.setRow (by rw [castT_len, h.rm]; exact hi) (ho.mono (Nat.le_of_lt h2)) hk
    rw [show (castT rows).set i (castL l) = castT (rows.set i l) by simp [castT, List.map_set]] at h5
    exact h5
  · rw [hlr q hq] at hg
    split at hg
    · exact (ho.lt hg).1
    · exact h.rl q hq g hg
  · rw [hlr q hq]
    split
    · intro g e1 e2
      rcases hk.lies g e1 with z | z
      · exact h.ap i hi g z e2
      · have := (h.li.lt g e2).2; omega
    · exact h.ap q hq

/-- The boxes that are left. -/
def rb (c : Nat → Nat) (m i j : Nat) : List (Nat × Nat) := if i < m then rowX i j (c i - j) ++ bxR c (i + 1) (m - i - 1) else []
theorem rb_start (c : Nat → Nat) (m : Nat) : rb c m 0 0 = bxR c 0 m := by
  unfold rb
  cases m with
  | zero => rfl
  | succ m => rw [if_pos (by omega), bxR]; rfl
theorem rb_row {c : Nat → Nat} {m i : Nat} (h : i < m) : rb c m i (c i) = rb c m (i + 1) 0 := by
  unfold rb
  rw [if_pos h, Nat.sub_self, rowX, List.nil_append]
  by_cases e : i + 1 < m
  · rw [if_pos e]
    obtain ⟨k, hk⟩ : ∃ k, m - i - 1 = k + 1 := ⟨m - i - 2, by omega⟩
    rw [hk, bxR, show m - (i + 1) - 1 = k by omega]; rfl
  · rw [if_neg e, show m - i - 1 = 0 by omega]; rfl
theorem rb_box {c : Nat → Nat} {m i j : Nat} (h : i < m) (hj : j < c i) : rb c m i j = (i, j) :: rb c m i (j + 1) := by
  unfold rb
  rw [if_pos h, if_pos h]
  obtain ⟨k, hk⟩ : ∃ k, c i - j = k + 1 := ⟨c i - j - 1, by omega⟩
  rw [hk, rowX, List.cons_append, show c i - (j + 1) = k by omega]
theorem rS_next {c : Nat → Nat} {g : Nat → Nat → Nat} {m i : Nat} : rS c g m i (c i) = rS c g m (i + 1) 0 := by
  unfold rS
  refine List.map_congr_left fun r _ => ?_
  by_cases e : r < i
  · rw [if_pos e, if_pos (by omega)]
  · by_cases e2 : r = i
    · subst e2; rw [if_neg e, if_pos rfl, if_pos (by omega)]
    · rw [if_neg e, if_neg e2, if_neg (by omega)]
      split <;> simp
theorem rS_put {c : Nat → Nat} {g : Nat → Nat → Nat} {m i j x : Nat} : (rS c g m i j).set i ((List.range j).map (g i) ++ [x]) = rS c (upd2 g i j x) m i (j + 1) := by
  refine List.ext_getElem (by simp [rS]) fun r h1 h2 => ?_
  simp only [rS, List.getElem_set, List.getElem_map, List.getElem_range]
  by_cases e : i = r
  · subst e
    rw [if_pos rfl, if_neg (by omega), if_pos rfl, List.range_succ, List.map_append]
    congr 1
    · exact List.map_congr_left fun q hq => (upd2_other g (by have := List.mem_range.1 hq; omega)).symm
    · simp [upd2_same]
  · rw [if_neg e]
    by_cases e2 : r < i
    · rw [if_pos e2, if_pos e2]
      exact List.map_congr_left fun q _ => (upd2_other g (by omega)).symm
    · rw [if_neg e2, if_neg e2, if_neg (fun q => e q.symm), if_neg (fun q => e q.symm)]
theorem rS_cut {c : Nat → Nat} {g : Nat → Nat → Nat} {m i j x : Nat} : (rS c (upd2 g i j x) m i (j + 1)).set i ((List.range j).map (g i)) = rS c g m i j := by
  refine List.ext_getElem (by simp [rS]) fun r h1 h2 => ?_
  simp only [rS, List.getElem_set, List.getElem_map, List.getElem_range]
  by_cases e : i = r
  · subst e
    rw [if_pos rfl, if_neg (by omega), if_pos rfl]
  · rw [if_neg e]
    by_cases e2 : r < i
    · rw [if_pos e2, if_pos e2]
      exact List.map_congr_left fun q _ => upd2_other g (by omega)
    · rw [if_neg e2, if_neg e2, if_neg (fun q => e q.symm), if_neg (fun q => e q.symm)]
theorem rS_bd {c : Nat → Nat} {g : Nat → Nat → Nat} {m i j : Nat} (hc : ∀ r, c r ≤ 1000) (hj : j ≤ 1000) (hg : ∀ r q, g r q ≤ 1000) : ∀ l ∈ rS c g m i j, l.length ≤ 1000 ∧ ∀ z ∈ l, z ≤ 1000 := fun l hl => by
  unfold rS at hl
  obtain ⟨r, _, rfl⟩ := List.mem_map.1 hl
  split
  · refine ⟨by simp; exact hc r, fun z hz => by obtain ⟨q, _, rfl⟩ := List.mem_map.1 hz; exact hg r q⟩
  · split
    · refine ⟨by simp; exact hj, fun z hz => by obtain ⟨q, _, rfl⟩ := List.mem_map.1 hz; exact hg r q⟩
    · exact ⟨by simp, fun z hz => by cases hz⟩
theorem castT_bdX {t : List (List Nat)} (ht : ∀ r ∈ t, r.length ≤ 1000 ∧ ∀ z ∈ r, z ≤ 1000) : ∀ l ∈ castT t, l.length ≤ 1000 ∧ l.length ≤ 17592186044416 ∧ ∀ z ∈ l, -9223372036854775808 ≤ z ∧ z ≤ 9223372036854775807 := fun l hl => by
  unfold castT at hl
  obtain ⟨r, hr, rfl⟩ := List.mem_map.1 hl
  have h := ht r hr
  refine ⟨by rw [castL_len]; exact h.1, by rw [castL_len]; omega, fun z hz => ?_⟩
  have := castL_lt h.2 z hz
  omega

end Go.Proofs.YtmbpcapjldbkbaaGreatDoor
