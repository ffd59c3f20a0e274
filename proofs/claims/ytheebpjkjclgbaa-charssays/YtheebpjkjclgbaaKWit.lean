/-
  The contract of chars.without.
-/
import Derived.Test.YtheebpjkjclgbaaKCls
import Derived.Deep.DeepCutAuto
import Derived.Deep.OwnRows
namespace Go.Proofs.Ytheebpjkjclgbaa
open Go.RowKit

theorem Owns.cutY {w : World} {base n cap m : Nat} {a : Option Addr} {zs : List Int} (h : Owns w base (.slice a n cap) zs) (hm : m ≤ zs.length) (ha : a = none → m = 0) : Owns w base (.slice a m cap) (zs.take m) := by
  unfold Owns at h ⊢
  rcases h.2 with ⟨h2, h3⟩ | ⟨g, cap', cur, hv, hg, hh, h4, h5, h6, h7⟩
  · simp only [Value.slice.injEq] at h2
    obtain ⟨rfl, rfl, rfl⟩ := h2
    obtain rfl : m = 0 := ha rfl
    exact ⟨by simp, Or.inl ⟨rfl, by simp⟩⟩
  · simp only [Value.slice.injEq] at hv
    obtain ⟨rfl, rfl, rfl⟩ := hv
    have e : (zs.take m).length = m := by rw [List.length_take]; omega
    refine ⟨by simp, Or.inr ⟨g, cap, cur, by rw [e], hg, hh, by rw [e]; omega, h5, h6, ?_⟩⟩
    rw [e, Nat.mul_one] at *
    rw [List.map_take, ← h7, List.take_take]
    rw [Nat.min_eq_left hm]
/-- Two cells of a block are stored. -/
theorem two_store {w : World} {B : Nat} {x0 y0 x y : Value} {ty : TypeId} (h : w.heap[B]? = some (.cells #[x0, y0] ty (0, 0))) :
    ((w.setCell ⟨B, 0, none⟩ x).setCell ⟨B, 1, none⟩ y).heap[B]? = some (.cells #[x, y] ty (0, 0)) := by
  have h1 := heap_setCell_same w B 0 _ _ x h
  have h2 := heap_setCell_same _ B 1 _ _ y h1
  simpa using h2
/-- The rows while the strip goes down. -/
def mdL (zs : List Int) (i r : Nat) : List Int := tab zs.length fun s => if i ≤ s ∧ s < r then zs.getD (s + 1) 0 - 1 else zs.getD s 0
theorem mdL_len (zs : List Int) (i r : Nat) : (mdL zs i r).length = zs.length := tab_length _ _
theorem mdL_start (zs : List Int) (i : Nat) : mdL zs i i = zs := by
  refine ext_getD (mdL_len _ _ _) fun j hj => ?_
  rw [mdL_len] at hj
  unfold mdL
  rw [tab_getD _ _ _ hj, if_neg (by omega)]
theorem mdL_step {zs : List Int} {i r : Nat} (h1 : i ≤ r) : (mdL zs i r).set r (zs.getD (r + 1) 0 - 1) = mdL zs i (r + 1) := by
  refine ext_getD (by rw [List.length_set, mdL_len, mdL_len]) fun j hj => ?_
  rw [List.length_set, mdL_len] at hj
  rw [set_getD _ _ _ _ (by rw [mdL_len]; exact hj)]
  unfold mdL
  rw [tab_getD _ _ _ hj, tab_getD _ _ _ hj]
  by_cases e : j = r
  · subst e; rw [if_pos rfl, if_pos ⟨h1, by omega⟩]
  · rw [if_neg e]
    by_cases e2 : i ≤ j ∧ j < r
    · rw [if_pos e2, if_pos ⟨e2.1, by omega⟩]
    · rw [if_neg e2, if_neg (by omega)]
theorem mdL_end {zs : List Int} (h : IsPt zs) {i j : Nat} (hj : j < pF zs i) : (mdL zs i (htF zs j - 1)).set (htF zs j - 1) (j : Int) = lfL zs i j := by
  refine ext_getD (by rw [List.length_set, mdL_len, lfL_len]) fun r hr => ?_
  rw [List.length_set, mdL_len] at hr
  rw [set_getD _ _ _ _ (by rw [mdL_len]; exact hr), lfL_at hr]
  have h1 := (htF_iff h i j).2 hj
  have h2 := htF_iff h (r + 1) j
  have h3 := htF_iff h r j
  have h4 := pF_anti h r
  unfold mdL rmF
  rw [tab_getD _ _ _ hr, pF_cast h, pF_cast h]
  by_cases e : r = htF zs j - 1
  · have a1 : ¬ j < pF zs (r + 1) := fun q => by have := h2.2 q; omega
    have a2 : j < pF zs r := h3.1 (by omega)
    rw [if_pos e, if_neg (by omega), if_neg a1]
    omega
  · rw [if_neg e]
    by_cases e2 : r < i
    · rw [if_neg (by omega), if_pos e2]
    · rw [if_neg e2]
      by_cases e3 : r < htF zs j - 1
      · have a1 : j < pF zs (r + 1) := h2.1 (by omega)
        rw [if_pos ⟨by omega, e3⟩, if_pos a1]
        omega
      · have a1 : ¬ j < pF zs (r + 1) := fun q => by have := h2.2 q; omega
        have a2 : ¬ j < pF zs r := fun q => by have := h3.2 q; omega
        rw [if_neg (by omega), if_neg a1]
        omega
theorem lf_idx {zs : List Int} (i j : Nat) : IdxR (lfL zs i j) 0 (if lfN zs i j < zs.length then (lfN zs i j : Int) else -1) := by
  by_cases h : lfN zs i j < zs.length
  · rw [if_pos h]
    have hl : lfN zs i j < (lfL zs i j).length := by rw [lfL_len]; exact h
    refine Or.inr ⟨lfN zs i j, rfl, hl, ?_, fun r hr => ?_⟩
    · have h1 := List.findIdx_getElem (xs := lfL zs i j) (p := fun z => z == 0) (w := hl)
      rw [List.getD, List.getElem?_eq_getElem hl, Option.getD_some]
      exact beq_iff_eq.1 h1
    · have := lfN_pos (zs := zs) (i := i) (j := j) hr
      rw [lfL_at (by omega)]; omega
  · rw [if_neg h]
    refine Or.inl ⟨rfl, fun hm => ?_⟩
    have h1 := List.findIdx_lt_length_of_exists (xs := lfL zs i j) (p := fun z => z == 0) ⟨0, hm, rfl⟩
    rw [lfL_len] at h1
    exact h h1
theorem lfL_bd {zs : List Int} (h : IsPt zs) (i j : Nat) : ∀ z ∈ lfL zs i j, 0 ≤ z ∧ z ≤ 40 := fun z hz => by
  unfold lfL at hz
  obtain ⟨r, _, rfl⟩ := List.mem_map.1 hz
  have := rm_le h i j r
  have := pF_le h r
  omega

set_option maxHeartbeats 8000000 in
set_option maxRecDepth 100000 in
theorem without_at (a : Option Addr) (n cap i j k : Nat) (zs : List Int) (w : World) (hs : Shows w a zs) (hn : n = zs.length) (hp : IsPt zs) (hi : i < n) (hj : j < pF zs i) (hk : hkN zs i j = k) :
    Calls Try.prog 19 #[.slice a n cap, .int .i64 (i : Int), .int .i64 (j : Int), .int .i64 (k : Int)] w fun e w' => ∃ v, e = .returned (.agg #[v, .int .i64 ((htF zs j - 1 - i : Nat) : Int)]) ∧ Hid (Owns w' (w.heap.size + 1) v (stP zs i j)) ∧ Hid (Below w.heap.size w w') := by
  subst hn
  have hl := hs.len
  have hlen := hp.len
  have h1 := (htF_iff hp i j).2 hj
  have h2 := htF_le hp j
  obtain ⟨h, HH⟩ : ∃ h, Hid (h = htF zs j - 1 - i) := ⟨_, rfl⟩
  obtain ⟨p, HP⟩ : ∃ p, Hid (p = pF zs i) := ⟨_, rfl⟩
  rw [← HH.out]
  have hp40 : p ≤ 40 := by rw [HP.out]; exact pF_le hp i
  have hjp : j < p := by rw [HP.out]; exact hj
  have hkv : (k : Int) - 1 - ((p : Int) - 1 - (j : Int)) = (h : Int) := by rw [← hk, HP.out, HH.out]; unfold hkN; omega
  have hk80 : k ≤ 100 := by rw [← hk]; unfold hkN; have := pF_le hp i; omega
  have hih : i + h < zs.length := by have := HH.out; omega
  have hihe : i + h = htF zs j - 1 := by have := HH.out; omega
  obtain ⟨b, off, z, rfl, HZ, -, -, hci⟩ := hs.elem (k := i) hi
  have hzp : z = (p : Int) := by rw [HZ.out, HP.out, pF_cast hp]
  rw [hzp] at hci
  clear hzp HZ
  obtain ⟨wA, HwA⟩ : ∃ wA, Hid (wA = w.alloc (.cells #[.slice none 0 0, .int .i64 0] 30)) := ⟨_, rfl⟩
  have hbA : Below w.heap.size w wA := by rw [HwA.out]; exact (Below.refl _ _).alloc (Nat.le_refl _) _
  have hsA : wA.heap.size = w.heap.size + 1 := by rw [HwA.out]; simp
  have hblkA : wA.heap[w.heap.size]? = some (.cells #[.slice none 0 0, .int .i64 0] 30 (0, 0)) := by rw [HwA.out]; exact heap_alloc_new _ _
  have hbb : b < w.heap.size := by
    rcases Nat.lt_or_ge b w.heap.size with q | q
    · exact q
    · rw [World.cell?] at hci
      simp [Array.getElem?_eq_none q] at hci
  have hciA : wA.cell? ⟨b, off + i, none⟩ = some (.int .i64 (p : Int)) := by rw [hbA.cell (p := ⟨b, off + i, none⟩) hbb]; exact hci
  obtain ⟨i0, hi0, hz0, hz1, hz2⟩ := info_parts Try.info3
  have HSw : Hid (Shows w (some ⟨b, off, none⟩) zs) := hs
  have hsA' := hs.below hbA
  have HPt : Hid (IsPt zs) := hp
  have HJ : Hid (j < pF zs i) := hj
  have HBA : Hid (Below w.heap.size w wA) := hbA
  have HbkA : Hid (wA.heap[w.heap.size]? = some (.cells #[.slice none 0 0, .int .i64 0] 30 (0, 0))) := hblkA
  have HsA : Hid (wA.heap.size = w.heap.size + 1) := hsA
  have HIH : Hid (i + h = htF zs j - 1) := hihe
  have hilt : (i : Int) < (zs.length : Int) := by omega
  obtain ⟨R, HR⟩ : ∃ R, Hid (R = i + h) := ⟨_, rfl⟩
  have hRe : (i : Int) + (h : Int) = (R : Int) := by have := HR.out; omega
  have hRl : R < zs.length := by have := HR.out; omega
  have hiR : i ≤ R := by have := HR.out; omega
  have HIR : Hid (R = htF zs j - 1) := by show _ = _; have := HR.out; omega
  clear hs hp hj hk h1 h2 hihe hblkA hci hsA hih
  go_enter Try.func19, Try.ntmps19
  go_upto_region 1 with fail
  rw [← HwA.out]
  go_wp2_with (at_make; refine wpList_make_full _ rfl _ _ 22 rfl wA.heap.size 3 i0 (.int .i64 0) 1 Try.underlying22 hi0 hz0 hz1 _ _ _ _ zs.length rfl rfl rfl rfl ?b1 ?b2 ?b3 ?_)
  case b1 => rw [hz2]; omega
  case b2 => unfold maxLen; omega
  case b3 => exact Nat.le_refl _
  intro w1 hown hgrow
  have hb1 : Below wA.heap.size wA w1 := (Below.refl _ _).grown hgrow (Nat.le_refl _) (fun k h => by cases h)
  have hrow : w1.heap[wA.heap.size]? = some (.cells (List.replicate zs.length (Value.int .i64 0)).toArray 3 (0, 0)) := by
    rcases hown.2 with ⟨h2, _⟩ | ⟨g', cap', cur, hv, hg, hh, h4, h5, h6, h7⟩
    · cases h2
    · simp only [Value.slice.injEq, Option.some.injEq, Addr.mk.injEq, and_true, true_and] at hv
      obtain ⟨rfl, rfl⟩ := hv
      rw [hh]
      have e0 : cur.toList = List.replicate zs.length (Value.int .i64 0) := by
        rw [← toList_madeCells_one, List.take_of_length_le (by simp [h6])] at *
        rw [h7]
        try simp [Value.cells]
      rw [← e0]
  have hs1 := hsA'.below hb1
  obtain ⟨w2, hrun, HR2, hb2⟩ := run_copy_all (cap := cap) hs1 hrow hb1 (Nat.le_refl _)
  have HO2 : Hid (Owns w2 wA.heap.size (.slice (some ⟨wA.heap.size, 0, none⟩) zs.length zs.length) (mdL zs i i)) := by
    rw [mdL_start]; exact owns_of_row (Nat.le_refl _) HR2.out rfl hl
  have HB2 : Hid (Below wA.heap.size wA w2) := hb2
  obtain ⟨G, HG⟩ : ∃ G, Hid (G = wA.heap.size) := ⟨_, rfl⟩
  rw [← HG.out] at HO2 HB2 hrun
  clear hrow hown hgrow hs1 hb1 hb2 HR2
  rw [← HG.out]
  go_wp2
  go_loopw [12] (fun rv wr => ∃ r : Nat, i ≤ r ∧ r ≤ R ∧ rv = .int .i64 (r : Int) ∧ Hid (Owns wr G (.slice (some ⟨G, 0, none⟩) zs.length zs.length) (mdL zs i r)) ∧ Hid (Below G wA wr)) (fun rv _ => R - (intOf rv).toNat)
  case atStart => exact ⟨i, Nat.le_refl _, hiR, rfl, HO2, HB2⟩
  case round =>
    clear HO2 HB2 hrun
    obtain ⟨r, hr1, hr2, rfl, HO, HB⟩ := hrel
    have HBw : Hid (Below w.heap.size w wr) := HBA.out.trans (HB.out.mono (by rw [HG.out]; exact HBA.out.size))
    by_cases hlt : r < R
    · have hlt' : (r : Int) < (R : Int) := by omega
      obtain ⟨b2, off2, y, e2, HY, hy1, hy2, hcy⟩ := (HSw.out.below HBw.out).elem (k := r + 1) (by omega)
      simp only [Option.some.injEq, Addr.mk.injEq, and_true] at e2
      obtain ⟨rfl, rfl⟩ := e2
      obtain ⟨r1, HR1⟩ : ∃ r1, Hid (r1 = r + 1) := ⟨_, rfl⟩
      have hr1e : (r : Int) + 1 = (r1 : Int) := by have := HR1.out; omega
      have hr1l : (r1 : Int) < (zs.length : Int) := by have := HR1.out; omega
      have hrl : (r : Int) < (zs.length : Int) := by omega
      rw [← HR1.out] at hcy HY
      have hyr := HPt.out.range y (by rw [HY.out, HR1.out]; exact getD_mem (by omega))
      obtain ⟨g, cp, e3, -, hglt, hfz, hce⟩ := HO.out.head (by rw [mdL_len]; omega)
      simp only [Value.slice.injEq, Option.some.injEq, Addr.mk.injEq, and_true] at e3
      obtain ⟨rfl, -, -⟩ := e3
      have hcr := hce r (by rw [mdL_len]; omega)
      have hfr := hfz r
      have HO2 : Hid (Owns (wr.setCell ⟨G, r, none⟩ (.int .i64 (y - 1))) G (.slice (some ⟨G, 0, none⟩) zs.length zs.length) (mdL zs i (r + 1))) := by
        have := HO.out.store (by rw [mdL_len]) r (y - 1)
        rw [← mdL_step hr1, ← HR1.out, ← HY.out]; exact this
      have HB2 : Hid (Below G wA (wr.setCell ⟨G, r, none⟩ (.int .i64 (y - 1)))) := HB.out.setCell (p := ⟨G, r, none⟩) (Nat.le_refl _) _
      clear hce hfz
      go_wp2
      exact ⟨⟨r + 1, by omega, by omega, by go_num, HO2, HB2⟩, by simp [intOf]; omega⟩
    · obtain rfl : r = R := by omega
      have hlt' : ¬ (r : Int) < (r : Int) := by omega
      have hrl : (r : Int) < (zs.length : Int) := by omega
      obtain ⟨g, cp, e3, -, hglt, hfz, hce⟩ := HO.out.head (by rw [mdL_len]; omega)
      simp only [Value.slice.injEq, Option.some.injEq, Addr.mk.injEq, and_true] at e3
      obtain ⟨rfl, -, -⟩ := e3
      have hcr := hce r (by rw [mdL_len]; omega)
      have hfr := hfz r
      obtain ⟨w3, Hw3⟩ : ∃ w3, Hid (w3 = wr.setCell ⟨G, r, none⟩ (.int .i64 (j : Int))) := ⟨_, rfl⟩
      have HO3 : Hid (Owns w3 G (.slice (some ⟨G, 0, none⟩) zs.length zs.length) (lfL zs i j)) := by
        have := HO.out.store (by rw [mdL_len]) r (j : Int)
        rw [HIR.out, mdL_end HPt.out HJ.out, ← HIR.out] at this
        rw [Hw3.out]; exact this
      have HB3 : Hid (Below G wA w3) := by rw [Hw3.out]; exact HB.out.setCell (p := ⟨G, r, none⟩) (Nat.le_refl _) _
      have HB3w : Hid (Below w.heap.size w w3) := HBA.out.trans (HB3.out.mono (by rw [HG.out]; exact HBA.out.size))
      have hblk : w3.heap[w.heap.size]? = some (.cells #[.slice none 0 0, .int .i64 0] 30 (0, 0)) := by
        rw [HB3.out.block w.heap.size (by rw [HG.out, HsA.out]; omega)]; exact HbkA.out
      have c0 : w3.cell? ⟨w.heap.size, 0, none⟩ = some (.slice none 0 0) := by simp [World.cell?, hblk]
      have c1 : w3.cell? ⟨w.heap.size, 1, none⟩ = some (.int .i64 0) := by simp [World.cell?, hblk]
      have f0 : w3.frozen? ⟨w.heap.size, 0, none⟩ = false := frozen_of_row w3 _ 0 _ _ hblk
      have f1 : w3.frozen? ⟨w.heap.size, 1, none⟩ = false := frozen_of_row w3 _ 1 _ _ hblk
      obtain ⟨ix, HIx⟩ : ∃ ix : Int, Hid (ix = if lfN zs i j < zs.length then (lfN zs i j : Int) else -1) := ⟨_, rfl⟩
      have HCI : Hid (Calls Try.prog 18 #[.slice (some ⟨G, 0, none⟩) zs.length zs.length, .int .i64 0] w3 fun e w' => e = .returned (.int .i64 ix) ∧ w' = w3) := by
        obtain ⟨a9, c9, e9, hS9⟩ := HO3.out.shows (by rw [lfL_len]; exact hl) (fun z hz => by have := lfL_bd HPt.out i j z hz; omega)
        simp only [Value.slice.injEq] at e9
        obtain ⟨rfl, -, rfl⟩ := e9
        have h9 := lf_idx (zs := zs) i j
        rw [← HIx.out] at h9
        have := Index_any (some ⟨G, 0, none⟩) zs.length (lfL zs i j) 0 ix w3 hS9 h9
        rw [lfL_len] at this
        exact this
      have HGw : Hid (w.heap.size < G) := by show _ < _; rw [HG.out, HsA.out]; omega
      have HFin : Hid (∀ m, m = lfN zs i j → Owns ((w3.setCell ⟨w.heap.size, 0, none⟩ (.slice (some ⟨G, 0, none⟩) m zs.length)).setCell ⟨w.heap.size, 1, none⟩ (.int .i64 (h : Int))) (w.heap.size + 1) (.slice (some ⟨G, 0, none⟩) m zs.length) (stP zs i j) ∧ Below w.heap.size w ((w3.setCell ⟨w.heap.size, 0, none⟩ (.slice (some ⟨G, 0, none⟩) m zs.length)).setCell ⟨w.heap.size, 1, none⟩ (.int .i64 (h : Int)))) := fun m hm => by
        subst hm
        have h1 := HO3.out.cutY (m := lfN zs i j) (by rw [lfL_len]; exact lfN_le zs i j) (fun e => by cases e)
        refine ⟨?_, (HB3w.out.setCell (p := ⟨w.heap.size, 0, none⟩) (Nat.le_refl _) _).setCell (p := ⟨w.heap.size, 1, none⟩) (Nat.le_refl _) _⟩
        have hle : w.heap.size + 1 ≤ G := HGw.out
        have h2 := h1.mono hle
        refine ownsRow_blocks h2 (fun q hq => ?_)
        have hqG : q = G := by have := hq; simp [Value.ownBlock] at this; exact this.symm
        rw [heap_setCell_other _ _ _ _ (by show q ≠ w.heap.size; have := HGw.out; omega), heap_setCell_other _ _ _ _ (by show q ≠ w.heap.size; have := HGw.out; omega)]
      have HF := hid_w hblk
      clear hce hfz hblk
      go_wp2_with fail
      rw [← Hw3.out]
      refine HCI.out.mono ?_
      rintro e w4 ⟨rfl, hw4⟩
      obtain rfl : w3 = w4 := hw4.symm
      clear hw4 HCI
      by_cases hN : lfN zs i j < zs.length
      · obtain ⟨N, HN⟩ : ∃ N, Hid (N = lfN zs i j) := ⟨_, rfl⟩
        have hix : ix = (N : Int) := by rw [HIx.out, if_pos hN, HN.out]
        have hNl : N < zs.length := by rw [HN.out]; exact hN
        subst hix
        have hge : (N : Int) ≥ 0 := by omega
        have hNi : (N : Int) ≤ (zs.length : Int) := by omega
        clear hN
        go_wp2
        have hst := two_store (x := .slice (some ⟨G, 0, none⟩) N zs.length) (y := .int .i64 (h : Int)) HF.out
        have d0 : ((w3.setCell ⟨w.heap.size, 0, none⟩ (.slice (some ⟨G, 0, none⟩) N zs.length)).setCell ⟨w.heap.size, 1, none⟩ (.int .i64 (h : Int))).cell? ⟨w.heap.size, 0, none⟩ = some (.slice (some ⟨G, 0, none⟩) N zs.length) := by simp [World.cell?, hst]
        have d1 : ((w3.setCell ⟨w.heap.size, 0, none⟩ (.slice (some ⟨G, 0, none⟩) N zs.length)).setCell ⟨w.heap.size, 1, none⟩ (.int .i64 (h : Int))).cell? ⟨w.heap.size, 1, none⟩ = some (.int .i64 (h : Int)) := by simp [World.cell?, hst]
        obtain ⟨q1, q2⟩ := HFin.out N HN.out
        exact bodyPost_ret (v := .agg #[.slice (some ⟨G, 0, none⟩) N zs.length, .int .i64 (h : Int)]) (by simp [results, go_sem, d0, d1]) rfl ⟨_, rfl, q1, q2⟩
      · have hix : ix = -1 := by rw [HIx.out, if_neg hN]
        subst hix
        have HNe : Hid (zs.length = lfN zs i j) := by show _ = _; have := lfN_le zs i j; omega
        clear hN
        go_wp2
        have hst := two_store (x := .slice (some ⟨G, 0, none⟩) zs.length zs.length) (y := .int .i64 (h : Int)) HF.out
        have d0 : ((w3.setCell ⟨w.heap.size, 0, none⟩ (.slice (some ⟨G, 0, none⟩) zs.length zs.length)).setCell ⟨w.heap.size, 1, none⟩ (.int .i64 (h : Int))).cell? ⟨w.heap.size, 0, none⟩ = some (.slice (some ⟨G, 0, none⟩) zs.length zs.length) := by simp [World.cell?, hst]
        have d1 : ((w3.setCell ⟨w.heap.size, 0, none⟩ (.slice (some ⟨G, 0, none⟩) zs.length zs.length)).setCell ⟨w.heap.size, 1, none⟩ (.int .i64 (h : Int))).cell? ⟨w.heap.size, 1, none⟩ = some (.int .i64 (h : Int)) := by simp [World.cell?, hst]
        obtain ⟨q1, q2⟩ := HFin.out zs.length HNe.out
        exact bodyPost_ret (v := .agg #[.slice (some ⟨G, 0, none⟩) zs.length zs.length, .int .i64 (h : Int)]) (by simp [results, go_sem, d0, d1]) rfl ⟨_, rfl, q1, q2⟩

end Go.Proofs.Ytheebpjkjclgbaa
