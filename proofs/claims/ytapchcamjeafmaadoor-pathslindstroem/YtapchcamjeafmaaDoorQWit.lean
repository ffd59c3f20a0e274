/-
  paths.without: rows of int64 without a column.
-/
import Derived.Test.YtapchcamjeafmaaDoorTApp
import Derived.Test.YtapchcamjeafmaaDoorQMat
import Derived.Test.YtapchcamjeafmaaDoorQRgc
import Derived.Deep.RegionLaw
import Derived.Deep.CutBlock
namespace Go.Proofs.YtapchcamjeafmaaDoor
open Go.RowKit

theorem Tryd.infoL : (Tryd.prog.info? 2).map (fun i => (i.zero, i.size, i.bytes)) = some (some (.int .i64 0), 1, 8) := by kernel_rfl
theorem elem_l : Elem 33 2 (.int .i64 0) 8 := ⟨Tryd.underlying33, Tryd.infoL, rfl⟩
theorem Tryd.infoLr : (Tryd.prog.info? 33).map (fun i => (i.zero, i.size, i.bytes)) = some (some (.slice none 0 0), 1, 24) := by kernel_rfl
/-- 'append(s, xs...)' in a region that draws its order. -/
theorem step_all {T E : TypeId} {z : Value} {bytes : Nat} (he : Elem T E z bytes) {w : World} {base : Nat} {v : Value} {xs news : List Value} {ops : Array Oper} {o : Oper} {a : Act} {K : Act → World → Prop} {Q : Exit → Act → World → Prop} {EE : Prop} (hgd : o.guard = none) (s y : Operand)
    (ho : o.op = .call { callee := .builtin .append, args := #[s, y], argTypes := #[T, T] }) (hs : a.eval s = v) (ad : Addr) (n c : Nat) (hx : a.eval y = .slice (some ad) n c) (hn : n = news.length) (hown : w.ownsRow base E 1 v xs.length xs)
    (hnews : ∀ j u, news[j]? = some u → w.cell? (ad.add j) = some u) (hone : ∀ u ∈ news, u.oneCell' = true) (h63 : xs.length + news.length ≤ maxLen) (hl : (xs.length + news.length) * bytes ≤ 140737488355328) (hbase : base ≤ w.heap.size)
    (h : ∀ v' w', w'.ownsRow base E 1 v' (xs ++ news).length (xs ++ news) → Below base w w' → KeepB v v' w w' → K (a.put o.dst v') w') :
    if Region.wanted o (yielded ops a.tmps) = true then Oper.wp Tryd.prog o a w K Q else EE := by
  subst hn
  have hw : Region.wanted o (yielded ops a.tmps) = true := by simp [Region.wanted, hgd]
  rw [if_pos hw]
  obtain ⟨v', w', hrun, r1, r2, r3⟩ := run_append_kb he o.type hown ad c hnews hone h63 hl hbase
  unfold Oper.wp
  simp [execOp, ho, resolve, invoke, builtin, hs, hx, hrun, Result.andThen]
  exact h v' w' r1 r2 r3
theorem heap_alloc_lastX (w : World) (o : Obj) : (w.alloc o).heap[w.heap.size]? = some o := by
  show (w.heap.push _)[w.heap.size]? = _
  rw [Array.getElem?_push_size]
/-- A row of its own, in a block behind G. -/
def RwB (w : World) (G n : Nat) (v : Value) (zs : List Int) : Prop := zs.length = n ∧ ∃ b c, v = .slice (some ⟨b, 0, none⟩) n c ∧ n ≤ c ∧ G < b ∧ b < w.heap.size ∧ ∀ q, q < n → w.cell? ⟨b, q, none⟩ = some (.int .i64 (zs.getD q 0))
/-- The first k rows stand. -/
def LfB (w : World) (G m n k : Nat) (ls : List (List Int)) : Prop := ∃ f : Nat → Value, w.heap[G]? = some (.cells (rgC m f) 33 (0, 0)) ∧ ∀ i, i < k → RwB w G n (f i) (ls.getD i [])
theorem RwB.same {w w' : World} {G n : Nat} {v : Value} {zs : List Int} (h : RwB w G n v zs) (hs : w.heap.size ≤ w'.heap.size) (hk : ∀ b, G < b → b < w.heap.size → w'.heap[b]? = w.heap[b]?) : RwB w' G n v zs := by
  obtain ⟨hl, b, c, h1, hc, h2, h3, h4⟩ := h
  refine ⟨hl, b, c, h1, hc, h2, Nat.lt_of_lt_of_le h3 hs, fun q hq => ?_⟩
  rw [← h4 q hq]
  simp only [World.cell?]
  rw [hk b h2 h3]
theorem LfB.same {w w' : World} {G m n k : Nat} {ls : List (List Int)} (h : LfB w G m n k ls) (hs : w.heap.size ≤ w'.heap.size) (hk : ∀ b, G ≤ b → b < w.heap.size → w'.heap[b]? = w.heap[b]?) : LfB w' G m n k ls := by
  obtain ⟨f, h1, h2⟩ := h
  have hG : G < w.heap.size := (Array.getElem?_eq_some_iff.1 h1).1
  exact ⟨f, by rw [hk G (Nat.le_refl _) hG]; exact h1, fun i hi => (h2 i hi).same hs (fun b hb hb' => hk b (Nat.le_of_lt hb) hb')⟩
theorem LfB.cell {w : World} {G m n k : Nat} {ls : List (List Int)} (h : LfB w G m n k ls) {i : Nat} (hi : i < m) : ∃ u, w.cell? ⟨G, i, none⟩ = some u := by
  obtain ⟨f, h1, h2⟩ := h
  exact ⟨_, by rw [cell_of_row w G i _ _ _ h1, rgC_get _ _ _ hi]⟩
theorem LfB.store {w : World} {G m n k : Nat} {ls : List (List Int)} (h : LfB w G m n k ls) {v : Value} (hv : RwB w G n v (ls.getD k [])) : LfB (w.setCell ⟨G, k, none⟩ v) G m n (k + 1) ls := by
  obtain ⟨f, h1, h2⟩ := h
  have hG : G < w.heap.size := (Array.getElem?_eq_some_iff.1 h1).1
  refine ⟨fun i => if i = k then v else f i, by rw [heap_setCell_same w G k _ _ _ h1, rgC_set], fun i hi => ?_⟩
  have hsame : ∀ b, G < b → b < w.heap.size → (w.setCell ⟨G, k, none⟩ v).heap[b]? = w.heap[b]? := fun b hb _ => heap_setCell_other _ _ _ _ (by show b ≠ G; omega)
  have hsz : w.heap.size ≤ (w.setCell ⟨G, k, none⟩ v).heap.size := by simp
  by_cases e : i = k
  · subst e
    simp only [if_true]
    exact hv.same hsz hsame
  · simp only [if_neg e]
    exact (h2 i (by omega)).same hsz hsame
/-- The address shows rows of int64, each somewhere. -/
def TbL (w : World) (a : Option Addr) (ls : List (List Int)) : Prop := ∀ i, i < ls.length → ∃ b off b2 o2 ci, a = some ⟨b, off, none⟩ ∧ b < w.heap.size ∧ w.cell? ⟨b, off + i, none⟩ = some (.slice (some ⟨b2, o2, none⟩) (ls.getD i []).length ci) ∧ (ls.getD i []).length ≤ ci ∧ b2 < w.heap.size ∧ ∀ q, q < (ls.getD i []).length → w.cell? ⟨b2, o2 + q, none⟩ = some (.int .i64 ((ls.getD i []).getD q 0))
theorem TbL.below {w w' : World} {a : Option Addr} {ls : List (List Int)} (h : TbL w a ls) (hb : Below w.heap.size w w') : TbL w' a ls := fun i hi => by
  obtain ⟨b, off, b2, o2, ci, h1, h2, h3, h4, h5, h6⟩ := h i hi
  exact ⟨b, off, b2, o2, ci, h1, Nat.lt_of_lt_of_le h2 hb.size, (hb.cell (p := ⟨b, off + i, none⟩) h2).trans h3, h4, Nat.lt_of_lt_of_le h5 hb.size, fun q hq => (hb.cell (p := ⟨b2, o2 + q, none⟩) h5).trans (h6 q hq)⟩
theorem TbL.tail {w : World} {b off : Nat} {ls : List (List Int)} (h : TbL w (some ⟨b, off, none⟩) ls) : TbL w (some ⟨b, off + 1, none⟩) ls.tail := fun i hi => by
  rw [List.length_tail] at hi
  obtain ⟨b', off', b2, o2, ci, h1, h2, h3, h4, h5, h6⟩ := h (i + 1) (by omega)
  cases h1
  have e : ls.tail.getD i [] = ls.getD (i + 1) [] := by simp [List.getD]
  rw [e]
  exact ⟨b, off + 1, b2, o2, ci, rfl, h2, by rw [show off + 1 + i = off + (i + 1) by omega]; exact h3, h4, h5, h6⟩
theorem TbL.nil (w : World) (a : Option Addr) : TbL w a [] := fun i hi => absurd hi (by simp)
theorem LfB.table {w : World} {G m n : Nat} {ls : List (List Int)} (h : LfB w G m n m ls) (hm : ls.length = m) : TbL w (some ⟨G, 0, none⟩) ls := by
  intro i hi
  obtain ⟨f, h1, h2⟩ := h
  obtain ⟨he, b, c, g1, gc, g2, g3, g4⟩ := h2 i (by omega)
  refine ⟨G, 0, b, 0, c, rfl, (Array.getElem?_eq_some_iff.1 h1).1, ?_, by rw [he]; exact gc, g3, fun q hq => ?_⟩
  · rw [Nat.zero_add, cell_of_row w G i _ _ _ h1, rgC_get _ _ _ (by omega), g1, he]
  · rw [Nat.zero_add]; exact g4 q (by omega)
/-- A row that was made by append. -/
theorem RwB.of {w : World} {G n base : Nat} {v : Value} {zs : List Int} (h : w.ownsRow base 2 1 v (zs.map (Value.int .i64)).length (zs.map (Value.int .i64))) (hz : zs.length = n) (h0 : 0 < n) (hG : G < base) : RwB w G n v zs := by
  subst hz
  have h' := h
  rcases h.2 with ⟨h2, h3⟩ | ⟨g, cap, cur, hv, hg, hh, h4, h5, h6, h7⟩
  · rw [List.length_map] at h3; omega
  · rw [List.length_map] at hv h4
    refine ⟨rfl, g, cap, hv, h4, by omega, (Array.getElem?_eq_some_iff.1 hh).1, fun q hq => ?_⟩
    rw [hv] at h'
    rw [List.length_map] at h'
    have e := World.ownsRow.cellAt h' q (by omega)
    rw [e, List.getElem?_map]
    simp [List.getD, List.getElem?_eq_getElem hq]
theorem run_makeLr (m : Nat) (hm : m ≤ 4) (W : World) : (Instr.makeSlice 48 (.int .i64 (m : Int)) (.int .i64 (m : Int))).run Tryd.prog W = .ok (.slice (some ⟨W.heap.size, 0, none⟩) m m) (W.alloc (.cells (rgC m fun _ => .slice none 0 0) 33)) := by
  obtain ⟨i, hi, hzz⟩ := Option.map_eq_some_iff.1 Tryd.infoLr
  simp only [Prod.mk.injEq] at hzz
  obtain ⟨hz, hs, hb⟩ := hzz
  have h := run_make (P := Tryd.prog) W 48 33 i _ Tryd.underlying48 hi hz .i64 .i64 (m : Int) (m : Int) (by omega) (Int.le_refl _) (by rw [hb]; omega) (by omega)
  rw [h, hs, Int.toNat_natCast, Nat.mul_one]
  have e : madeCells (Value.slice none 0 0).cells m = rgC m fun _ => .slice none 0 0 := by
    apply Array.ext_getElem?
    intro k
    by_cases hk : k < m
    · rw [rgC_get _ _ _ hk]
      have e2 : (Value.slice none 0 0).cells = #[.slice none 0 0] := rfl
      rw [e2]
      simp only [madeCells, Array.getElem?_map, Array.getElem?_range, hk, if_true, Option.map_some]
      have e3 : k % (#[Value.slice none 0 0]).size = 0 := by show k % 1 = 0; omega
      rw [e3]; rfl
    · rw [Array.getElem?_eq_none (by rw [size_madeCells]; omega), Array.getElem?_eq_none (by simp [rgC]; omega)]
  rw [e]

set_option maxHeartbeats 8000000 in
set_option maxRecDepth 100000 in
theorem without_at (a : Option Addr) (m n c j : Nat) (ls : List (List Int)) (w : World) (hT : TbL w a ls) (hq : Sqr m (n + 1) ls) (h3 : m ≤ 4) (h4 : n ≤ 4) (hj : j ≤ n) (hn0 : 0 < n ∨ m = 0) :
    Calls Tryd.prog 20 #[.slice a m c, .int .i64 (j : Int)] w fun e w' => ∃ a', e = .returned (.slice a' m m) ∧ Hid (TbL w' a' (ls.map (woR j))) ∧ Hid (Below w.heap.size w w') := by
  have HT : Hid (TbL w a ls) := hT
  have HQ : Hid (Sqr m (n + 1) ls) := hq
  have HN : Hid (0 < n ∨ m = 0) := hn0
  have hmk := run_makeLr m h3 w
  obtain ⟨G, HG⟩ : ∃ G, Hid (G = w.heap.size) := ⟨_, rfl⟩
  obtain ⟨W1, HW1⟩ : ∃ W1, Hid (W1 = w.alloc (.cells (rgC m fun _ => Value.slice none 0 0) 33)) := ⟨_, rfl⟩
  have HB1 : Hid (Below w.heap.size w W1) := by rw [HW1.out]; exact (Below.refl _ _).alloc (Nat.le_refl _) _
  have HL1 : Hid (LfB W1 G m n 0 (ls.map (woR j))) := ⟨_, by rw [HW1.out, HG.out]; exact heap_alloc_lastX _ _, fun i hi => absurd hi (by omega)⟩
  clear hT hq hn0
  go_enter Tryd.func20, Tryd.ntmps20
  go_upto_region 3 with fail
  rw [← HW1.out, ← HG.out]
  clear hmk
  go_wp2_with fail
  go_loopw [13] (fun iv wr => ∃ i : Nat, i ≤ m ∧ iv = .int .i64 (i : Int) ∧ Hid (LfB wr G m n i (ls.map (woR j))) ∧ Hid (Below w.heap.size w wr)) (fun iv _ => m - (intOf iv).toNat)
  case atStart => exact ⟨0, Nat.zero_le _, rfl, HL1, HB1⟩
  case round =>
    clear HL1 HB1
    obtain ⟨i, hi, rfl, HL, HB⟩ := hrel
    by_cases hlt : i < m
    · have hlt' : (i : Int) < (m : Int) := by omega
      have hil : i < ls.length := by rw [HQ.out.1]; exact hlt
      obtain ⟨b, off, b2, off2, ci, h1, h2, h3', h4', h5, h6⟩ := (HT.out.below HB.out) i hil
      subst h1
      have hrow := HQ.out.at hlt
      obtain ⟨r, HR⟩ : ∃ r, Hid (r = ls.getD i []) := ⟨_, rfl⟩
      rw [← HR.out] at h3' h4' h6 hrow
      have HRl : Hid (r.length = n + 1 ∧ ∀ z ∈ r, 0 ≤ z ∧ z ≤ 16384) := hrow
      rw [hrow.1] at h3' h4'
      have HC : Hid (∀ (W : World) (p : Nat) (q : Nat) (u : Value), Below wr.heap.size wr W → ((r.drop p).map (Value.int .i64))[q]? = some u → W.cell? ⟨b2, off2 + p + q, none⟩ = some u) := fun W p q u hW hu => by
        rw [List.getElem?_map, List.getElem?_drop] at hu
        obtain ⟨z, hz, rfl⟩ := Option.map_eq_some_iff.1 hu
        have hlt2 := (List.getElem?_eq_some_iff.1 hz).1
        have := (hW.cell (p := ⟨b2, off2 + (p + q), none⟩) h5).trans (h6 (p + q) hlt2)
        rw [← Nat.add_assoc] at this
        rw [this]
        simp [List.getD, hz]
      have HnT : Hid (∀ (W : World), Below wr.heap.size wr W → ∀ q u, ((r.take j).map (Value.int .i64))[q]? = some u → W.cell? ((⟨b2, off2, none⟩ : Addr).add q) = some u) := fun W hW q u hu => by
        have hu2 : ((r.drop 0).map (Value.int .i64))[q]? = some u := by
          rw [List.drop_zero, List.getElem?_map]
          rw [List.getElem?_map, List.getElem?_take] at hu
          split at hu
          · exact hu
          · simp at hu
        rw [Addr.add_lit]
        exact HC.out W 0 q u hW hu2
      obtain ⟨j1, hj1⟩ : ∃ j1 : Nat, j1 = j + 1 := ⟨_, rfl⟩
      have HnD : Hid (∀ (W : World), Below wr.heap.size wr W → ∀ q u, ((r.drop (j + 1)).map (Value.int .i64))[q]? = some u → W.cell? ((⟨b2, off2 + j1, none⟩ : Addr).add q) = some u) := fun W hW q u hu => by
        rw [Addr.add_lit, hj1]
        exact HC.out W (j + 1) q u hW hu
      have HnE : Hid (ci = j1 → ∀ (W : World), ∀ q u, ((r.drop (j + 1)).map (Value.int .i64))[q]? = some u → W.cell? ((⟨b2, off2, none⟩ : Addr).add q) = some u) := fun hc W q u hu => by
        rw [List.drop_eq_nil_of_le (by rw [HRl.out.1]; omega)] at hu
        simp at hu
      have hjj : (j : Int) + 1 = (j1 : Int) := by omega
      obtain ⟨n1, hn1⟩ : ∃ n1 : Nat, n1 = n + 1 := ⟨_, rfl⟩
      rw [← hn1] at h3' h4'
      have HnTl : Hid (j = ((r.take j).map (Value.int .i64)).length) := by show _ = _; rw [List.length_map, List.length_take, HRl.out.1]; omega
      have HnDl : Hid (n1 - j1 = ((r.drop (j + 1)).map (Value.int .i64)).length) := by show _ = _; rw [List.length_map, List.length_drop, HRl.out.1]; omega
      have HOne : Hid (∀ (p : List Int), ∀ u ∈ p.map (Value.int .i64), u.oneCell' = true) := fun p u hu => by
        obtain ⟨z, -, rfl⟩ := List.mem_map.1 hu; rfl
      have g1 : j ≤ n1 := by omega
      have g2 : j1 ≤ n1 := by omega
      have g3 : j ≤ ci := by omega
      have g4 : j1 ≤ ci := by omega
      have g5 : n1 ≤ 5 := by omega
      have HnW : Hid (n1 = n + 1 ∧ j1 = j + 1) := ⟨hn1, hj1⟩
      clear h5 h6 hrow hn1 hj1
      have HO0 : Hid ((wr.drew.alloc (.cells #[] 2)).ownsRow wr.heap.size 2 1 (.slice (some ⟨wr.heap.size, 0, none⟩) 0 0) ([] : List Value).length []) := ⟨rfl, Or.inr ⟨wr.heap.size, 0, #[], rfl, Nat.le_refl _, heap_alloc_lastX wr.drew _, Nat.le_refl _, Nat.zero_le _, rfl, rfl⟩⟩
      have HB0 : Hid (Below wr.heap.size wr (wr.drew.alloc (.cells #[] 2))) := (below_drewN (Below.refl _ _) 1).alloc (Nat.le_refl _) _
      have HCe : Hid (∀ W, Below wr.heap.size wr W → ∃ u, W.cell? ⟨G, i, none⟩ = some u ∧ W.frozen? ⟨G, i, none⟩ = false) := fun W hW => by
        obtain ⟨f, k1, -⟩ := HL.out
        have hG : G < wr.heap.size := (Array.getElem?_eq_some_iff.1 k1).1
        have k2 : W.heap[G]? = _ := (hW.block G hG).trans k1
        exact ⟨_, by rw [cell_of_row W G i _ _ _ k2, rgC_get _ _ _ hlt], frozen_of_row W G i _ _ k2⟩
      have HM5 : Hid (((r.take j).map (Value.int .i64)).length ≤ 5 ∧ ((r.drop (j + 1)).map (Value.int .i64)).length ≤ 5) := by
        show _ ∧ _
        rw [← HnTl.out, ← HnDl.out]; omega
      have HRo : Hid (∀ v2 w2, World.ownsRow w2 wr.heap.size 2 1 v2 ((r.take j).map (Value.int .i64) ++ (r.drop (j + 1)).map (Value.int .i64)).length ((r.take j).map (Value.int .i64) ++ (r.drop (j + 1)).map (Value.int .i64)) → RwB w2 G n v2 ((ls.map (woR j)).getD i [])) := fun v2 w2 hO3 => by
        have e : (ls.map (woR j)).getD i [] = woR j r := by
          rw [HR.out]; simp [List.getD, List.getElem?_eq_getElem hil]
        rw [e]
        have hG : G < wr.heap.size := by
          obtain ⟨f, k1, -⟩ := HL.out
          exact (Array.getElem?_eq_some_iff.1 k1).1
        rw [← List.map_append] at hO3
        refine RwB.of hO3 ?_ (by have := HN.out; omega) hG
        have := wo_len (j := j) (r := r) (by rw [HRl.out.1]; omega)
        rw [HRl.out.1] at this
        exact this
      have HRv : Hid (∀ v2 w2, World.ownsRow w2 wr.heap.size 2 1 v2 ((r.take j).map (Value.int .i64) ++ (r.drop (j + 1)).map (Value.int .i64)).length ((r.take j).map (Value.int .i64) ++ (r.drop (j + 1)).map (Value.int .i64)) → ∃ gz cz, v2 = .slice (some ⟨gz, 0, none⟩) n cz) := fun v2 w2 hO3 => by
        obtain ⟨-, gz, cz, h, -⟩ := HRo.out v2 w2 hO3
        exact ⟨gz, cz, h⟩
      have hdd : (wr.drew.alloc (.cells #[] 2)).heap.size = wr.heap.size + 1 := by simp
      go_upto_region 5 with fail
      by_cases hcj : ci = j1
      · subst hcj
        have HnDl0 : Hid (0 = ((r.drop (j + 1)).map (Value.int .i64)).length) := by show _ = _; rw [← HnDl.out]; omega
        have hwj : IntKind.i64.wrap (ci : Int) = (ci : Int) := by rw [IntKind.wrap_i64]; omega
        go_region_law (first
          | (refine step_all elem_l (w := wr.drew.alloc (.cells #[] 2)) (base := wr.heap.size) (v := .slice (some ⟨wr.heap.size, 0, none⟩) 0 0) (xs := []) (news := (r.take j).map (Value.int .i64)) rfl (.tmp 20) (.tmp 23) rfl (by simp [Act.eval]) ⟨b2, off2, none⟩ j ci (by simp [Act.eval]) HnTl.out HO0.out (HnT.out _ HB0.out) (HOne.out _) (by have := HM5.out.1; simp only [List.length_nil]; unfold maxLen; omega) (by have := HM5.out.1; simp only [List.length_nil]; omega) (by rw [hdd]; omega) ?_; intro v1 w1 hO1 hb1 hk1; have HO1 : Hid (w1.ownsRow wr.heap.size 2 1 v1 ((r.take j).map (Value.int .i64)).length ((r.take j).map (Value.int .i64))) := hO1; have HBw1 : Hid (Below wr.heap.size wr w1) := HB0.out.trans hb1; clear hO1 hb1 hk1)
          | (refine step_all elem_l (w := w1) (base := wr.heap.size) (v := v1) (xs := (r.take j).map (Value.int .i64)) (news := (r.drop (j + 1)).map (Value.int .i64)) rfl (.tmp 24) (.tmp 28) rfl (by first | (simp [Act.eval]; done) | (simp [Act.eval, Act.put]; done)) ⟨b2, off2, none⟩ 0 0 (by first | (simp [Act.eval]; done) | (simp [Act.eval, Act.put]; done)) HnDl0.out HO1.out (HnE.out rfl _) (HOne.out _) (by have := HM5.out; unfold maxLen; omega) (by have := HM5.out; omega) HBw1.out.size ?_; intro v2 w2 hO2 hb2 hk2; have HO2 : Hid (w2.ownsRow wr.heap.size 2 1 v2 ((r.take j).map (Value.int .i64) ++ (r.drop (j + 1)).map (Value.int .i64)).length ((r.take j).map (Value.int .i64) ++ (r.drop (j + 1)).map (Value.int .i64))) := hO2; have HBw2 : Hid (Below wr.heap.size wr w2) := HBw1.out.trans hb2; obtain ⟨cu, hcu, hfu⟩ := HCe.out w2 HBw2.out; obtain ⟨gz, cz, hvz⟩ := HRv.out v2 w2 HO2.out; have HRw := hid_w (HRo.out v2 w2 HO2.out); subst hvz; clear hO2 hb2 hk2))
        all_goals (
          have HL2 : Hid (LfB (w2.setCell ⟨G, i, none⟩ (.slice (some ⟨gz, 0, none⟩) n cz)) G m n (i + 1) (ls.map (woR j))) := by
            refine (HL.out.same HBw2.out.size (fun q _ hq => HBw2.out.block q hq)).store HRw.out
          have HB2 : Hid (Below w.heap.size w (w2.setCell ⟨G, i, none⟩ (.slice (some ⟨gz, 0, none⟩) n cz))) := (HB.out.trans (HBw2.out.mono HB.out.size)).setCell (p := ⟨G, i, none⟩) (by rw [HG.out]; exact Nat.le_refl _) _
          go_wp2_with fail
          go_roundw
          case rel => exact ⟨i + 1, by omega, by go_num, HL2, HB2⟩
          case measure => simp [intOf]; omega)
      · have hwj : IntKind.i64.wrap (j1 : Int) = (j1 : Int) := by rw [IntKind.wrap_i64]; omega
        go_region_law (first
          | (refine step_all elem_l (w := wr.drew.alloc (.cells #[] 2)) (base := wr.heap.size) (v := .slice (some ⟨wr.heap.size, 0, none⟩) 0 0) (xs := []) (news := (r.take j).map (Value.int .i64)) rfl (.tmp 20) (.tmp 23) rfl (by simp [Act.eval]) ⟨b2, off2, none⟩ j ci (by simp [Act.eval]) HnTl.out HO0.out (HnT.out _ HB0.out) (HOne.out _) (by have := HM5.out.1; simp only [List.length_nil]; unfold maxLen; omega) (by have := HM5.out.1; simp only [List.length_nil]; omega) (by rw [hdd]; omega) ?_; intro v1 w1 hO1 hb1 hk1; have HO1 : Hid (w1.ownsRow wr.heap.size 2 1 v1 ((r.take j).map (Value.int .i64)).length ((r.take j).map (Value.int .i64))) := hO1; have HBw1 : Hid (Below wr.heap.size wr w1) := HB0.out.trans hb1; clear hO1 hb1 hk1)
          | (refine step_all elem_l (w := w1) (base := wr.heap.size) (v := v1) (xs := (r.take j).map (Value.int .i64)) (news := (r.drop (j + 1)).map (Value.int .i64)) rfl (.tmp 24) (.tmp 28) rfl (by first | (simp [Act.eval]; done) | (simp [Act.eval, Act.put]; done)) ⟨b2, off2 + j1, none⟩ (n1 - j1) (ci - j1) (by first | (simp [Act.eval]; done) | (simp [Act.eval, Act.put]; done)) HnDl.out HO1.out (HnD.out _ HBw1.out) (HOne.out _) (by have := HM5.out; unfold maxLen; omega) (by have := HM5.out; omega) HBw1.out.size ?_; intro v2 w2 hO2 hb2 hk2; have HO2 : Hid (w2.ownsRow wr.heap.size 2 1 v2 ((r.take j).map (Value.int .i64) ++ (r.drop (j + 1)).map (Value.int .i64)).length ((r.take j).map (Value.int .i64) ++ (r.drop (j + 1)).map (Value.int .i64))) := hO2; have HBw2 : Hid (Below wr.heap.size wr w2) := HBw1.out.trans hb2; obtain ⟨cu, hcu, hfu⟩ := HCe.out w2 HBw2.out; obtain ⟨gz, cz, hvz⟩ := HRv.out v2 w2 HO2.out; have HRw := hid_w (HRo.out v2 w2 HO2.out); subst hvz; clear hO2 hb2 hk2))
        all_goals (
          have HL2 : Hid (LfB (w2.setCell ⟨G, i, none⟩ (.slice (some ⟨gz, 0, none⟩) n cz)) G m n (i + 1) (ls.map (woR j))) := by
            refine (HL.out.same HBw2.out.size (fun q _ hq => HBw2.out.block q hq)).store HRw.out
          have HB2 : Hid (Below w.heap.size w (w2.setCell ⟨G, i, none⟩ (.slice (some ⟨gz, 0, none⟩) n cz))) := (HB.out.trans (HBw2.out.mono HB.out.size)).setCell (p := ⟨G, i, none⟩) (by rw [HG.out]; exact Nat.le_refl _) _
          go_wp2_with fail
          go_roundw
          case rel => exact ⟨i + 1, by omega, by go_num, HL2, HB2⟩
          case measure => simp [intOf]; omega)
    · have hlt' : ¬ (i : Int) < (m : Int) := by omega
      obtain rfl : i = m := by omega
      have HTf : Hid (TbL wr (some ⟨G, 0, none⟩) (ls.map (woR j))) := HL.out.table (by rw [List.length_map]; exact HQ.out.1)
      go_wp2_with fail
      go_ret
      exact ⟨_, rfl, HTf, HB⟩
end Go.Proofs.YtapchcamjeafmaaDoor
