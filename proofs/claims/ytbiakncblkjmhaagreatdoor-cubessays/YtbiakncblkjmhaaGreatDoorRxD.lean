/-
  Lists of tables; the contract of slices.SortFunc at them.
  Lists of tables that grow: for ferref.Rights.
  A run draws forwards.
-/
import Derived.Test.YtbiakncblkjmhaaGreatDoorRwD
import Derived.Test.YtbiakncblkjmhaaGreatDoorDQs
import Derived.Shelf.SlSortCmp.NoneTotal
import Derived.Test.YtbiakncblkjmhaaGreatDoorDQu
namespace Go.Proofs.YtbiakncblkjmhaaGreatDoor
open Go.RowKit Go.Shelf Go.Sort

theorem sort_other {enc : Nat → Value} {w : World} {g m k : Nat} {dk : Array Nat} {os : Array Obj} (hk : k < w.heap.size) (hne : k ≠ g) : (sortWorld enc w g 0 m dk os).heap[k]? = w.heap[k]? := by
  unfold sortWorld
  rw [heap_grow_old _ _ (by rw [size_putRow]; exact hk)]
  unfold putRow mapBlock
  simp only [Array.getElem?_modify]
  rw [if_neg (fun e => hne e.symm)]
  rfl
theorem sort_block {enc : Nat → Value} {w : World} {g m : Nat} {dk : Array Nat} {os : Array Obj} {c : Array Value} {ty : TypeId} {fr : Nat × Nat} (h : w.heap[g]? = some (.cells c ty fr)) : (sortWorld enc w g 0 m dk os).heap[g]? = some (.cells (putCells enc 0 dk c) ty fr) := by
  have hk : g < w.heap.size := (Array.getElem?_eq_some_iff.1 h).1
  unfold sortWorld
  rw [heap_grow_old _ _ (by rw [size_putRow]; exact hk)]
  unfold putRow mapBlock
  have e : (Go.Sort.ahead w m).heap[g]? = some (.cells c ty fr) := h
  simp only [Array.getElem?_modify]
  rw [if_pos trivial, e]
  rfl
theorem sort_size {enc : Nat → Value} {w : World} {g m : Nat} {dk : Array Nat} {os : Array Obj} : w.heap.size ≤ (sortWorld enc w g 0 m dk os).heap.size := by
  unfold sortWorld
  rw [size_grow, size_putRow]
  exact Nat.le_add_right _ _
theorem sort_below {enc : Nat → Value} {w : World} {g m lo : Nat} {dk : Array Nat} {os : Array Obj} (hg : lo ≤ g) (hlo : lo ≤ w.heap.size) : Below lo w (sortWorld enc w g 0 m dk os) :=
  ⟨rfl, rfl, rfl, sort_size, fun k hk => sort_other (by omega) (by omega)⟩
theorem put_take {enc : Nat → Value} {d : Array Nat} {c : Array Value} (h : d.size ≤ c.size) : (putCells enc 0 d c).toList.take d.size = d.toList.map enc := by
  refine List.ext_getElem (by simp [putCells]; omega) (fun i h1 h2 => ?_)
  have hi : i < d.size := by simpa using h2
  simp [putCells, hi, getElem!_pos]
theorem ltOf_key (κ : Nat → List Int) : SWO (ltOf (fun i j => cmpL (κ i) (κ j))) where
  irrefl x := by unfold ltOf; exact decide_eq_false (by simp only; rw [cmpL_refl]; omega)
  trans x y z h1 h2 := by unfold ltOf at *; exact decide_eq_true (cmpL_trans _ _ _ (of_decide_eq_true h1) (of_decide_eq_true h2))
  ntrans x y z h1 h2 := by unfold ltOf at *; exact decide_eq_false (cmpL_ntrans _ _ _ (of_decide_eq_false h1) (of_decide_eq_false h2))

/-- v is a list of the tables ts; X are blocks that it has nothing to do with. -/
structure Cub (X : Nat → Prop) (w : World) (lo : Nat) (v : Value) (us : List Value) (ts : List (List (List Int))) : Prop where
  own : w.ownsRow lo 22 1 v us.length us
  len : us.length = ts.length
  el : ∀ k, k < ts.length → ∃ a c, rowv us k = .slice a (ts.getD k []).length c ∧ ∀ w', (∀ j, j < w.heap.size → ¬ X j → v.ownBlock ≠ some j → w'.heap[j]? = w.heap[j]?) → w.heap.size ≤ w'.heap.size → Table w' a (ts.getD k [])
theorem range_getT (ts : List (List (List Int))) : (List.range ts.length).map (fun i => ts.getD i []) = ts := by
  refine List.ext_getElem (by simp) (fun i h1 h2 => ?_)
  simp [List.getD, h2]

set_option maxHeartbeats 2000000 in
theorem SortCube_at {ρ : Go.Shelf.Ren} (L : SlLaysF.n6 Tryz.prog ρ) (hρ : ρ.f 6 = 42) (f : Nat) (ef : ∀ args w, (callFunc f args).run Tryz.prog w = .ok (.enter f args) w) {X : Nat → Prop} {lo : Nat} (v : Value) (us : List Value) (ts : List (List (List Int))) (w : World) (hT : Cub X w lo v us ts) (hl : ts.length < 4611686018427387904) (hlo : lo ≤ w.heap.size)
    (hcmp : ∀ (W : World) (a b : Option Addr) (ca cb : Nat) (s t : List (List Int)), s ∈ ts → t ∈ ts → Table W a s → Table W b t → Calls Tryz.prog f #[.slice a s.length ca, .slice b t.length cb] W fun e w' => e = .returned (.int .i64 (cmpL s.flatten t.flatten)) ∧ ∃ q os', w' = grow (W.drewN q) os') :
    Calls Tryz.prog 42 #[v, .func (.func f) #[] #[]] w fun e w' => e = .returned (.tuple #[]) ∧ ∃ us' ts', ts'.Perm ts ∧ ts'.Pairwise (fun a b => ¬ cmpL b.flatten a.flatten < 0) ∧ Cub X w' lo v us' ts' ∧ Below lo w w' ∧ ∀ k, k < w.heap.size → v.ownBlock ≠ some k → w'.heap[k]? = w.heap[k]? := by
  by_cases h0 : 0 < ts.length
  · rcases hT.own.2 with ⟨_, h3⟩ | ⟨g, cap, cur, hv, hg, hh, hnc, hcm, hcs, htk⟩
    · have := hT.len; omega
    have hown := hT.own
    rw [hv, hT.len] at hown
    have hn : us.length = ts.length := hT.len
    have hg2 : g < w.heap.size := (Array.getElem?_eq_some_iff.1 hh).1
    have hfz : ∀ j, w.frozen? ⟨g, j, none⟩ = false := fun j => World.ownsRow.frozenAt hown j
    -- a place that is there
    obtain ⟨cl, hcl⟩ : ∃ cl : Nat → Nat, ∀ x, cl x = if x < ts.length then x else 0 := ⟨_, fun _ => rfl⟩
    have hclt : ∀ x, cl x < ts.length := fun x => by rw [hcl]; split <;> omega
    have hclx : ∀ x, x < ts.length → cl x = x := fun x hx => by rw [hcl, if_pos hx]
    obtain ⟨enc, henc⟩ : ∃ enc : Nat → Value, ∀ x, enc x = rowv us (cl x) := ⟨_, fun _ => rfl⟩
    have hone : ∀ x, (enc x).oneCell' = true := fun x => by
      obtain ⟨a1, c1, e1, _⟩ := hT.el (cl x) (hclt x)
      rw [henc, e1]; rfl
    have hread : CmpLays1 Tryz.prog f #[] enc (fun i j => cmpL (ts.getD (cl i) []).flatten (ts.getD (cl j) []).flatten) g 0 ts.length w := fun m os dk _ x y => by
      have hsh : ∀ x, ∃ a c, enc x = .slice a (ts.getD (cl x) []).length c ∧ Table (sortWorld enc w g 0 m dk os) a (ts.getD (cl x) []) := fun x => by
        obtain ⟨a1, c1, e1, e2⟩ := hT.el (cl x) (hclt x)
        refine ⟨a1, c1, by rw [henc]; exact e1, e2 _ (fun j a1 _ a3 => sort_other a1 (fun e => a3 (by rw [hv, e]; rfl))) sort_size⟩
      obtain ⟨a1, c1, e1, s1⟩ := hsh x
      obtain ⟨a2, c2, e2, s2⟩ := hsh y
      have hmem : ∀ x, ts.getD (cl x) [] ∈ ts := fun x => by have := hclt x; simp [List.getD, this]
      have h := hcmp _ a1 a2 c1 c2 _ _ (hmem x) (hmem y) s1 s2
      rw [e1, e2]
      exact h
    have hcl2 : ∀ j, j < ts.length → w.cell? ⟨g, j, none⟩ = some (rowv us j) := fun j hj => by
      rw [World.ownsRow.cellAt hown j (by omega), rowv_get (by omega)]
    have hH : Holds enc w g 0 (List.range ts.length).toArray := fun j hj => by
      have hj' : j < ts.length := by simpa using hj
      refine ⟨?_, hfz _⟩
      rw [Nat.zero_add, hcl2 j hj']
      congr 1
      rw [henc]
      simp [getElem!_pos, hj', hclx]
    have hsz : (List.range ts.length).toArray.size = ts.length := by simp
    have h := Any.slices_SortFunc L enc hone (fun i j => cmpL (ts.getD (cl i) []).flatten (ts.getD (cl j) []).flatten) (ltOf_key fun i => (ts.getD (cl i) []).flatten) f #[] g 0 cap (List.range ts.length).toArray w ef (by rw [hsz]; exact hread) hH hg2 (by rw [hsz]; omega)
    rw [hρ, hsz] at h
    rw [hv, hn]
    refine h.mono ?_
    rintro e w' ⟨rfl, d', m, os, hp, hsd, rfl⟩
    have e1 : d'.size = ts.length := by rw [hp.1, hsz]
    have hp2 : d'.toList.Perm (List.range ts.length) := by
      have h3 := hp.2.2
      have e2 : d'.extract 0 ts.length = d' := by rw [← e1]; simp
      have e3 : (List.range ts.length).toArray.extract 0 ts.length = (List.range ts.length).toArray := by simp
      rw [e2, e3] at h3
      simpa using h3
    have hmem : ∀ x ∈ d'.toList, x < ts.length := fun x hx => List.mem_range.1 (hp2.mem_iff.1 hx)
    have hle : d'.toList.length = ts.length := by rw [hp2.length_eq, List.length_range]
    have hother : ∀ k, k < w.heap.size → (Value.slice (some ⟨g, 0, none⟩) ts.length cap).ownBlock ≠ some k → (sortWorld enc w g 0 m d' os).heap[k]? = w.heap[k]? := fun k a1 a2 => sort_other a1 (fun e => a2 (by rw [e]; rfl))
    refine ⟨rfl, d'.toList.map (rowv us), d'.toList.map (fun i => ts.getD i []), ?_, ?_, ⟨?_, by simp, fun k hk => ?_⟩, sort_below hg hlo, hother⟩
    · have := hp2.map (fun i => ts.getD i [])
      rw [range_getT] at this; exact this
    · rw [List.pairwise_map, List.pairwise_iff_getElem]
      intro i j hi hj hij
      have hi2 : i < d'.size := by simpa using hi
      have hj2 : j < d'.size := by simpa using hj
      have h5 := hsd i j (Nat.zero_le _) hij (by omega)
      unfold ltOf at h5
      have h6 := of_decide_eq_false h5
      rw [getElem!_pos d' j hj2, getElem!_pos d' i hi2] at h6
      have h7 : ¬ cmpL (ts.getD (cl d'[j]) []).flatten (ts.getD (cl d'[i]) []).flatten < 0 := h6
      rw [hclx d'[j] (hmem _ (Array.mem_toList_iff.2 (Array.getElem_mem hj2))), hclx d'[i] (hmem _ (Array.mem_toList_iff.2 (Array.getElem_mem hi2)))] at h7
      simpa using h7
    · refine ⟨by simp, Or.inr ⟨g, cap, putCells enc 0 d' cur, by rw [List.length_map, hle], hg, sort_block hh, ?_, hcm, ?_, ?_⟩⟩
      · rw [List.length_map, hle]; omega
      · simp only [putCells, Array.size_mapIdx] at *; simpa using hcs
      · rw [List.length_map, hle, Nat.mul_one, ← e1, put_take (by rw [e1]; omega)]
        exact List.map_congr_left fun x hx => by rw [henc, hclx x (hmem x hx)]
    · have hk2 : k < d'.toList.length := by simpa using hk
      have hx := hmem (d'.toList.getD k 0) (mem_at hk2)
      obtain ⟨a1, c1, q1, q2⟩ := hT.el (d'.toList.getD k 0) hx
      have er : rowv (d'.toList.map (rowv us)) k = rowv us (d'.toList.getD k 0) := by
        unfold rowv
        simp only [List.getD, List.getElem?_map, List.getElem?_eq_getElem hk2]; rfl
      have et : (d'.toList.map (fun i => ts.getD i [])).getD k [] = ts.getD (d'.toList.getD k 0) [] := by
        simp only [List.getD, List.getElem?_map, List.getElem?_eq_getElem hk2]; rfl
      rw [er, et]
      refine ⟨a1, c1, q1, fun w2 h2 h3 => q2 w2 (fun j b1 b2 b3 => ?_) (Nat.le_trans sort_size h3)⟩
      rw [h2 j (Nat.lt_of_lt_of_le b1 sort_size) b2 (by rw [hv, hn] at b3; exact b3)]
      exact hother j b1 (by rw [hv, hn] at b3; exact b3)
  · obtain rfl : ts = [] := List.eq_nil_of_length_eq_zero (by omega)
    obtain ⟨p, c, hv⟩ : ∃ p c, v = .slice p 0 c := by
      rcases hT.own.2 with ⟨h2, h3⟩ | ⟨g, cap, cur, hv, _⟩
      · exact ⟨none, 0, h2⟩
      · exact ⟨_, cap, by rw [hv, hT.len]; rfl⟩
    have h := AnyF.slices_SortFunc_none (P := Tryz.prog) (ρ := ρ) { L with } p c (.func (.func f) #[] #[]) w
    rw [hρ] at h
    rw [hv]
    refine h.mono ?_
    rintro e w' ⟨rfl, rfl⟩
    exact ⟨rfl, us, [], List.Perm.refl _, List.Pairwise.nil, by rw [← hv]; exact hT, Below.refl _ _, fun _ _ _ => rfl⟩

end Go.Proofs.YtbiakncblkjmhaaGreatDoor

namespace Go.Proofs.YtbiakncblkjmhaaGreatDoor
open Go.RowKit

/-- No block. -/
abbrev noB : Nat → Prop := fun _ => False
theorem Cub.nil (w : World) (lo : Nat) : Cub noB w lo (.slice none 0 0) [] [] := ⟨World.ownsRow_nil _ _ _ _, rfl, fun k h => absurd h (by simp)⟩
theorem Cub.same {w w' : World} {lo : Nat} {v : Value} {us : List Value} {ts : List (List (List Int))} (h : Cub noB w lo v us ts) (hs : w.heap.size ≤ w'.heap.size) (hk : ∀ k, k < w.heap.size → w'.heap[k]? = w.heap[k]?) : Cub noB w' lo v us ts :=
  ⟨ownsRow_blocks h.own (fun k e => hk k (h.own.lt k e).2), h.len, fun k hkk => by
    obtain ⟨a, c, e1, e2⟩ := h.el k hkk
    exact ⟨a, c, e1, fun w3 h3 h4 => e2 w3 (fun j a1 a2 a3 => by rw [h3 j (by omega) a2 a3, hk j a1]) (by omega)⟩⟩
theorem Cub.below {w w' : World} {lo : Nat} {v : Value} {us : List Value} {ts : List (List (List Int))} (h : Cub noB w lo v us ts) (hb : Below w.heap.size w w') : Cub noB w' lo v us ts := h.same hb.size (fun k hk => hb.block k hk)
/-- Table k of the list, now. -/
theorem Cub.table {w : World} {lo : Nat} {v : Value} {us : List Value} {ts : List (List (List Int))} (h : Cub noB w lo v us ts) {k : Nat} (hk : k < ts.length) : ∃ a c, rowv us k = .slice a (ts.getD k []).length c ∧ Table w a (ts.getD k []) := by
  obtain ⟨a, c, e1, e2⟩ := h.el k hk
  exact ⟨a, c, e1, e2 w (fun _ _ _ _ => rfl) (Nat.le_refl _)⟩
theorem castT_bd {t : List (List Nat)} (ht : ∀ r ∈ t, r.length ≤ 1000 ∧ ∀ z ∈ r, z ≤ 1000) : ∀ l ∈ castT t, l.length ≤ 17592186044416 ∧ ∀ z ∈ l, -9223372036854775808 ≤ z ∧ z ≤ 9223372036854775807 := fun l hl => by
  unfold castT at hl
  obtain ⟨r, hr, rfl⟩ := List.mem_map.1 hl
  have := ht r hr
  refine ⟨by rw [castL_len]; omega, fun z hz => ?_⟩
  unfold castL at hz
  obtain ⟨q, hq, rfl⟩ := List.mem_map.1 hz
  have := this.2 q hq
  omega
/-- A table more. -/
theorem Cub.push {lo : Nat} {ts : List (List (List Int))} {w w1 w2 : World} {v v2 u : Value} {us : List Value} {t : List (List Nat)} (h : Cub noB w lo v us ts) (hb1 : Below w.heap.size w w1) (hT : Tbl w1 w.heap.size u (castT t)) (ht : ∀ r ∈ t, r.length ≤ 1000 ∧ ∀ z ∈ r, z ≤ 1000)
    (ho : w2.ownsRow lo 22 1 v2 (us ++ [u]).length (us ++ [u])) (hk : KeepB v v2 w1 w2) : Cub noB w2 lo v2 (us ++ [u]) (ts ++ [castT t]) := by
  have hs1 := hb1.size
  have hs2 := hk.size
  have hv2 : ∀ j, v2.ownBlock = some j → v.ownBlock = some j ∨ w1.heap.size ≤ j := hk.lies
  refine ⟨ho, by simp [h.len], fun k hkk => ?_⟩
  rw [List.length_append] at hkk
  rw [rowv_push]
  by_cases e : k < ts.length
  · rw [if_pos (by rw [h.len]; exact e)]
    have eg : (ts ++ [castT t]).getD k [] = ts.getD k [] := by simp only [List.getD]; rw [List.getElem?_append_left e]
    rw [eg]
    obtain ⟨a, c, e1, e2⟩ := h.el k e
    refine ⟨a, c, e1, fun w3 h3 h4 => e2 w3 (fun j a1 a2 a4 => ?_) (by omega)⟩
    rw [h3 j (by omega) a2 (fun q => (hv2 j q).elim a4 (fun q2 => by omega)), hk.block j (by omega) a4, hb1.block j a1]
  · obtain rfl : k = ts.length := by simp at hkk; omega
    rw [if_neg (by rw [h.len]; omega), if_pos h.len.symm]
    have eg : (ts ++ [castT t]).getD ts.length [] = castT t := by simp [List.getD]
    rw [eg]
    obtain ⟨vs, hV⟩ := hT
    obtain ⟨a, n, c, e1, _, HN⟩ := Tbl.table ⟨vs, hV⟩ (castT_bd ht)
    refine ⟨a, c, by rw [e1, HN.out], fun w3 h3 h4 => ?_⟩
    have hsm : ∀ j, w.heap.size ≤ j → j < w1.heap.size → w3.heap[j]? = w1.heap[j]? := fun j a1 a2 => by
      have hvj : v.ownBlock ≠ some j := fun e => by have := (h.own.lt j e).2; omega
      rw [h3 j (by omega) (fun hd => hd) (fun q => (hv2 j q).elim hvj (fun q2 => by omega)), hk.block j a2 hvj]
    have hV3 := hV.same (w' := w3) hsm
    obtain ⟨a', n', c', e1', ht', _⟩ := Tbl.table ⟨vs, hV3⟩ (castT_bd ht)
    rw [e1] at e1'
    cases e1'
    exact ht'

theorem hid_h {p : Prop} (h : p) : Hid p := h
/-- What it shows. -/
theorem Cub.shows9 {w : World} {lo : Nat} {v : Value} {us : List Value} {ts : List (List (List Int))} (h : Cub noB w lo v us ts) : ∃ a c, v = .slice a ts.length c ∧ ∀ k, k < ts.length → ∃ b off ai ci, a = some ⟨b, off, none⟩ ∧ b < w.heap.size ∧ w.cell? ⟨b, off + k, none⟩ = some (.slice ai (ts.getD k []).length ci) ∧ Table w ai (ts.getD k []) := by
  have ho := h.own
  have hl := h.len
  rcases ho.2 with ⟨hv, h0⟩ | ⟨g, cap, cur, hv, hg, hh, hnc, hcm, hcs, htk⟩
  · exact ⟨none, 0, by rw [hv]; congr 1; omega, fun k hk => by omega⟩
  · rw [hl] at hv
    refine ⟨some ⟨g, 0, none⟩, cap, hv, fun k hk => ?_⟩
    obtain ⟨a, c, e1, e2⟩ := h.el k hk
    rw [hv, hl] at ho
    refine ⟨g, 0, a, c, rfl, (ho.lt g rfl).2, ?_, e2 w (fun _ _ _ _ => rfl) (Nat.le_refl _)⟩
    rw [Nat.zero_add, World.ownsRow.cellAt ho k (by omega), rowv_get (by omega), e1]
theorem Cub.mono {w : World} {lo lo' : Nat} {v : Value} {us : List Value} {ts : List (List (List Int))} (h : Cub noB w lo v us ts) (hl : lo' ≤ lo) : Cub noB w lo' v us ts := by
  refine ⟨⟨h.own.1, ?_⟩, h.len, h.el⟩
  rcases h.own.2 with q | ⟨g, cap, cur, hv, hg, r⟩
  · exact Or.inl q
  · exact Or.inr ⟨g, cap, cur, hv, by omega, r⟩
/-- A list of one table. -/
theorem Cub.one {w w1 : World} {u : Value} {t : List (List Nat)} (hb : Below w.heap.size w w1) (hT : Tbl w1 w.heap.size u (castT t)) (ht : ∀ r ∈ t, r.length ≤ 1000 ∧ ∀ z ∈ r, z ≤ 1000) : Cub noB (w1.alloc (.cells #[u] 22)) w.heap.size (.slice (some ⟨w1.heap.size, 0, none⟩) 1 1) [u] [castT t] := by
  have h := (Cub.nil w w.heap.size).push (w2 := w1.alloc (.cells #[u] 22)) (v2 := .slice (some ⟨w1.heap.size, 0, none⟩) 1 1) hb hT ht ⟨by simp, Or.inr ⟨w1.heap.size, 1, #[u], rfl, hb.size, heap_alloc_new _ _, by simp, by unfold maxLen; omega, by simp, by simp⟩⟩ ⟨by simp, fun k hk _ => Below.heap_alloc _ _ _ hk, fun g hg => Or.inr (by cases hg; exact Nat.le_refl _)⟩
  simpa using h


end Go.Proofs.YtbiakncblkjmhaaGreatDoor

namespace Go.Proofs.YtbiakncblkjmhaaGreatDoor
open Go.RowKit Go.Shelf Go.Sort

theorem ask_drawn {α : Type} (q : Ask α) : ∀ w : World, w.drawn ≤ (w.ask q).2.drawn := by
  induction q with
  | done a => intro w; exact Nat.le_refl _
  | ask what range k ih =>
    intro w
    rw [World.ask]
    split
    · exact ih _ w
    · exact Nat.le_trans (Nat.le_succ _) (ih _ { w with drawn := w.drawn + 1 })
theorem sys_drawn (w : World) (c : Sys) : w.drawn ≤ (w.sys c).2.drawn := by
  have h := ask_drawn (Kernel.perform c w.os) w
  unfold World.sys
  split
  · exact Nat.le_refl _
  · rename_i heq; rw [heq] at h; exact h
theorem view_drawn {P : Program} {w : World} {x : Addr} {u : TypeId} {k : Addr} {v : Value} {b : Bool} {r : World × List Addr} (h : w.viewStore P x u k v b = .ok r) : r.1.drawn = w.drawn := by
  unfold World.viewStore at h
  simp only [bind, Except.bind, pure, Except.pure] at h
  repeat' split at h
  all_goals first | (cases h; rfl) | (cases h; done)
theorem far_drawn {P : Program} {w : World} {a : Addr} {v : Value} {b : Bool} {r : World × List Addr} (h : w.farStore P a v b = .ok r) : r.1.drawn = w.drawn := by
  unfold World.farStore at h
  split at h
  · split at h
    · rename_i hv; cases h; exact view_drawn hv
    · cases h
  · cases h
theorem freeze_drawn (w : World) (a : Addr) (n : Nat) : (w.freeze a n).drawn = w.drawn := by
  unfold World.freeze; split <;> rfl
theorem run_drawn {α : Type} (P : Program) (m : Sem α) : ∀ (w w' : World) (a : α), m.run P w = .ok a w' → w.drawn ≤ w'.drawn := by
  induction m with
  | pure a => intro w w' b h; rw [Sem.run] at h; cases h; exact Nat.le_refl _
  | load m a k ih =>
    intro w w' b h
    rw [Sem.run] at h
    split at h
    · exact ih _ _ _ _ h
    · split at h
      · exact ih _ _ _ _ h
      · cases h
  | store m a v k ih =>
    intro w w' b h
    cases v
    all_goals first
      | (rw [Sem.run] at h; cases h; done)
      | (rw [Sem.run] at h
         · split at h
           · split at h
             · cases h
             · exact ih (w.setCell a _) _ _ h
           · split at h
             · rename_i hf
               have h2 := ih _ _ _ h
               have h3 := far_drawn hf
               simp only at h3
               omega
             · cases h
         · intro _ e; cases e
         · intro _ e; cases e)
  | new o k ih => intro w w' b h; rw [Sem.run] at h; exact ih _ { w with heap := w.heap.push o } _ _ h
  | shape r k ih => intro w w' b h; rw [Sem.run] at h; exact ih _ _ _ _ h
  | freeze a n k ih => intro w w' b h; rw [Sem.run] at h; have := ih _ _ _ h; rw [freeze_drawn] at this; exact this
  | frozen a k ih => intro w w' b h; rw [Sem.run] at h; exact ih _ _ _ _ h
  | getObj r k ih =>
    intro w w' b h
    rw [Sem.run] at h
    split at h
    · cases h
    · exact ih _ _ _ _ h
    · cases h
  | setObj r o k ih =>
    intro w w' b h
    rw [Sem.run] at h
    split at h
    · cases h
    · exact ih { w with heap := w.heap.setIfInBounds r o } _ _ h
    · cases h
  | choose q k ih =>
    intro w w' b h
    rw [Sem.run] at h
    split at h
    · exact ih _ _ _ _ h
    · exact Nat.le_trans (Nat.le_succ _) (ih _ { w with drawn := w.drawn + 1 } _ _ h)
  | sys c k ih => intro w w' b h; rw [Sem.run] at h; exact Nat.le_trans (sys_drawn w c) (ih _ _ _ _ h)
  | program k ih => intro w w' b h; rw [Sem.run] at h; exact ih _ _ _ _ h
  | mark m k ih => intro w w' b h; rw [Sem.run] at h; exact ih _ _ _ h
  | halt h => intro w w' b e; rw [Sem.run] at e; cases e

/-- What is as it was below, and has drawn forwards, is the old world with more behind it. -/
theorem grow_of {w w' : World} (hb : Below w.heap.size w w') (hd : w.drawn ≤ w'.drawn) : ∃ q os', w' = grow (w.drewN q) os' := by
  refine ⟨w'.drawn - w.drawn, w'.heap.extract w.heap.size w'.heap.size, ?_⟩
  have hh : w'.heap = w.heap ++ w'.heap.extract w.heap.size w'.heap.size := by
    apply Array.ext_getElem?
    intro k
    rw [Array.getElem?_append]
    split
    · rename_i hk; exact hb.block k hk
    · rename_i hk
      rw [Array.getElem?_extract]
      by_cases h2 : k < w'.heap.size
      · rw [if_pos (by omega)]; congr 1; omega
      · rw [if_neg (by omega), Array.getElem?_eq_none (by omega)]
  have h1 := hb.os
  have h2 := hb.tape
  have h3 := hb.output
  cases w; cases w'
  simp only [grow, World.drewN] at *
  subst h1 h2 h3
  congr 1
  omega
theorem append_srcD {w : World} {base : Nat} {v : Value} {zs ys : List Int} {ad : Option Addr} {m c : Nat} {ops : Array Oper} {rest : List Oper} {o : Oper} {a : Act} {Q : Exit → Act → World → Prop} (hgd : o.guard = none) (s y : Operand)
    (ho : o.op = .call { callee := .builtin .append, args := #[s, y], argTypes := #[29, 29] }) (hs : a.eval s = v) (hx : a.eval y = .slice ad m c) (hown : Owns w base v zs) (hsrc : Shows w ad ys) (hm : m = ys.length) (hn : ad = none → ys = [] ∧ c = 0)
    (hl : zs.length + ys.length ≤ 17592186044414) (hbase : base ≤ w.heap.size)
    (h : ∀ v' w', Owns w' base v' (zs ++ ys) → Below base w w' → w.drawn ≤ w'.drawn → wpList Tryz.prog ops Q rest (a.put o.dst v') w') :
    wpList Tryz.prog ops Q (o :: rest) a w := by
  subst hm
  refine wpList_plain hgd fun K hK => ?_
  obtain ⟨v', w', hrun, r1, r2, r3⟩ := run_append_src o.type hown hsrc hn hl hbase
  have hd := run_drawn _ _ _ _ _ hrun
  unfold Oper.wp
  simp [execOp, ho, resolve, invoke, builtin, hs, hx, hrun, Result.andThen]
  exact hK _ _ (h v' w' r1 r2 hd)
set_option maxHeartbeats 2000000 in
theorem Joined_d (a : Option Addr) (cap : Nat) (ls : List (List Int)) (w : World) (hs : Table w a ls) (hl : ls.length ≤ 2000000) (hf : ls.flatten.length ≤ 2000000) :
    Calls Tryz.prog 9 #[.slice a ls.length cap] w fun e w' => ∃ v, e = .returned v ∧ Owns w' w.heap.size v ls.flatten ∧ Below w.heap.size w w' ∧ w.drawn ≤ w'.drawn := by
  have HF : Hid (ls.flatten.length ≤ 2000000) := hf
  have HS : Hid (Table w a ls) := hs
  clear hf hs
  go_enter Tryz.func9, Tryz.ntmps9
  go_wp2
  go_loopw [3, 4] (fun v i wr => ∃ k : Nat, k ≤ ls.length ∧ i = .int .i64 k ∧ Hid (Owns wr w.heap.size v (ls.take k).flatten) ∧ Hid (Below w.heap.size w wr) ∧ Hid (w.drawn ≤ wr.drawn)) (fun _ i _ => ls.length - (intOf i).toNat)
  case atStart => exact ⟨0, Nat.zero_le _, rfl, World.ownsRow_nil _ _ _ _, Below.refl _ _, Nat.le_refl _⟩
  case round =>
    obtain ⟨k, hk, rfl, HO, HB, HD⟩ := hrel
    by_cases hlt : k < ls.length
    · have hlt' : (k : Int) < (ls.length : Int) := by omega
      obtain ⟨b, off, ai, ci, rfl, -, hc, hS, hN⟩ := (HS.out.below HB.out) k hlt
      have hT := take_flat ls k hlt
      obtain ⟨r, hr⟩ : ∃ r, r = ls.getD k [] := ⟨_, rfl⟩
      rw [← hr] at hc hS hN hT
      clear hr
      have HSk : Hid (Shows wr ai r) := hS
      have HNk : Hid (ai = none → r = [] ∧ ci = 0) := hN
      obtain ⟨m, HM⟩ : ∃ m, Hid (m = r.length) := ⟨_, rfl⟩
      rw [← HM.out] at hc
      have HT : Hid ((ls.take (k + 1)).flatten = (ls.take k).flatten ++ r) := hT
      clear hT
      clear hS hN
      go_wp2_with (at_builtin; refine append_srcD rfl _ _ rfl rfl rfl HO.out HSk.out HM.out HNk.out ?c1 ?c2 ?_)
      case c1 =>
        have h1 := take_flat_le ls (k + 1)
        rw [HT.out, List.length_append] at h1
        have := HF.out; omega
      case c2 => exact HB.out.size
      intro v' w' hO hb hd
      have HO' : Hid (Owns w' w.heap.size v' (ls.take (k + 1)).flatten) := by show Owns _ _ _ _; rw [HT.out]; exact hO
      have HB' : Hid (Below w.heap.size w w') := HB.out.trans hb
      have HD' : Hid (w.drawn ≤ w'.drawn) := Nat.le_trans HD.out hd
      clear hO hb hd
      go_wp2
      go_roundw
      case rel => exact ⟨k + 1, by omega, by go_num, HO', HB', HD'⟩
      case measure => simp [intOf]; omega
    · obtain rfl : k = ls.length := by omega
      have HE : Hid (Owns wr w.heap.size u3 ls.flatten) := by have := HO.out; rw [List.take_length] at this; exact this
      go_wp2
      go_ret
      exact ⟨_, rfl, HE.out, HB.out, HD.out⟩
/-- ferref.Less, as the sort wants it. -/
theorem RLess_d (a b : Option Addr) (ca cb : Nat) (s t : List (List Int)) (w : World) (hs : Table w a s) (ht : Table w b t) (hl1 : s.length ≤ 1000) (hl2 : t.length ≤ 1000) (hf1 : s.flatten.length ≤ 1000000) (hf2 : t.flatten.length ≤ 1000000) (hz1 : ∀ z ∈ s.flatten, -9223372036854775808 ≤ z ∧ z ≤ 9223372036854775807) (hz2 : ∀ z ∈ t.flatten, -9223372036854775808 ≤ z ∧ z ≤ 9223372036854775807) :
    Calls Tryz.prog 43 #[.slice a s.length ca, .slice b t.length cb] w fun e w' => e = .returned (.int .i64 (cmpL s.flatten t.flatten)) ∧ ∃ q os', w' = grow (w.drewN q) os' := by
  refine RLess_c a b s.length t.length ca cb _ w (fun v w' => Owns w' w.heap.size v s.flatten ∧ Below w.heap.size w w' ∧ w.drawn ≤ w'.drawn) _ (Joined_d a ca s w hs (by omega) (by omega)) (fun v1 w1 hP => ?_)
  refine (Joined_d b cb t w1 (ht.below hP.2.1) (by omega) (by omega)).mono ?_
  rintro e w2 ⟨v2, rfl, ho2, hb2, hd2⟩
  have ho1 := hP.1.below hb2
  obtain ⟨a1, c1, e1, hs1⟩ := ho1.shows (by omega) hz1
  obtain ⟨a2, c2, e2, hs2⟩ := ho2.shows (by omega) hz2
  refine ⟨v2, rfl, a1, _, c1, a2, _, c2, e1, e2, ?_⟩
  exact (CompareL_at a1 a2 _ _ c1 c2 s.flatten t.flatten w2 hs1 hs2 rfl rfl).mono (fun e w' h => ⟨h.1, h.2, grow_of (hP.2.1.trans (hb2.mono hP.2.1.size)) (Nat.le_trans hP.2.2 hd2)⟩)

end Go.Proofs.YtbiakncblkjmhaaGreatDoor
