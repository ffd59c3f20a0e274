/-
  Lists of tables; the contract of slices.SortFunc at them.
-/
import Derived.Test.YtgcpconlmihilaaGreatDoorRwD
import Derived.Test.YtgcpconlmihilaaGreatDoorRuC
import Derived.Shelf.SlSortCmp.NoneTotal
namespace Go.Proofs.YtgcpconlmihilaaGreatDoor
open Go.RowKit Go.Shelf Go.Sort

theorem sort_other {enc : Nat → Value} {w : World} {g m k : Nat} {dk : Array Nat} {os : Array Obj} (hk : k < w.heap.size) (hne : k ≠ g) : (sortWorld enc w g 0 m dk os).heap[k]? = w.heap[k]? := by
  unfold sortWorld
  rw [heap_grow_old _ _ (by rw [size_putRow]; exact hk)]
  unfold putRow mapBlock
  simp only [Array.getElem?_modify]
  rw [if_neg (fun e => hne e.symm)]
  rfl
theorem sort_block {enc : Nat → Value} {w : World} {g m : Nat} {dk : Array Nat} {os : Array Obj} {c : Array Value} {ty : TypeId} {fr : Nat × Nat} (h : w.heap[g]? = some (.cells c ty fr)) : (sortWorld enc w g 0 m dk os).heap[g]? = some (.cells (putCells enc 0 dk c) ty fr) := by
  have hk : g < w.heap.size := (Array.getElem?_eq_some_iff.1 h).1
  unfold sortWorld
  rw [heap_grow_old _ _ (by rw [size_putRow]; exact hk)]
  unfold putRow mapBlock
  have e : (Go.Sort.ahead w m).heap[g]? = some (.cells c ty fr) := h
  simp only [Array.getElem?_modify]
  rw [if_pos trivial, e]
  rfl
theorem sort_size {enc : Nat → Value} {w : World} {g m : Nat} {dk : Array Nat} {os : Array Obj} : w.heap.size ≤ (sortWorld enc w g 0 m dk os).heap.size := by
  unfold sortWorld
  rw [size_grow, size_putRow]
  exact Nat.le_add_right _ _
theorem sort_below {enc : Nat → Value} {w : World} {g m lo : Nat} {dk : Array Nat} {os : Array Obj} (hg : lo ≤ g) (hlo : lo ≤ w.heap.size) : Below lo w (sortWorld enc w g 0 m dk os) :=
  ⟨rfl, rfl, rfl, sort_size, fun k hk => sort_other (by omega) (by omega)⟩
theorem put_take {enc : Nat → Value} {d : Array Nat} {c : Array Value} (h : d.size ≤ c.size) : (putCells enc 0 d c).toList.take d.size = d.toList.map enc := by
  refine List.ext_getElem (by simp [putCells]; omega) (fun i h1 h2 => ?_)
  have hi : i < d.size := by simpa using h2
  simp [putCells, hi, getElem!_pos]
theorem ltOf_key (κ : Nat → List Int) : SWO (ltOf (fun i j => cmpL (κ i) (κ j))) where
  irrefl x := by unfold ltOf; exact decide_eq_false (by simp only; rw [cmpL_refl]; omega)
  trans x y z h1 h2 := by unfold ltOf at *; exact decide_eq_true (cmpL_trans _ _ _ (of_decide_eq_true h1) (of_decide_eq_true h2))
  ntrans x y z h1 h2 := by unfold ltOf at *; exact decide_eq_false (cmpL_ntrans _ _ _ (of_decide_eq_false h1) (of_decide_eq_false h2))

/-- v is a list of the tables ts; X are blocks that it has nothing to do with. -/
structure Cub (X : Nat → Prop) (w : World) (lo : Nat) (v : Value) (us : List Value) (ts : List (List (List Int))) : Prop where
  own : w.ownsRow lo 22 1 v us.length us
  len : us.length = ts.length
  el : ∀ k, k < ts.length → ∃ a c, rowv us k = .slice a (ts.getD k []).length c ∧ ∀ w', (∀ j, j < w.heap.size → ¬ X j → v.ownBlock ≠ some j → w'.heap[j]? = w.heap[j]?) → w.heap.size ≤ w'.heap.size → Table w' a (ts.getD k [])
theorem range_getT (ts : List (List (List Int))) : (List.range ts.length).map (fun i => ts.getD i []) = ts := by
  refine List.ext_getElem (by simp) (fun i h1 h2 => ?_)
  simp [List.getD, h2]

set_option maxHeartbeats 2000000 in
theorem SortCube_at {ρ : Go.Shelf.Ren} (L : SlLaysF.n6 Tryz.prog ρ) (hρ : ρ.f 6 = 31) (f : Nat) (ef : ∀ args w, (callFunc f args).run Tryz.prog w = .ok (.enter f args) w) {X : Nat → Prop} {lo : Nat} (v : Value) (us : List Value) (ts : List (List (List Int))) (w : World) (hT : Cub X w lo v us ts) (hl : ts.length < 4611686018427387904) (hlo : lo ≤ w.heap.size)
    (hcmp : ∀ (W : World) (a b : Option Addr) (ca cb : Nat) (s t : List (List Int)), s ∈ ts → t ∈ ts → Table W a s → Table W b t → Calls Tryz.prog f #[.slice a s.length ca, .slice b t.length cb] W fun e w' => e = .returned (.int .i64 (cmpL s.flatten t.flatten)) ∧ ∃ q os', w' = grow (W.drewN q) os') :
    Calls Tryz.prog 31 #[v, .func (.func f) #[] #[]] w fun e w' => e = .returned (.tuple #[]) ∧ ∃ us' ts', ts'.Perm ts ∧ ts'.Pairwise (fun a b => ¬ cmpL b.flatten a.flatten < 0) ∧ Cub X w' lo v us' ts' ∧ Below lo w w' ∧ ∀ k, k < w.heap.size → v.ownBlock ≠ some k → w'.heap[k]? = w.heap[k]? := by
  by_cases h0 : 0 < ts.length
  · rcases hT.own.2 with ⟨_, h3⟩ | ⟨g, cap, cur, hv, hg, hh, hnc, hcm, hcs, htk⟩
    · have := hT.len; omega
    have hown := hT.own
    rw [hv, hT.len] at hown
    have hn : us.length = ts.length := hT.len
    have hg2 : g < w.heap.size := (Array.getElem?_eq_some_iff.1 hh).1
    have hfz : ∀ j, w.frozen? ⟨g, j, none⟩ = false := fun j => World.ownsRow.frozenAt hown j
    -- a place that is there
    obtain ⟨cl, hcl⟩ : ∃ cl : Nat → Nat, ∀ x, cl x = if x < ts.length then x else 0 := ⟨_, fun _ => rfl⟩
    have hclt : ∀ x, cl x < ts.length := fun x => by rw [hcl]; split <;> omega
    have hclx : ∀ x, x < ts.length → cl x = x := fun x hx => by rw [hcl, if_pos hx]
    obtain ⟨enc, henc⟩ : ∃ enc : Nat → Value, ∀ x, enc x = rowv us (cl x) := ⟨_, fun _ => rfl⟩
    have hone : ∀ x, (enc x).oneCell' = true := fun x => by
      obtain ⟨a1, c1, e1, _⟩ := hT.el (cl x) (hclt x)
      rw [henc, e1]; rfl
    have hread : CmpLays1 Tryz.prog f #[] enc (fun i j => cmpL (ts.getD (cl i) []).flatten (ts.getD (cl j) []).flatten) g 0 ts.length w := fun m os dk _ x y => by
      have hsh : ∀ x, ∃ a c, enc x = .slice a (ts.getD (cl x) []).length c ∧ Table (sortWorld enc w g 0 m dk os) a (ts.getD (cl x) []) := fun x => by
        obtain ⟨a1, c1, e1, e2⟩ := hT.el (cl x) (hclt x)
        refine ⟨a1, c1, by rw [henc]; exact e1, e2 _ (fun j a1 _ a3 => sort_other a1 (fun e => a3 (by rw [hv, e]; rfl))) sort_size⟩
      obtain ⟨a1, c1, e1, s1⟩ := hsh x
      obtain ⟨a2, c2, e2, s2⟩ := hsh y
      have hmem : ∀ x, ts.getD (cl x) [] ∈ ts := fun x => by have := hclt x; simp [List.getD, this]
      have h := hcmp _ a1 a2 c1 c2 _ _ (hmem x) (hmem y) s1 s2
      rw [e1, e2]
      exact h
    have hcl2 : ∀ j, j < ts.length → w.cell? ⟨g, j, none⟩ = some (rowv us j) := fun j hj => by
      rw [World.ownsRow.cellAt hown j (by omega), rowv_get (by omega)]
    have hH : Holds enc w g 0 (List.range ts.length).toArray := fun j hj => by
      have hj' : j < ts.length := by simpa using hj
      refine ⟨?_, hfz _⟩
      rw [Nat.zero_add, hcl2 j hj']
      congr 1
      rw [henc]
      simp [getElem!_pos, hj', hclx]
    have hsz : (List.range ts.length).toArray.size = ts.length := by simp
    have h := Any.slices_SortFunc L enc hone (fun i j => cmpL (ts.getD (cl i) []).flatten (ts.getD (cl j) []).flatten) (ltOf_key fun i => (ts.getD (cl i) []).flatten) f #[] g 0 cap (List.range ts.length).toArray w ef (by rw [hsz]; exact hread) hH hg2 (by rw [hsz]; omega)
    rw [hρ, hsz] at h
    rw [hv, hn]
    refine h.mono ?_
    rintro e w' ⟨rfl, d', m, os, hp, hsd, rfl⟩
    have e1 : d'.size = ts.length := by rw [hp.1, hsz]
    have hp2 : d'.toList.Perm (List.range ts.length) := by
      have h3 := hp.2.2
      have e2 : d'.extract 0 ts.length = d' := by rw [← e1]; simp
      have e3 : (List.range ts.length).toArray.extract 0 ts.length = (List.range ts.length).toArray := by simp
      rw [e2, e3] at h3
      simpa using h3
    have hmem : ∀ x ∈ d'.toList, x < ts.length := fun x hx => List.mem_range.1 (hp2.mem_iff.1 hx)
    have hle : d'.toList.length = ts.length := by rw [hp2.length_eq, List.length_range]
    have hother : ∀ k, k < w.heap.size → (Value.slice (some ⟨g, 0, none⟩) ts.length cap).ownBlock ≠ some k → (sortWorld enc w g 0 m d' os).heap[k]? = w.heap[k]? := fun k a1 a2 => sort_other a1 (fun e => a2 (by rw [e]; rfl))
    refine ⟨rfl, d'.toList.map (rowv us), d'.toList.map (fun i => ts.getD i []), ?_, ?_, ⟨?_, by simp, fun k hk => ?_⟩, sort_below hg hlo, hother⟩
    · have := hp2.map (fun i => ts.getD i [])
      rw [range_getT] at this; exact this
    · rw [List.pairwise_map, List.pairwise_iff_getElem]
      intro i j hi hj hij
      have hi2 : i < d'.size := by simpa using hi
      have hj2 : j < d'.size := by simpa using hj
      have h5 := hsd i j (Nat.zero_le _) hij (by omega)
      unfold ltOf at h5
      have h6 := of_decide_eq_false h5
      rw [getElem!_pos d' j hj2, getElem!_pos d' i hi2] at h6
      have h7 : ¬ cmpL (ts.getD (cl d'[j]) []).flatten (ts.getD (cl d'[i]) []).flatten < 0 := h6
      rw [hclx d'[j] (hmem _ (Array.mem_toList_iff.2 (Array.getElem_mem hj2))), hclx d'[i] (hmem _ (Array.mem_toList_iff.2 (Array.getElem_mem hi2)))] at h7
      simpa using h7
    · refine ⟨by simp, Or.inr ⟨g, cap, putCells enc 0 d' cur, by rw [List.length_map, hle], hg, sort_block hh, ?_, hcm, ?_, ?_⟩⟩
      · rw [List.length_map, hle]; omega
      · simp only [putCells, Array.size_mapIdx] at *; simpa using hcs
      · rw [List.length_map, hle, Nat.mul_one, ← e1, put_take (by rw [e1]; omega)]
        exact List.map_congr_left fun x hx => by rw [henc, hclx x (hmem x hx)]
    · have hk2 : k < d'.toList.length := by simpa using hk
      have hx := hmem (d'.toList.getD k 0) (mem_at hk2)
      obtain ⟨a1, c1, q1, q2⟩ := hT.el (d'.toList.getD k 0) hx
      have er : rowv (d'.toList.map (rowv us)) k = rowv us (d'.toList.getD k 0) := by
        unfold rowv
        simp only [List.getD, List.getElem?_map, List.getElem?_eq_getElem hk2]; rfl
      have et : (d'.toList.map (fun i => ts.getD i [])).getD k [] = ts.getD (d'.toList.getD k 0) [] := by
        simp only [List.getD, List.getElem?_map, List.getElem?_eq_getElem hk2]; rfl
      rw [er, et]
      refine ⟨a1, c1, q1, fun w2 h2 h3 => q2 w2 (fun j b1 b2 b3 => ?_) (Nat.le_trans sort_size h3)⟩
      rw [h2 j (Nat.lt_of_lt_of_le b1 sort_size) b2 (by rw [hv, hn] at b3; exact b3)]
      exact hother j b1 (by rw [hv, hn] at b3; exact b3)
  · obtain rfl : ts = [] := List.eq_nil_of_length_eq_zero (by omega)
    obtain ⟨p, c, hv⟩ : ∃ p c, v = .slice p 0 c := by
      rcases hT.own.2 with ⟨h2, h3⟩ | ⟨g, cap, cur, hv, _⟩
      · exact ⟨none, 0, h2⟩
      · exact ⟨_, cap, by rw [hv, hT.len]; rfl⟩
    have h := AnyF.slices_SortFunc_none (P := Tryz.prog) (ρ := ρ) { L with } p c (.func (.func f) #[] #[]) w
    rw [hρ] at h
    rw [hv]
    refine h.mono ?_
    rintro e w' ⟨rfl, rfl⟩
    exact ⟨rfl, us, [], List.Perm.refl _, List.Pairwise.nil, by rw [← hv]; exact hT, Below.refl _ _, fun _ _ _ => rfl⟩

end Go.Proofs.YtgcpconlmihilaaGreatDoor
