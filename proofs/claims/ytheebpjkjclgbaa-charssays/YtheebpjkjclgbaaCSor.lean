/-
  The contract of slices.SortFunc at rows of numbers, by AllParts' compare function.
-/
import Derived.Test.YtheebpjkjclgbaaCSrt
import Derived.Shelf.SlSortCmp.NoneTotal
namespace Go.Proofs.Ytheebpjkjclgbaa
open Go.RowKit Go.Shelf Go.Sort

theorem TblV.shapeT {w : World} {lo : Nat} {v : Value} {vs : List Value} {ls : List (List Int)} (h : TblV w lo v vs ls) : ∃ a cap, v = .slice a ls.length cap := by
  rcases h.own.2 with ⟨h2, h3⟩ | ⟨g, cap, cur, hv, _⟩
  · exact ⟨none, 0, by rw [h2, ← h.len, h3]⟩
  · exact ⟨_, cap, by rw [hv, h.len]⟩
theorem sort_other {enc : Nat → Value} {w : World} {g m k : Nat} {dk : Array Nat} {os : Array Obj} (hk : k < w.heap.size) (hne : k ≠ g) : (sortWorld enc w g 0 m dk os).heap[k]? = w.heap[k]? := by
  unfold sortWorld
  rw [heap_grow_old _ _ (by rw [size_putRow]; exact hk)]
  unfold putRow mapBlock
  simp only [Array.getElem?_modify]
  rw [if_neg (fun e => hne e.symm)]
  rfl
theorem sort_block {enc : Nat → Value} {w : World} {g m : Nat} {dk : Array Nat} {os : Array Obj} {c : Array Value} {ty : TypeId} {fr : Nat × Nat} (h : w.heap[g]? = some (.cells c ty fr)) : (sortWorld enc w g 0 m dk os).heap[g]? = some (.cells (putCells enc 0 dk c) ty fr) := by
  have hk : g < w.heap.size := (Array.getElem?_eq_some_iff.1 h).1
  unfold sortWorld
  rw [heap_grow_old _ _ (by rw [size_putRow]; exact hk)]
  unfold putRow mapBlock
  have e : (Go.Sort.ahead w m).heap[g]? = some (.cells c ty fr) := h
  simp only [Array.getElem?_modify]
  rw [if_pos trivial, e]
  rfl
theorem sort_below {enc : Nat → Value} {w : World} {g m lo : Nat} {dk : Array Nat} {os : Array Obj} (hg : lo ≤ g) (hlo : lo ≤ w.heap.size) : Below lo w (sortWorld enc w g 0 m dk os) := by
  refine ⟨rfl, rfl, rfl, ?_, fun k hk => sort_other (by omega) (by omega)⟩
  unfold sortWorld
  rw [size_grow, size_putRow]
  exact Nat.le_add_right _ _
theorem put_take {enc : Nat → Value} {d : Array Nat} {c : Array Value} (h : d.size ≤ c.size) : (putCells enc 0 d c).toList.take d.size = d.toList.map enc := by
  refine List.ext_getElem (by simp [putCells]; omega) (fun i h1 h2 => ?_)
  have hi : i < d.size := by simpa using h2
  simp [putCells, hi, getElem!_pos]

theorem ltOf_cmp (ls : List (List Int)) : SWO (ltOf (fun i j => cmpL (ls.getD j []) (ls.getD i []))) where
  irrefl x := by unfold ltOf; exact decide_eq_false (by simp only; rw [cmpL_refl]; omega)
  trans x y z h1 h2 := by unfold ltOf at *; exact decide_eq_true (cmpL_trans _ _ _ (of_decide_eq_true h2) (of_decide_eq_true h1))
  ntrans x y z h1 h2 := by unfold ltOf at *; exact decide_eq_false (cmpL_ntrans _ _ _ (of_decide_eq_false h2) (of_decide_eq_false h1))

theorem range_getD (ls : List (List Int)) : (List.range ls.length).map (fun i => ls.getD i []) = ls := by
  refine List.ext_getElem (by simp) (fun i h1 h2 => ?_)
  simp [List.getD, h2]
theorem map_rowv (vs : List Value) (l : List Nat) {i : Nat} (hi : i < l.length) : rowv (l.map (rowv vs)) i = rowv vs (l.getD i 0) := by
  unfold rowv
  simp [List.getD, List.getElem?_eq_getElem hi]
theorem map_rowl (ls : List (List Int)) (l : List Nat) {i : Nat} (hi : i < l.length) : (l.map (fun j => ls.getD j [])).getD i [] = ls.getD (l.getD i 0) [] := by
  simp [List.getD, List.getElem?_eq_getElem hi]
/-- A table whose rows have changed places. -/
theorem tbl_sorted {w : World} {lo m n0 : Nat} {os : Array Obj} {v : Value} {vs : List Value} {ls : List (List Int)} {d' : Array Nat} (hT : TblV w lo v vs ls) {g cap : Nat} (hv : v = .slice (some ⟨g, 0, none⟩) n0 cap) (hp : d'.toList.Perm (List.range ls.length)) :
    TblV (sortWorld (rowv vs) w g 0 m d' os) lo v (d'.toList.map (rowv vs)) (d'.toList.map (fun i => ls.getD i [])) := by
  have hlen : d'.toList.length = ls.length := by rw [hp.length_eq, List.length_range]
  have hmem : ∀ i, i < ls.length → d'.toList.getD i 0 < ls.length := fun i hi => by
    have h1 : d'.toList.getD i 0 ∈ d'.toList := by simp [List.getD, List.getElem?_eq_getElem (show i < d'.toList.length by omega)]
    exact List.mem_range.1 (hp.mem_iff.1 h1)
  have hnd : d'.toList.Nodup := hp.nodup_iff.2 List.nodup_range
  have hown := hT.own
  have hvl := hT.len
  rcases hown.2 with ⟨h1, h2⟩ | ⟨g', cap', cur, h1, h2, h3, h4, h5, h6, h7⟩
  · rw [hv] at h1; cases h1
  · rw [hv] at h1
    simp only [Value.slice.injEq, Option.some.injEq, Addr.mk.injEq, and_true] at h1
    obtain ⟨rfl, rfl, rfl⟩ := h1
    have hoth : ∀ i, i < ls.length → ∀ z, Owns w lo (rowv vs i) z → Owns (sortWorld (rowv vs) w g 0 m d' os) lo (rowv vs i) z := fun i hi z hz =>
      ownsRow_blocks hz (fun k e => sort_other ((hz.lt e).2) (fun e2 => by
        subst e2
        exact hT.off i hi k (by rw [hv]; rfl) e))
    refine ⟨?_, by rw [List.length_map, List.length_map], fun i hi => ?_, fun i j hi hj hij => ?_, fun i hi => ?_⟩
    · refine ⟨by rw [List.length_map]; simp, Or.inr ⟨g, cap, putCells (rowv vs) 0 d' cur, ?_, h2, sort_block h3, ?_, h5, ?_, ?_⟩⟩
      · rw [hv, List.length_map, hlen, ← hvl]
      · rw [List.length_map, hlen, ← hvl]; exact h4
      · rw [← h6]; unfold putCells; rw [Array.size_mapIdx]
      · rw [List.length_map, Nat.mul_one]
        exact put_take (by have e : d'.size = vs.length := by rw [hvl, ← hlen]; rfl
                           rw [e, h6]; omega)
    · rw [List.length_map, hlen] at hi
      rw [map_rowv _ _ (by omega), map_rowl _ _ (by omega)]
      exact hoth _ (hmem i hi) _ (hT.rows _ (hmem i hi))
    · rw [List.length_map, hlen] at hi hj
      rw [map_rowv _ _ (by omega), map_rowv _ _ (by omega)]
      refine hT.apart _ _ (hmem i hi) (hmem j hj) (fun e => hij ?_)
      have e2 : d'.toList[i]'(by omega) = d'.toList[j]'(by omega) := by simpa [List.getD, List.getElem?_eq_getElem (show i < d'.toList.length by omega), List.getElem?_eq_getElem (show j < d'.toList.length by omega)] using e
      unfold List.Nodup at hnd
      rcases Nat.lt_trichotomy i j with q | q | q
      · exact absurd e2 (List.pairwise_iff_getElem.1 hnd i j (by omega) (by omega) q)
      · exact q
      · exact absurd e2.symm (List.pairwise_iff_getElem.1 hnd j i (by omega) (by omega) q)
    · rw [List.length_map, hlen] at hi
      rw [map_rowv _ _ (by omega)]
      exact hT.off _ (hmem i hi)

set_option maxHeartbeats 2000000 in
theorem SortDown_at {ρ : Go.Shelf.Ren} (L : SlLaysF.n6 Try.prog ρ) (hρ : ρ.f 6 = 32) {lo : Nat} (v : Value) (vs : List Value) (ls : List (List Int)) (w : World) (hT : TblV w lo v vs ls) (hl : ls.length ≤ 1000) (hlo : lo ≤ w.heap.size)
    (hbd : ∀ l ∈ ls, l.length ≤ 17592186044416 ∧ ∀ z ∈ l, -9223372036854775808 ≤ z ∧ z ≤ 9223372036854775807) :
    Calls Try.prog 32 #[v, .func (.func 33) #[] #[]] w fun e w' => e = .returned (.tuple #[]) ∧ ∃ ls', ls'.Perm ls ∧ ls'.Pairwise (fun a b => ¬ cmpL a b < 0) ∧ Tbl w' lo v ls' ∧ Below lo w w' := by
  by_cases h0 : 0 < ls.length
  · obtain ⟨g, n, cap, hv, HN, hg1, hg2, hfz, hcl⟩ := hT.head h0
    have hn : n = ls.length := HN.out
    have eg : ∀ args w, (callFunc 33 args).run Try.prog w = .ok (.enter 33 args) w := enters_of Try.func33 (by kernel_rfl) rfl
    have hone : ∀ x, (rowv vs x).oneCell' = true := fun x => by
      by_cases hx : x < ls.length
      · obtain ⟨a1, c1, e1⟩ := (hT.rows x hx).shape
        rw [e1]; rfl
      · have : rowv vs x = .slice none 0 0 := by unfold rowv; simp only [List.getD]; rw [List.getElem?_eq_none (by have := hT.len; omega)]; rfl
        rw [this]; rfl
    have hread : CmpReads Try.prog 33 #[] (rowv vs) (fun i j => cmpL (ls.getD j []) (ls.getD i [])) g 0 ls.length w := fun m os dk _ x y => by
      have hsh : ∀ x, ∃ a n c, rowv vs x = .slice a n c ∧ Shows (sortWorld (rowv vs) w g 0 m dk os) a (ls.getD x []) ∧ n = (ls.getD x []).length := fun x => by
        by_cases hx : x < ls.length
        · have hO := hT.rows x hx
          have hO2 : Owns (sortWorld (rowv vs) w g 0 m dk os) lo (rowv vs x) (ls.getD x []) := ownsRow_blocks hO (fun k e => sort_other ((hO.lt e).2) (fun e2 => by
            subst e2
            exact hT.off x hx k (by rw [hv]; rfl) e))
          have hm : ls.getD x [] ∈ ls := by simp [List.getD, List.getElem?_eq_getElem hx]
          obtain ⟨a1, n1, c1, e1, s1, q1, _⟩ := hO2.opened (hbd _ hm).1 (hbd _ hm).2
          exact ⟨a1, n1, c1, e1, s1, q1⟩
        · have e1 : rowv vs x = .slice none 0 0 := by unfold rowv; simp only [List.getD]; rw [List.getElem?_eq_none (by have := hT.len; omega)]; rfl
          have e2 : ls.getD x [] = [] := by simp only [List.getD]; rw [List.getElem?_eq_none (by omega)]; rfl
          exact ⟨none, 0, 0, e1, by rw [e2]; exact ⟨by simp, by simp, fun h => absurd rfl h⟩, by rw [e2]; rfl⟩
      obtain ⟨a1, n1, c1, e1, s1, q1⟩ := hsh x
      obtain ⟨a2, n2, c2, e2, s2, q2⟩ := hsh y
      have h := AllParts2_at a1 a2 n1 n2 c1 c2 _ _ _ s1 s2 q1 q2
      rw [e1, e2]
      exact h.mono (fun e w' ⟨he, hw⟩ => ⟨he, 0, hw⟩)
    have hH : Holds (rowv vs) w g 0 (List.range ls.length).toArray := fun j hj => by
      have hj' : j < ls.length := by simpa using hj
      refine ⟨?_, hfz _⟩
      rw [Nat.zero_add, hcl j hj']
      congr 2
      simp [getElem!_pos, hj']
    have hsz : (List.range ls.length).toArray.size = ls.length := by simp
    have h := Any.slices_SortFunc L (rowv vs) hone (fun i j => cmpL (ls.getD j []) (ls.getD i [])) (ltOf_cmp ls) 33 #[] g 0 cap (List.range ls.length).toArray w eg (by rw [hsz]; exact hread.lays) hH hg2 (by rw [hsz]; omega)
    rw [hρ, hsz] at h
    rw [hv, hn]
    refine h.mono ?_
    rintro e w' ⟨rfl, d', m, os, hp, hsd, rfl⟩
    have hp2 : d'.toList.Perm (List.range ls.length) := by
      have h3 := hp.2.2
      have e1 : d'.size = ls.length := by rw [hp.1, hsz]
      have e2 : d'.extract 0 ls.length = d' := by rw [← e1]; simp
      have e3 : (List.range ls.length).toArray.extract 0 ls.length = (List.range ls.length).toArray := by simp
      rw [e2, e3] at h3
      simpa using h3
    refine ⟨rfl, d'.toList.map (fun i => ls.getD i []), ?_, ?_, ?_, sort_below hg1 hlo⟩
    · have := hp2.map (fun i => ls.getD i [])
      rw [range_getD] at this; exact this
    · have e1 : d'.size = ls.length := by rw [hp.1, hsz]
      rw [List.pairwise_map, List.pairwise_iff_getElem]
      intro i j hi hj hij
      have hj2 : j < d'.size := by simpa using hj
      have h5 := hsd i j (Nat.zero_le _) hij (by omega)
      unfold ltOf at h5
      have h6 := of_decide_eq_false h5
      rw [getElem!_pos d' j hj2, getElem!_pos d' i (by omega)] at h6
      simpa using h6
    · have hT2 := tbl_sorted (m := m) (os := os) hT (g := g) (cap := cap) (n0 := n) hv hp2
      rw [hv, hn] at hT2
      exact ⟨_, hT2⟩
  · obtain rfl : ls = [] := List.eq_nil_of_length_eq_zero (by omega)
    obtain ⟨p, c, hv⟩ := hT.shapeT
    have h := AnyF.slices_SortFunc_none (P := Try.prog) (ρ := ρ) { L with } p c (.func (.func 33) #[] #[]) w
    rw [hρ] at h
    rw [hv]
    refine h.mono ?_
    rintro e w' ⟨rfl, rfl⟩
    exact ⟨rfl, [], List.Perm.refl _, List.Pairwise.nil, ⟨vs, by rw [← hv]; exact hT⟩, Below.refl _ _⟩

end Go.Proofs.Ytheebpjkjclgbaa
