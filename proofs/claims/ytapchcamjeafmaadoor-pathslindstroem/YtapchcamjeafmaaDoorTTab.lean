/-
  'append' with all that it leaves as it was, block by block; tables of ints of the call's own, their rows apart.
-/
import Derived.Test.YtapchcamjeafmaaDoorFJoi
import Derived.Test.YtapchcamjeafmaaDoorTApp
namespace Go.Proofs.YtapchcamjeafmaaDoor
open Go.RowKit


theorem Tryd.info22 : (Tryd.prog.info? 36).map (fun i => (i.zero, i.size, i.bytes)) = some (some (.slice none 0 0), 1, 24) := by kernel_rfl
theorem elem_row : Elem 32 36 (.slice none 0 0) 24 := ⟨Tryd.underlying32, Tryd.info22, rfl⟩

/-- The value of row i. -/
def rowv (vs : List Value) (i : Nat) : Value := vs.getD i (.slice none 0 0)

/-- v owns the rows ls, in blocks from lo on, no two in one block; vs are the rows' values. -/
structure TblV (w : World) (lo : Nat) (v : Value) (vs : List Value) (ls : List (List Int)) : Prop where
  own : w.ownsRow lo 36 1 v vs.length vs
  len : vs.length = ls.length
  rows : ∀ i, i < ls.length → Owns w lo (rowv vs i) (ls.getD i [])
  apart : ∀ i j, i < ls.length → j < ls.length → i ≠ j → Apart (rowv vs i) (rowv vs j)
  off : ∀ i, i < ls.length → Apart v (rowv vs i)
def Tbl (w : World) (lo : Nat) (v : Value) (ls : List (List Int)) : Prop := ∃ vs, TblV w lo v vs ls

theorem Tbl.nil (w : World) (lo : Nat) : Tbl w lo (.slice none 0 0) [] := ⟨[], World.ownsRow_nil _ _ _ _, rfl, fun i h => absurd h (by simp), fun i _ h => absurd h (by simp), fun i h => absurd h (by simp)⟩
theorem TblV.same {w w' : World} {lo : Nat} {v : Value} {vs : List Value} {ls : List (List Int)} (h : TblV w lo v vs ls) (hk : ∀ k, lo ≤ k → k < w.heap.size → w'.heap[k]? = w.heap[k]?) : TblV w' lo v vs ls :=
  ⟨ownsRow_blocks h.own (fun k e => by have := h.own.lt k e; exact hk k this.1 this.2), h.len, fun i hi => ownsRow_blocks (h.rows i hi) (fun k e => by have := (h.rows i hi).lt e; exact hk k this.1 this.2), h.apart, h.off⟩
theorem Tbl.same {w w' : World} {lo : Nat} {v : Value} {ls : List (List Int)} (h : Tbl w lo v ls) (hk : ∀ k, lo ≤ k → k < w.heap.size → w'.heap[k]? = w.heap[k]?) : Tbl w' lo v ls := by
  obtain ⟨vs, h⟩ := h; exact ⟨vs, h.same hk⟩
theorem Tbl.below {w w' : World} {lo : Nat} {v : Value} {ls : List (List Int)} (h : Tbl w lo v ls) (hb : Below w.heap.size w w') : Tbl w' lo v ls := h.same (fun k _ hk => hb.block k hk)
theorem Tbl.drewN {w : World} {lo : Nat} {v : Value} {ls : List (List Int)} (h : Tbl w lo v ls) (n : Nat) : Tbl (w.drewN n) lo v ls := h.same (fun _ _ _ => rfl)
theorem Tbl.mono {w : World} {lo lo' : Nat} {v : Value} {ls : List (List Int)} (h : Tbl w lo v ls) (hl : lo' ≤ lo) : Tbl w lo' v ls := by
  obtain ⟨vs, h⟩ := h
  exact ⟨vs, ownsRow_down h.own hl, h.len, fun i hi => (h.rows i hi).mono hl, h.apart, h.off⟩

theorem rowv_get {vs : List Value} {i : Nat} (h : i < vs.length) : vs[i]? = some (rowv vs i) := by simp [rowv, List.getD, List.getElem?_eq_getElem h]
theorem owns_one {w : World} {base : Nat} {v : Value} {zs : List Int} (h : Owns w base v zs) : v.oneCell' = true := by
  obtain ⟨a, cap, rfl⟩ := h.shape; rfl

/-- As an argument it is a table. -/
theorem Tbl.table {w : World} {lo : Nat} {v : Value} {ls : List (List Int)} (h : Tbl w lo v ls) (hl : ∀ l ∈ ls, l.length ≤ 17592186044416 ∧ ∀ z ∈ l, -9223372036854775808 ≤ z ∧ z ≤ 9223372036854775807) :
    ∃ a n cap, v = .slice a n cap ∧ Table w a ls ∧ Hid (n = ls.length) := by
  obtain ⟨vs, h⟩ := h
  have h0 := h.own
  rcases h.own.2 with ⟨hv, hn⟩ | ⟨g, cap, cur, hv, hg, hh, _⟩
  · exact ⟨none, 0, 0, hv, fun i hi => by have := h.len; omega, by show _ = _; have := h.len; omega⟩
  · rw [hv] at h0
    refine ⟨_, _, cap, hv, fun i hi => ?_, h.len⟩
    have ho := h.rows i hi
    have hm : ls.getD i [] ∈ ls := by simp [List.getD, List.getElem?_eq_getElem hi]
    obtain ⟨ai, ci, hui, hS⟩ := ho.shows (hl _ hm).1 (hl _ hm).2
    refine ⟨g, 0, ai, ci, rfl, (Array.getElem?_eq_some_iff.1 hh).1, ?_, hS, fun hn => ?_⟩
    · rw [Nat.zero_add, World.ownsRow.cellAt h0 i (by have := h.len; omega), rowv_get (by have := h.len; omega), hui]
    · subst hn
      rcases ho.2 with ⟨h3, h4⟩ | ⟨g3, cap3, cur3, h3, _⟩
      · rw [hui] at h3
        simp only [Value.slice.injEq] at h3
        exact ⟨List.eq_nil_of_length_eq_zero h4, h3.2.2⟩
      · rw [hui] at h3; simp at h3

/-- Opened: its block, and each row's cell. -/
theorem TblV.head {w : World} {lo : Nat} {v : Value} {vs : List Value} {ls : List (List Int)} (h : TblV w lo v vs ls) (h0 : 0 < ls.length) :
    ∃ g n cap, v = .slice (some ⟨g, 0, none⟩) n cap ∧ Hid (n = ls.length) ∧ lo ≤ g ∧ g < w.heap.size ∧ (∀ j, w.frozen? ⟨g, j, none⟩ = false) ∧ ∀ i, i < ls.length → w.cell? ⟨g, i, none⟩ = some (rowv vs i) := by
  have h1 := h.own
  rcases h.own.2 with ⟨hv, hn⟩ | ⟨g, cap, cur, hv, hg, hh, _⟩
  · have := h.len; omega
  · rw [hv] at h1
    refine ⟨g, _, cap, hv, h.len, hg, (Array.getElem?_eq_some_iff.1 hh).1, fun j => World.ownsRow.frozenAt h1 j, fun i hi => ?_⟩
    rw [World.ownsRow.cellAt h1 i (by have := h.len; omega), rowv_get (by have := h.len; omega)]

theorem getD_set_rows (ls : List (List Int)) (i : Nat) (zs : List Int) (j : Nat) (hj : j < ls.length) : (ls.set i zs).getD j [] = if j = i then zs else ls.getD j [] := by
  simp only [List.getD, List.getElem?_set]
  by_cases h : i = j
  · subst h; simp [hj]
  · rw [if_neg h, if_neg (fun e => h e.symm)]
theorem rowv_set (vs : List Value) (i : Nat) (u : Value) (j : Nat) (hj : j < vs.length) : rowv (vs.set i u) j = if j = i then u else rowv vs j := by
  simp only [rowv, List.getD, List.getElem?_set]
  by_cases h : i = j
  · subst h; simp [hj]
  · rw [if_neg h, if_neg (fun e => h e.symm)]

theorem Apart.of_block {v u : Value} (h : ∀ g k, v.ownBlock = some g → u.ownBlock = some k → g ≠ k) : Apart v u := fun g h1 h2 => h g g h1 h2 rfl

/-- Row i becomes u, which was made out of row i's old value (or is new). -/
theorem TblV.setRow {w w' : World} {lo g n cap i : Nat} {vs : List Value} {ls : List (List Int)} {u : Value} {zs : List Int} (h : TblV w lo (.slice (some ⟨g, 0, none⟩) n cap) vs ls) (hi : i < ls.length) (hu : Owns w' lo u zs) (hk : KeepB (rowv vs i) u w w') :
    TblV (w'.setCell ⟨g, i, none⟩ u) lo (.slice (some ⟨g, 0, none⟩) n cap) (vs.set i u) (ls.set i zs) := by
  have hg := h.own.lt g rfl
  have hlen := h.len
  have hoff : (rowv vs i).ownBlock ≠ some g := fun e => h.off i hi g rfl e
  have hown' : w'.ownsRow lo 36 1 (.slice (some ⟨g, 0, none⟩) n cap) vs.length vs := ownsRow_blocks h.own (fun k e => by cases e; exact hk.block g hg.2 hoff)
  have hnn : vs.length = n := by
    rcases h.own.2 with ⟨hv, _⟩ | ⟨g', cap', cur, hv, _⟩
    · cases hv
    · simp only [Value.slice.injEq] at hv; exact hv.2.1.symm
  have hug : ∀ k, u.ownBlock = some k → k ≠ g := fun k e e2 => by
    subst e2
    rcases hk.lies k e with h1 | h1
    · exact hoff h1
    · omega
  have hrow : ∀ j, j < ls.length → j ≠ i → Owns w' lo (rowv vs j) (ls.getD j []) := fun j hj hji =>
    ownsRow_blocks (h.rows j hj) (fun k e => hk.block k ((h.rows j hj).lt e).2 (fun e2 => h.apart j i hj hi hji k e e2))
  have hua : ∀ j, j < ls.length → j ≠ i → Apart u (rowv vs j) := fun j hj hji k e e2 => by
    rcases hk.lies k e with h1 | h1
    · exact h.apart i j hi hj (fun e => hji e.symm) k h1 e2
    · have := ((h.rows j hj).lt e2).2; omega
  have hset : ∀ (x : Value) (l : List Int), Owns w' lo x l → (∀ k, x.ownBlock = some k → k ≠ g) → Owns (w'.setCell ⟨g, i, none⟩ u) lo x l := fun x l hx hne =>
    ownsRow_blocks hx (fun k e => heap_setCell_other _ _ _ _ (hne k e))
  refine ⟨?_, by simp [hlen], fun j hj => ?_, fun j k hj hkk hjk => ?_, fun j hj => ?_⟩
  · subst hnn
    have := (World.ownsRow.stored hown' i u).1
    simpa using this
  · rw [List.length_set] at hj
    rw [getD_set_rows _ _ _ _ hj, rowv_set _ _ _ _ (by omega)]
    by_cases e : j = i
    · rw [if_pos e, if_pos e]; exact hset u zs hu hug
    · rw [if_neg e, if_neg e]; exact hset _ _ (hrow j hj e) (fun k ek e2 => by subst e2; exact h.off j hj k rfl ek)
  · rw [List.length_set] at hj hkk
    rw [rowv_set _ _ _ _ (by omega), rowv_set _ _ _ _ (by omega)]
    by_cases e : j = i
    · rw [if_pos e, if_neg (by omega)]; exact hua k hkk (by omega)
    · rw [if_neg e]
      by_cases e2 : k = i
      · rw [if_pos e2]; exact (hua j hj e).symm
      · rw [if_neg e2]; exact h.apart j k hj hkk hjk
  · rw [List.length_set] at hj
    rw [rowv_set _ _ _ _ (by omega)]
    by_cases e : j = i
    · rw [if_pos e]; intro k h1 h2; cases h1; exact hug _ h2 rfl
    · rw [if_neg e]; exact h.off j hj

/-- Row i's own block holds something else. -/
theorem TblV.refill {w w' : World} {lo i : Nat} {v : Value} {vs : List Value} {ls : List (List Int)} {zs : List Int} (ht : TblV w lo v vs ls) (hi : i < ls.length) (hk : ∀ q, (rowv vs i).ownBlock ≠ some q → q < w.heap.size → w'.heap[q]? = w.heap[q]?) (ho : Owns w' lo (rowv vs i) zs) : TblV w' lo v vs (ls.set i zs) := by
  refine ⟨ownsRow_blocks ht.own (fun k e => hk k (fun e2 => ht.off i hi k e e2) (ht.own.lt k e).2), by simp [ht.len], fun k hk' => ?_, fun a b ha hb hab => ?_, fun a ha => ?_⟩
  · rw [List.length_set] at hk'
    rw [getD_set_rows _ _ _ _ hk']
    by_cases e : k = i
    · subst e; rw [if_pos rfl]; exact ho
    · rw [if_neg e]
      exact ownsRow_blocks (ht.rows k hk') (fun q eq => hk q (fun e2 => ht.apart k i hk' hi e q eq e2) ((ht.rows k hk').lt eq).2)
  · rw [List.length_set] at ha hb; exact ht.apart a b ha hb hab
  · rw [List.length_set] at ha; exact ht.off a ha

/-- A store into row i. -/
theorem TblV.storeBox {w : World} {lo i h c m : Nat} {v : Value} {vs : List Value} {ls : List (List Int)} (ht : TblV w lo v vs ls) (hi : i < ls.length) (hv : rowv vs i = .slice (some ⟨h, 0, none⟩) m c) (hm : m = (ls.getD i []).length) (j : Nat) (x : Int) :
    TblV (w.setCell ⟨h, j, none⟩ (.int .i64 x)) lo v vs (ls.set i ((ls.getD i []).set j x)) := by
  have hr := ht.rows i hi
  rw [hv] at hr
  refine ⟨ownsRow_blocks ht.own (fun k e => heap_setCell_other _ _ _ _ (fun e2 => by subst e2; exact ht.off i hi _ e (by rw [hv]; rfl))), by simp [ht.len], fun k hk => ?_, fun a b ha hb hab => ?_, fun a ha => ?_⟩
  · rw [List.length_set] at hk
    rw [getD_set_rows _ _ _ _ hk]
    by_cases e : k = i
    · subst e
      rw [if_pos rfl, hv]; exact hr.store hm j x
    · rw [if_neg e]
      exact ownsRow_blocks (ht.rows k hk) (fun q eq => heap_setCell_other _ _ _ _ (fun e2 => by subst e2; exact ht.apart k i hk hi e _ eq (by rw [hv]; rfl)))
  · rw [List.length_set] at ha hb; exact ht.apart a b ha hb hab
  · rw [List.length_set] at ha; exact ht.off a ha

theorem rowv_push (vs : List Value) (u : Value) (j : Nat) : rowv (vs ++ [u]) j = if j < vs.length then rowv vs j else if j = vs.length then u else .slice none 0 0 := by
  simp only [rowv, List.getD, List.getElem?_append]
  by_cases h : j < vs.length
  · rw [if_pos h, if_pos h]
  · rw [if_neg h, if_neg h]
    by_cases e : j = vs.length
    · subst e; simp
    · rw [if_neg e, List.getElem?_eq_none (by simp; omega)]; rfl
theorem getD_push (ls : List (List Int)) (zs : List Int) (j : Nat) (hj : j < ls.length + 1) : (ls ++ [zs]).getD j [] = if j < ls.length then ls.getD j [] else zs := by
  simp only [List.getD, List.getElem?_append]
  by_cases h : j < ls.length
  · rw [if_pos h, if_pos h]
  · rw [if_neg h, if_neg h, show j - ls.length = 0 by omega]; rfl

/-- A row behind the others. -/
theorem TblV.push {w w' : World} {lo : Nat} {v v' u : Value} {vs : List Value} {ls : List (List Int)} {zs : List Int} (h : TblV w lo v vs ls) (hu : Owns w lo u zs) (hua : ∀ i, i < ls.length → Apart u (rowv vs i)) (huv : Apart v u)
    (hown : w'.ownsRow lo 36 1 v' (vs ++ [u]).length (vs ++ [u])) (hk : KeepB v v' w w') : TblV w' lo v' (vs ++ [u]) (ls ++ [zs]) := by
  have hlen := h.len
  have hrow : ∀ j, j < ls.length → Owns w' lo (rowv vs j) (ls.getD j []) := fun j hj =>
    ownsRow_blocks (h.rows j hj) (fun k e => hk.block k ((h.rows j hj).lt e).2 (fun e2 => h.off j hj k e2 e))
  have hu' : Owns w' lo u zs := ownsRow_blocks hu (fun k e => hk.block k (hu.lt e).2 (fun e2 => huv k e2 e))
  have hoff : ∀ j, j < ls.length → Apart v' (rowv vs j) := fun j hj k e e2 => by
    rcases hk.lies k e with h1 | h1
    · exact h.off j hj k h1 e2
    · have := ((h.rows j hj).lt e2).2; omega
  have hoff' : Apart v' u := fun k e e2 => by
    rcases hk.lies k e with h1 | h1
    · exact huv k h1 e2
    · have := (hu.lt e2).2; omega
  refine ⟨hown, by simp [hlen], fun j hj => ?_, fun a b ha hb hab => ?_, fun j hj => ?_⟩
  · rw [List.length_append] at hj
    simp only [List.length_singleton] at hj
    rw [rowv_push, getD_push _ _ _ hj]
    by_cases e : j < ls.length
    · rw [if_pos (by omega), if_pos e]; exact hrow j e
    · rw [if_neg (by omega), if_pos (by omega), if_neg e]; exact hu'
  · rw [List.length_append] at ha hb
    simp only [List.length_singleton] at ha hb
    rw [rowv_push, rowv_push]
    by_cases e : a < ls.length
    · rw [if_pos (by omega)]
      by_cases e2 : b < ls.length
      · rw [if_pos (by omega)]; exact h.apart a b e e2 hab
      · rw [if_neg (by omega), if_pos (by omega)]; exact (hua a e).symm
    · rw [if_neg (by omega), if_pos (by omega), if_pos (by omega)]; exact hua b (by omega)
  · rw [List.length_append] at hj
    simp only [List.length_singleton] at hj
    rw [rowv_push]
    by_cases e : j < ls.length
    · rw [if_pos (by omega)]; exact hoff j e
    · rw [if_neg (by omega), if_pos (by omega)]; exact hoff'

/-- A row that lies in blocks from H on, where the table lies under H. -/
theorem Tbl.push {w w' : World} {lo H : Nat} {v v' u : Value} {vs : List Value} {ls : List (List Int)} {zs : List Int} {w0 : World} (h0 : TblV w0 lo v vs ls) (h : TblV w lo v vs ls) (hH : w0.heap.size ≤ H) (hlo : lo ≤ H) (hu : Owns w H u zs)
    (hown : w'.ownsRow lo 36 1 v' (vs ++ [u]).length (vs ++ [u])) (hk : KeepB v v' w w') : Tbl w' lo v' (ls ++ [zs]) := by
  refine ⟨_, h.push (hu.mono hlo) (fun i hi k e e2 => ?_) (fun k e e2 => ?_) hown hk⟩
  · have := (hu.lt e).1
    have := ((h0.rows i hi).lt e2).2
    omega
  · have := (hu.lt e2).1
    have := (h0.own.lt k e).2
    omega

/-- 'make([][]int, n)'. -/
theorem tbl_made {w : World} {lo g n : Nat} (h : w.ownsRow lo 36 1 (.slice (some ⟨g, 0, none⟩) n n) n (madeCells #[Value.slice none 0 0] n).toList) : TblV w lo (.slice (some ⟨g, 0, none⟩) n n) (List.replicate n (.slice none 0 0)) (List.replicate n []) := by
  have er : ∀ i, rowv (List.replicate n (Value.slice none 0 0)) i = .slice none 0 0 := fun i => by
    unfold rowv
    simp only [List.getD, List.getElem?_replicate]
    split <;> rfl
  have el : ∀ i, (List.replicate n ([] : List Int)).getD i [] = [] := fun i => by
    simp only [List.getD, List.getElem?_replicate]
    split <;> rfl
  refine ⟨?_, by simp, fun i _ => ?_, fun i j _ _ _ => ?_, fun i _ => ?_⟩
  · rw [toList_madeCells_one] at h; simpa using h
  · rw [er, el]; exact World.ownsRow_nil _ _ _ _
  · rw [er]; exact apart_nil _
  · rw [er]; exact (apart_nil _).symm

end Go.Proofs.YtapchcamjeafmaaDoor
