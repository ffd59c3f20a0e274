/-
  Words for ferref.AllPiles: lists of tables whose rows may lie in other lists.
-/
import Derived.Test.YtbiakncblkjmhaaGreatDoorDQu
import Derived.Test.YtbiakncblkjmhaaGreatDoorOTab
import Derived.Deep.RegionHeld3
import Derived.BigQuiet
namespace Go.Proofs.YtbiakncblkjmhaaGreatDoor
open Go.RowKit

theorem TblV.kept {w w' : World} {lo : Nat} {v : Value} {vs : List Value} {ls : List (List Int)} (h : TblV w lo v vs ls) (hv : ∀ k, v.ownBlock = some k → w'.heap[k]? = w.heap[k]?) (hr : ∀ i, i < ls.length → ∀ k, (rowv vs i).ownBlock = some k → w'.heap[k]? = w.heap[k]?) : TblV w' lo v vs ls :=
  ⟨ownsRow_blocks h.own hv, h.len, fun i hi => ownsRow_blocks (h.rows i hi) (hr i hi), h.apart, h.off⟩
theorem TblV.down {w : World} {lo lo' : Nat} {v : Value} {vs : List Value} {ls : List (List Int)} (h : TblV w lo v vs ls) (hl : lo' ≤ lo) : TblV w lo' v vs ls :=
  ⟨ownsRow_down h.own hl, h.len, fun i hi => (h.rows i hi).mono hl, h.apart, h.off⟩
/-- As an argument, with capacities. -/
theorem TblV.tblX {w : World} {lo : Nat} {v : Value} {vs : List Value} {ls : List (List Int)} (h : TblV w lo v vs ls) (hl : ∀ l ∈ ls, l.length ≤ 17592186044416 ∧ ∀ z ∈ l, -9223372036854775808 ≤ z ∧ z ≤ 9223372036854775807) :
    ∃ a cap, v = .slice a ls.length cap ∧ TableX w a ls := by
  have h0 := h.own
  rcases h.own.2 with ⟨hv, hn⟩ | ⟨g, cap, cur, hv, hg, hh, _⟩
  · have := h.len
    refine ⟨none, 0, by rw [hv, show ls.length = 0 by omega], fun i hi => by omega⟩
  · rw [hv] at h0
    refine ⟨_, cap, by rw [hv, h.len], fun i hi => ?_⟩
    have ho := h.rows i hi
    have hm : ls.getD i [] ∈ ls := by simp [List.getD, List.getElem?_eq_getElem hi]
    obtain ⟨ai, ci, hui, hS⟩ := ho.shows (hl _ hm).1 (hl _ hm).2
    refine ⟨g, 0, ai, ci, rfl, (Array.getElem?_eq_some_iff.1 hh).1, ?_, hS, fun hn => ?_, ?_⟩
    · rw [Nat.zero_add, World.ownsRow.cellAt h0 i (by have := h.len; omega), rowv_get (by have := h.len; omega), hui]
    · subst hn
      rcases ho.2 with ⟨h3, h4⟩ | ⟨g3, cap3, cur3, h3, _⟩
      · rw [hui] at h3
        simp only [Value.slice.injEq] at h3
        exact ⟨List.eq_nil_of_length_eq_zero h4, h3.2.2⟩
      · rw [hui] at h3; simp at h3
    · rcases ho.2 with ⟨_, h4⟩ | ⟨g3, cap3, cur3, h3, _, _, h5, _⟩
      · omega
      · rw [hui] at h3
        simp only [Value.slice.injEq] at h3
        rw [h3.2.2]; exact h5

/-- 'append(s, x)', x lying in a cell that is known. -/
theorem step_cell {T E : TypeId} {z : Value} {bytes : Nat} (he : Elem T E z bytes) {w : World} {base c : Nat} {ad : Addr} {v x : Value} {xs : List Value} {ops : Array Oper} {o : Oper} {a : Act} {K : Act → World → Prop} {Q : Exit → Act → World → Prop} {EE : Prop} (hgd : o.guard = none) (s y : Operand)
    (ho : o.op = .call { callee := .builtin .append, args := #[s, y], argTypes := #[T, T] }) (hs : a.eval s = v) (hx : a.eval y = .slice (some ad) 1 c) (hc : w.cell? ad = some x) (hown : w.ownsRow base E 1 v xs.length xs) (hx1 : x.oneCell' = true)
    (h63 : xs.length + 1 ≤ maxLen) (hl : (xs.length + 1) * bytes ≤ 140737488355328) (hbase : base ≤ w.heap.size)
    (h : ∀ v' w', w'.ownsRow base E 1 v' (xs ++ [x]).length (xs ++ [x]) → Below base w w' → KeepB v v' w w' → K (a.put o.dst v') w') :
    if Region.wanted o (yielded ops a.tmps) = true then Oper.wp Tryz.prog o a w K Q else EE := by
  have hw : Region.wanted o (yielded ops a.tmps) = true := by simp [Region.wanted, hgd]
  rw [if_pos hw]
  obtain ⟨v', w', hrun, r1, r2, r3⟩ := run_append_kb he o.type hown ad c (news := [x]) (fun j u hj => by
    match j, hj with
    | 0, hj => simp at hj; subst hj; simpa [Addr.add] using hc) (fun u hu => by simp at hu; subst hu; exact hx1) h63 hl hbase
  unfold Oper.wp
  rw [show ([x] : List Value).length = 1 from rfl] at hrun
  simp [execOp, ho, resolve, invoke, builtin, hs, hx, hrun, Result.andThen]
  exact h v' w' r1 r2 r3

theorem Tryz.infoPl : (Tryz.prog.info? 22).map (fun i => (i.zero, i.size, i.bytes)) = some (some (.slice none 0 0), 1, 24) := by kernel_rfl
theorem elem_pl : Elem 39 22 (.slice none 0 0) 24 := ⟨Tryz.underlying39, Tryz.infoPl, rfl⟩

/-- v is a list of the tables ts, whose blocks lie from lo on and are not v's own. -/
structure PlL (w : World) (lo : Nat) (v : Value) (us : List Value) (ts : List (List (List Nat))) : Prop where
  own : w.ownsRow lo 22 1 v us.length us
  len : us.length = ts.length
  el : ∀ k, k < ts.length → ∃ a c, rowv us k = .slice a (ts.getD k []).length c ∧ ∀ w', (∀ j, lo ≤ j → j < w.heap.size → v.ownBlock ≠ some j → w'.heap[j]? = w.heap[j]?) → w.heap.size ≤ w'.heap.size → TableX w' a (castT (ts.getD k []))
theorem PlL.nil (w : World) (lo : Nat) : PlL w lo (.slice none 0 0) [] [] := ⟨World.ownsRow_nil _ _ _ _, rfl, fun k h => absurd h (by simp)⟩
theorem PlL.below {w w' : World} {lo : Nat} {v : Value} {us : List Value} {ts : List (List (List Nat))} (h : PlL w lo v us ts) (hb : Below w.heap.size w w') : PlL w' lo v us ts :=
  ⟨ownsRow_blocks h.own (fun k e => hb.block k (h.own.lt k e).2), h.len, fun k hkk => by
    obtain ⟨a, c, e1, e2⟩ := h.el k hkk
    have hs := hb.size
    exact ⟨a, c, e1, fun w3 h3 h4 => e2 w3 (fun j a1 a2 a3 => by rw [h3 j a1 (by omega) a3, hb.block j a2]) (by omega)⟩⟩
theorem PlL.mono {w : World} {lo lo' : Nat} {v : Value} {us : List Value} {ts : List (List (List Nat))} (h : PlL w lo v us ts) (hl : lo' ≤ lo) : PlL w lo' v us ts :=
  ⟨ownsRow_down h.own hl, h.len, fun k hkk => by
    obtain ⟨a, c, e1, e2⟩ := h.el k hkk
    exact ⟨a, c, e1, fun w3 h3 h4 => e2 w3 (fun j a1 a2 a3 => h3 j (by omega) a2 a3) h4⟩⟩
theorem PlL.one (w : World) : PlL (w.alloc (.cells #[.slice none 0 0] 22)) w.heap.size (.slice (some ⟨w.heap.size, 0, none⟩) 1 1) [.slice none 0 0] [[]] := by
  refine ⟨⟨by simp, Or.inr ⟨w.heap.size, 1, #[.slice none 0 0], rfl, Nat.le_refl _, heap_alloc_new _ _, Nat.le_refl _, by unfold maxLen; omega, rfl, rfl⟩⟩, rfl, fun k hk => ?_⟩
  obtain rfl : k = 0 := by simpa using hk
  exact ⟨none, 0, rfl, fun w' _ _ i hi => absurd hi (by simp [castT])⟩
/-- Table k, and its cell. -/
theorem PlL.at {w : World} {lo : Nat} {v : Value} {us : List Value} {ts : List (List (List Nat))} (h : PlL w lo v us ts) {k : Nat} (hk : k < ts.length) :
    ∃ g c a ca, v = .slice (some ⟨g, 0, none⟩) ts.length c ∧ w.cell? ⟨g, k, none⟩ = some (.slice a (ts.getD k []).length ca) ∧ TableX w a (castT (ts.getD k [])) := by
  have h0 := h.own
  rcases h.own.2 with ⟨hv, hn⟩ | ⟨g, cap, cur, hv, hg, hh, _⟩
  · have := h.len; omega
  · rw [hv] at h0
    obtain ⟨a, ca, e1, e2⟩ := h.el k hk
    refine ⟨g, cap, a, ca, by rw [hv, h.len], ?_, e2 w (fun _ _ _ _ => rfl) (Nat.le_refl _)⟩
    rw [World.ownsRow.cellAt h0 k (by have := h.len; omega), rowv_get (by have := h.len; omega), e1]
/-- A table more. -/
theorem PlL.push {lo : Nat} {ts : List (List (List Nat))} {w w1 w2 : World} {v v2 u : Value} {us : List Value} {t : List (List Nat)} (h : PlL w lo v us ts) (hb1 : Below w.heap.size w w1)
    (hu : ∃ a c, u = .slice a t.length c ∧ ∀ w', (∀ j, lo ≤ j → j < w1.heap.size → v.ownBlock ≠ some j → w'.heap[j]? = w1.heap[j]?) → TableX w' a (castT t))
    (ho : w2.ownsRow lo 22 1 v2 (us ++ [u]).length (us ++ [u])) (hk : KeepB v v2 w1 w2) : PlL w2 lo v2 (us ++ [u]) (ts ++ [t]) := by
  have hs1 := hb1.size
  have hs2 := hk.size
  have hv2 : ∀ j, v2.ownBlock = some j → v.ownBlock = some j ∨ w1.heap.size ≤ j := hk.lies
  refine ⟨ho, by simp [h.len], fun k hkk => ?_⟩
  rw [List.length_append] at hkk
  rw [rowv_push]
  by_cases e : k < ts.length
  · rw [if_pos (by rw [h.len]; exact e)]
    have eg : (ts ++ [t]).getD k [] = ts.getD k [] := by simp only [List.getD]; rw [List.getElem?_append_left e]
    rw [eg]
    obtain ⟨a, c, e1, e2⟩ := h.el k e
    refine ⟨a, c, e1, fun w3 h3 h4 => e2 w3 (fun j a1 a2 a4 => ?_) (by omega)⟩
    rw [h3 j a1 (by omega) (fun q => (hv2 j q).elim a4 (fun q2 => by omega)), hk.block j (by omega) a4, hb1.block j a2]
  · obtain rfl : k = ts.length := by simp at hkk; omega
    rw [if_neg (by rw [h.len]; omega), if_pos h.len.symm]
    have eg : (ts ++ [t]).getD ts.length [] = t := by simp [List.getD]
    rw [eg]
    obtain ⟨a, c, e1, e2⟩ := hu
    refine ⟨a, c, e1, fun w3 h3 _ => e2 w3 (fun j a1 a2 a4 => ?_)⟩
    rw [h3 j a1 (by omega) (fun q => (hv2 j q).elim a4 (fun q2 => by omega)), hk.block j a2 a4]
/-- A table and a row of another one. -/
theorem row_on {w w' wl wr : World} {I s0 : Nat} {tv t' lv : Value} {tvs lvs : List Value} {X L : List (List Nat)} {y : Nat} (hT : TblV w s0 tv tvs (castT X)) (hs0 : wr.heap.size ≤ s0) (hL : TblV wl I lv lvs (castT L)) (hy : y < L.length) (hwl : wl.heap.size ≤ wr.heap.size) (hIl : I ≤ wl.heap.size) (hag : ∀ j, I ≤ j → j < wl.heap.size → w.heap[j]? = wl.heap[j]?)
    (ho : w'.ownsRow s0 29 1 t' (tvs ++ [rowv lvs y]).length (tvs ++ [rowv lvs y])) (hk : KeepB tv t' w w') : TblV w' I t' (tvs ++ [rowv lvs y]) (castT (X ++ [L.getD y []])) := by
  have hO : Owns w I (rowv lvs y) (castL (L.getD y [])) := by
    have h1 := hL.rows y (by simpa [castT] using hy)
    rw [castT_at] at h1
    exact ownsRow_blocks h1 (fun k e => hag k (h1.lt e).1 (h1.lt e).2)
  have hlt : ∀ k, (rowv lvs y).ownBlock = some k → k < wl.heap.size := fun k e => by
    have h1 := hL.rows y (by simpa [castT] using hy)
    exact (h1.lt e).2
  have h := (hT.down (show I ≤ s0 by omega)).push (w' := w') (v' := t') hO (fun i hi k e e2 => ?_) (fun k e e2 => ?_) (ownsRow_down ho (by omega)) hk
  · rw [castT_app]; exact h
  · have h1 := hlt k e
    have h2 := ((hT.rows i hi).lt e2).1
    omega
  · have h1 := hlt k e2
    have h2 := (hT.own.lt k e).1
    omega
end Go.Proofs.YtbiakncblkjmhaaGreatDoor
