/-
  Words for the round of ferref.Rights.
-/
import Derived.Test.YtncokoimbpkapaaRyE
import Derived.Test.YtncokoimbpkapaaRyD
import Derived.Test.YtncokoimbpkapaaRxC
namespace Go.Proofs.Ytncokoimbpkapaa
open Go.RowKit

/-- A call of ferref.Rows, in a region that draws its order. -/
theorem step_rows {w : World} {x : Value} {P : Value → World → Prop} {ops : Array Oper} {o : Oper} {a : Act} {K : Act → World → Prop} {Q : Exit → Act → World → Prop} {EE : Prop} (hgd : o.guard = none) (y : Operand)
    (ho : o.op = .call { callee := .value (.func 20), args := #[y], argTypes := #[35] }) (hx : a.eval y = x) (hc : Calls Try.prog 20 #[x] w fun e w' => ∃ v, e = .returned v ∧ P v w') (h : ∀ v w', P v w' → K (a.put o.dst v) w') :
    if Region.wanted o (yielded ops a.tmps) = true then Oper.wp Try.prog o a w K Q else EE := by
  have hw : Region.wanted o (yielded ops a.tmps) = true := by simp [Region.wanted, hgd]
  rw [if_pos hw]
  unfold Oper.wp
  simp [execOp, ho, resolve, invoke, hx]
  simp [Act.eval, Deferred.ofValue, callFunc, Try.func20]
  refine hc.mono ?_
  rintro e w' ⟨v, rfl, hP⟩
  exact h v w' hP
/-- A call of ferref.Grown, in a region that draws its order. -/
theorem step_grown {w : World} {x y z : Value} {P : Value → World → Prop} {ops : Array Oper} {o : Oper} {a : Act} {K : Act → World → Prop} {Q : Exit → Act → World → Prop} {EE : Prop} (hgd : o.guard = none) (p q r : Operand)
    (ho : o.op = .call { callee := .value (.func 19), args := #[p, q, r], argTypes := #[22, 22, 3] }) (hx : a.eval p = x) (hy : a.eval q = y) (hz : a.eval r = z) (hc : Calls Try.prog 19 #[x, y, z] w fun e w' => ∃ v, e = .returned v ∧ P v w') (h : ∀ v w', P v w' → K (a.put o.dst v) w') :
    if Region.wanted o (yielded ops a.tmps) = true then Oper.wp Try.prog o a w K Q else EE := by
  have hw : Region.wanted o (yielded ops a.tmps) = true := by simp [Region.wanted, hgd]
  rw [if_pos hw]
  unfold Oper.wp
  simp [execOp, ho, resolve, invoke, hx, hy, hz]
  simp [Act.eval, Deferred.ofValue, callFunc, Try.func19]
  refine hc.mono ?_
  rintro e w' ⟨v, rfl, hP⟩
  exact h v w' hP

/-- The blocks of the strips stay while the next list grows. -/
def StayL (I : Nat) (wl wr : World) (nv : Value) : Prop :=
  wl.heap.size ≤ wr.heap.size ∧ (∀ j, I ≤ j → j < wl.heap.size → wr.heap[j]? = wl.heap[j]?) ∧ ∀ g, nv.ownBlock = some g → g < I ∨ wl.heap.size ≤ g
theorem StayL.start {I lo : Nat} {wi wl : World} {nv : Value} {us : List Value} {ts : List (List (List Int))} (h : Cub noB wi lo nv us ts) (hI : I = wi.heap.size) : StayL I wl wl nv :=
  ⟨Nat.le_refl _, fun _ _ _ => rfl, fun g hg => Or.inl (by rw [hI]; exact (h.own.lt g hg).2)⟩
theorem StayL.below {I : Nat} {wl w w' : World} {nv : Value} (h : StayL I wl w nv) (hb : Below w.heap.size w w') : StayL I wl w' nv :=
  ⟨Nat.le_trans h.1 hb.size, fun j h1 h2 => by rw [hb.block j (Nat.lt_of_lt_of_le h2 h.1)]; exact h.2.1 j h1 h2, h.2.2⟩
theorem StayL.push {I : Nat} {wl w w' : World} {v v' : Value} (h : StayL I wl w v) (hk : KeepB v v' w w') : StayL I wl w' v' := by
  refine ⟨Nat.le_trans h.1 hk.size, fun j h1 h2 => ?_, fun g hg => ?_⟩
  · rw [hk.block j (Nat.lt_of_lt_of_le h2 h.1) (fun e => by rcases h.2.2 j e with q | q <;> omega)]
    exact h.2.1 j h1 h2
  · rcases hk.lies g hg with q | q
    · exact h.2.2 g q
    · exact Or.inr (Nat.le_trans h.1 q)
theorem StayL.tbl {I : Nat} {wl w : World} {nv v : Value} {ls : List (List Int)} (h : StayL I wl w nv) (ht : Tbl wl I v ls) : Tbl w I v ls := ht.same (fun j h1 h2 => h.2.1 j h1 h2)

theorem Tbl.shape {w : World} {lo : Nat} {v : Value} {ls : List (List Int)} (h : Tbl w lo v ls) : ∃ a c, v = .slice a ls.length c := by
  obtain ⟨vs, h⟩ := h
  have ho := h.own
  rw [h.len] at ho
  rcases ho.2 with ⟨q, h0⟩ | ⟨g, cp, cur, q, _⟩
  · exact ⟨none, 0, by rw [q, h0]⟩
  · exact ⟨_, _, q⟩
/-- What the next list is, table i being at strip k. -/
def nxA (cl : List Nat) (b x : Nat) (now : List (List (List Nat))) (t L : List (List Nat)) (i k : Nat) : List (List (List Int)) := (nxI (fun r => cl.getD r 0) cl.length b x now i ++ nxK x t L k).map castT
theorem castT_set (t : List (List Nat)) (i : Nat) (r : List Nat) : castT (t.set i r) = (castT t).set i (castL r) := by simp [castT, List.map_set]
theorem set_self {α : Type} {l : List α} {i : Nat} {d : α} (h : i < l.length) : l.set i (l.getD i d) = l := by
  refine List.ext_getElem (by simp) fun j h1 h2 => ?_
  rw [List.getElem_set]
  by_cases e : i = j
  · subst e; simp [List.getD, h]
  · rw [if_neg e]
theorem castL_app (l m : List Nat) : castL (l ++ m) = castL l ++ castL m := by simp [castL]
theorem castL_grow (l : List Nat) (s x : Nat) : castL (l ++ List.replicate (s + 1) x) = castL (l ++ List.replicate s x) ++ [(x : Int)] := by
  rw [List.replicate_succ', ← List.append_assoc, castL_app]; rfl
theorem growT_bd {t : List (List Nat)} {x : Nat} {q : List Nat} (ht : ∀ r ∈ t, r.length ≤ 1000 ∧ ∀ z ∈ r, z ≤ 1000) (hq : ∀ z ∈ q, z ≤ 1000) (hx : x ≤ 1000) : ∀ l ∈ growT t x q, l.length ≤ 1000 ∧ ∀ z ∈ l, z ≤ 1000 := by
  intro l hl
  unfold growT at hl
  obtain ⟨r, -, rfl⟩ := List.mem_map.1 hl
  have h1 : (nrow t r).length ≤ 1000 ∧ ∀ z ∈ nrow t r, z ≤ 1000 := by
    unfold nrow
    by_cases e : r < t.length
    · exact ht _ (by simp [List.getD, e])
    · simp [List.getD, List.getElem?_eq_none (Nat.le_of_not_lt e)]
  have h2 := getD_le hq r
  refine ⟨?_, fun z hz => ?_⟩
  · rw [List.length_append, List.length_replicate]; unfold len2; omega
  · rcases List.mem_append.1 hz with q | q
    · exact h1.2 z q
    · rw [List.mem_replicate] at q; omega
/-- One row of a table that is grown longer. -/
theorem row_longer {w w' : World} {lo g n cap r s x : Nat} {vs : List Value} {B : List (List Nat)} {l : List Nat} {u : Value} (h : TblV w lo (.slice (some ⟨g, 0, none⟩) n cap) vs (castT (B.set r (l ++ List.replicate s x)))) (hr : r < B.length) (hu : Owns w' lo u (castL (l ++ List.replicate s x) ++ [(x : Int)])) (hk : KeepB (rowv vs r) u w w') :
    TblV (w'.setCell ⟨g, r, none⟩ u) lo (.slice (some ⟨g, 0, none⟩) n cap) (vs.set r u) (castT (B.set r (l ++ List.replicate (s + 1) x))) := by
  have h1 := h.setRow (by rw [castT_len, List.length_set]; exact hr) hu hk
  rw [← castL_grow, ← castT_set, List.set_set] at h1
  exact h1

end Go.Proofs.Ytncokoimbpkapaa
