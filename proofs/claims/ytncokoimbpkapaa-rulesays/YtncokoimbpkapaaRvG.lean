/-
  The search in the making: its start; an append that grows, in a region that draws its order.
-/
import Derived.Test.YtncokoimbpkapaaRvB
import Derived.Test.YtncokoimbpkapaaRvC
import Derived.Deep.RegionLaw
import Derived.Deep.DeepCutAuto
namespace Go.Proofs.Ytncokoimbpkapaa
open Go.RowKit

/-- 'append(s, xs...)' in a region that draws its order. -/
theorem step_all {T E : TypeId} {z : Value} {bytes : Nat} (he : Elem T E z bytes) {w : World} {base : Nat} {v : Value} {xs news : List Value} {ops : Array Oper} {o : Oper} {a : Act} {K : Act → World → Prop} {Q : Exit → Act → World → Prop} {EE : Prop} (hgd : o.guard = none) (s y : Operand)
    (ho : o.op = .call { callee := .builtin .append, args := #[s, y], argTypes := #[T, T] }) (hs : a.eval s = v) (ad : Addr) (n c : Nat) (hx : a.eval y = .slice (some ad) n c) (hn : n = news.length) (hown : w.ownsRow base E 1 v xs.length xs)
    (hnews : ∀ j u, news[j]? = some u → w.cell? (ad.add j) = some u) (hone : ∀ u ∈ news, u.oneCell' = true) (h63 : xs.length + news.length ≤ maxLen) (hl : (xs.length + news.length) * bytes ≤ 140737488355328) (hbase : base ≤ w.heap.size)
    (h : ∀ v' w', w'.ownsRow base E 1 v' (xs ++ news).length (xs ++ news) → Below base w w' → KeepB v v' w w' → K (a.put o.dst v') w') :
    if Region.wanted o (yielded ops a.tmps) = true then Oper.wp Try.prog o a w K Q else EE := by
  subst hn
  have hw : Region.wanted o (yielded ops a.tmps) = true := by simp [Region.wanted, hgd]
  rw [if_pos hw]
  obtain ⟨v', w', hrun, r1, r2, r3⟩ := run_append_kb he o.type hown ad c hnews hone h63 hl hbase
  unfold Oper.wp
  simp [execOp, ho, resolve, invoke, builtin, hs, hx, hrun, Result.andThen]
  exact h v' w' r1 r2 r3
/-- A row that has grown: cp places, the first n + 1 of them 0 and bs. -/
def Grew (bs : List Int) (cp : Nat) (arr : Array Value) : Prop := arr.size = cp ∧ bs.length + 1 ≤ cp ∧ cp ≤ maxLen ∧ arr.toList.take (bs.length + 1) = (0 :: bs).map (Value.int .i64)
theorem step_grow {w : World} {N : Nat} {bs : List Int} {ops : Array Oper} {o : Oper} {a : Act} {K : Act → World → Prop} {Q : Exit → Act → World → Prop} {EE : Prop} (hgd : o.guard = none) (s y : Operand)
    (ho : o.op = .call { callee := .builtin .append, args := #[s, y], argTypes := #[22, 22] }) (hs : a.eval s = .slice (some ⟨N, 0, none⟩) 1 1) (ad : Addr) (n c : Nat) (hx : a.eval y = .slice (some ad) n c) (hn : n = bs.length) (h0 : 0 < n) (hl : n ≤ 1000) (hz : w.cell? ⟨N, 0, none⟩ = some (.int .i64 0))
    (hnews : ∀ j u, (bs.map (Value.int .i64))[j]? = some u → w.cell? (ad.add j) = some u)
    (h : ∀ cp arr, Hid (Grew bs cp arr) → K (a.put o.dst (.slice (some ⟨w.heap.size, 0, none⟩) (n + 1) cp)) (w.drew.alloc (.cells arr 3))) :
    if Region.wanted o (yielded ops a.tmps) = true then Oper.wp Try.prog o a w K Q else EE := by
  subst hn
  have hw : Region.wanted o (yielded ops a.tmps) = true := by simp [Region.wanted, hgd]
  rw [if_pos hw]
  obtain ⟨i0, hi, hz0, hz1, hz2⟩ := info_parts Try.info3
  have hrun := run_append_grow (P := Try.prog) w 22 o.type 3 i0 (.int .i64 0) Try.underlying22 hi hz0 ⟨N, 0, none⟩ 1 1 [.int .i64 0] (by simp [hz1]) (fun j u hj => by
      match j, hj with
      | 0, hj => simp at hj; subst hj; rw [Addr.add_lit]; exact hz) ad bs.length c (bs.map (Value.int .i64)) (by simp [hz1]) hnews (by omega) (by omega) (by rw [hz2]; exact growslice_fits (by omega) (by omega))
  have hge := grownCap_ge w (1 + bs.length) 1 3
  have hcm : grownCap w (1 + bs.length) 1 3 ≤ maxLen := grownCap_le_maxLen w (1 + bs.length) 1 3 (by unfold maxLen; omega)
  rw [Nat.add_comm 1 bs.length] at hrun hge hcm
  generalize grownCap w (bs.length + 1) 1 3 = cp at *
  obtain ⟨v', w', hv', hw', hrun'⟩ : ∃ v' w', v' = Value.slice (some ⟨w.heap.size, 0, none⟩) (bs.length + 1) cp ∧ w' = w.drew.alloc (.cells ([Value.int .i64 0].toArray ++ (bs.map (Value.int .i64)).toArray ++ Builtin.zeroCells (Value.int .i64 0).cells (cp - (bs.length + 1))) 3) ∧ (Builtin.append_ #[22, 22] o.type #[.slice (some ⟨N, 0, none⟩) 1 1, .slice (some ad) bs.length c]).run Try.prog w = .ok v' w' := ⟨_, _, rfl, rfl, hrun⟩
  unfold Oper.wp
  simp [execOp, ho, resolve, invoke, builtin, hs, hx, hrun', Result.andThen]
  have := h cp ([Value.int .i64 0].toArray ++ (bs.map (Value.int .i64)).toArray ++ Builtin.zeroCells (Value.int .i64 0).cells (cp - (bs.length + 1))) ⟨by simp [size_zeroCells, Value.cells]; omega, by omega, hcm, by
    rw [Array.toList_append, Array.toList_append, List.append_assoc]
    simp⟩
  rw [hv', hw']
  exact this
theorem Grew.owns {w : World} {lo g cp : Nat} {bs : List Int} {arr : Array Value} (h : Grew bs cp arr) (hg : lo ≤ g) (hh : w.heap[g]? = some (.cells arr 3 (0, 0))) : Owns w lo (.slice (some ⟨g, 0, none⟩) (bs.length + 1) cp) (0 :: bs) := by
  obtain ⟨h1, h2, h3, h4⟩ := h
  refine ⟨by simp, Or.inr ⟨g, cp, arr, by simp, hg, hh, by simpa using h2, h3, by rw [h1]; simp, by simpa using h4⟩⟩

theorem heapA (w : World) (o : Obj) (k : Nat) : (w.alloc o).heap[k]? = if k = w.heap.size then some o else w.heap[k]? := by
  show (w.heap.push o)[k]? = _
  rw [Array.getElem?_push]
theorem heapS (w : World) (o : Obj) : (w.alloc o).heap.size = w.heap.size + 1 := by
  show (w.heap.push o).size = _
  rw [Array.size_push]
theorem heapD (w : World) : w.drew.heap = w.heap := rfl
/-- All is laid, nothing is filled. -/
theorem BS.start {w0 wx : World} {q R U Wb cw : Nat} {fv : Value} {n m : Nat} {bl : List Nat} {arr : Array Value} (hb : Below w0.heap.size w0 wx) (hq : w0.heap.size ≤ q) (hR : w0.heap.size ≤ R) (hU : w0.heap.size ≤ U) (hW : w0.heap.size ≤ Wb) (hd : q ≠ R ∧ q ≠ U ∧ q ≠ Wb ∧ R ≠ U ∧ R ≠ Wb ∧ U ≠ Wb) (hn : bl.length = n) (hn1 : n ≤ 1000) (hm1 : m ≤ 1000)
    (hS : wx.heap[q]? = some (.cells #[.slice none 0 0, .slice (some ⟨R, 0, none⟩) m m, .slice (some ⟨Wb, 0, none⟩) (n + 1) cw, .slice (some ⟨U, 0, none⟩) (n + 1) (n + 1), fv] 49 (0, 0)))
    (h1 : wx.heap[R]? = some (.cells (madeCells #[Value.slice none 0 0] m) 22 (0, 0))) (h2 : wx.heap[U]? = some (.cells (madeCells #[Value.int .i64 0] (n + 1)) 3 (0, 0))) (h3 : wx.heap[Wb]? = some (.cells arr 3 (0, 0))) (hA : Grew (castL bl) cw arr) :
    BS w0 wx w0.heap.size q R U (n + 1) Wb cw (.slice none 0 0) fv (List.replicate m (.slice none 0 0)) [] n m (List.replicate m []) bl := by
  have ht : TblV wx w0.heap.size (.slice (some ⟨R, 0, none⟩) m m) (List.replicate m (.slice none 0 0)) (List.replicate m []) := by
    refine tbl_made ⟨by rw [toList_madeCells_one]; simp, Or.inr ⟨R, m, _, rfl, hR, h1, Nat.le_refl _, by unfold maxLen; omega, ?_, ?_⟩⟩
    · have := congrArg List.length (toList_madeCells_one (Value.slice none 0 0) m); simpa using this
    · rw [List.take_of_length_le]
      rw [toList_madeCells_one]; simp
  have hno : ∀ i, (rowv (List.replicate m (Value.slice none 0 0)) i).ownBlock = none := fun i => by
    unfold rowv
    simp only [List.getD, List.getElem?_replicate]
    split <;> rfl
  refine ⟨hb, hS, hq, ht, by simp, ?_, ?_, World.ownsRow_nil _ _ _ _, hd, (fun k e => by cases e), (fun i k _ e => by rw [hno i] at e; cases e), hn, Nat.le_refl _⟩
  · refine owns_of_row hU ?_ (by rw [castL_len]; simp [uL]) (by rw [castL_len]; simp [uL]; omega)
    rw [h2]
    congr 2
    apply Array.toList_inj.1
    rw [toList_madeCells_one]
    simp [castL, uL, List.map_const']
  · have := hA.owns hW h3
    rw [castL_len, hn] at this
    exact this

end Go.Proofs.Ytncokoimbpkapaa
