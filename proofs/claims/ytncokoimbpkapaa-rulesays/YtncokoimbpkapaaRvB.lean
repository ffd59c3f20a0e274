/-
  The search in the making: its rows, its boxes.
-/
import Derived.Test.YtncokoimbpkapaaRvF
import Derived.Deep.OwnRows
namespace Go.Proofs.Ytncokoimbpkapaa
open Go.RowKit

theorem Try.infoX : (Try.prog.info? 52).map (fun i => (i.zero, i.size, i.bytes)) = some (some (.agg #[.int .i64 0, .int .i64 0]), 2, 16) := by kernel_rfl
/-- The cells of boxes. -/
def pcx (l : List (Nat × Nat)) : List Value := l.flatMap fun c => [Value.int .i64 (c.1 : Int), Value.int .i64 (c.2 : Int)]
theorem pcx_snoc (l : List (Nat × Nat)) (p : Nat × Nat) : pcx (l ++ [p]) = pcx l ++ [.int .i64 (p.1 : Int), .int .i64 (p.2 : Int)] := by
  unfold pcx; rw [List.flatMap_append]; rfl
theorem pcx_len (l : List (Nat × Nat)) : (pcx l).length = l.length * 2 := by
  induction l with
  | nil => rfl
  | cons a l ih => unfold pcx at *; rw [List.flatMap_cons, List.length_append, ih]; simp; omega
theorem pcx_at (l : List (Nat × Nat)) : ∀ k, k < l.length → (pcx l)[k * 2]? = some (.int .i64 ((l.getD k (0, 0)).1 : Int)) ∧ (pcx l)[k * 2 + 1]? = some (.int .i64 ((l.getD k (0, 0)).2 : Int)) := by
  induction l with
  | nil => intro k h; simp at h
  | cons a l ih =>
    intro k h
    cases k with
    | zero => exact ⟨rfl, rfl⟩
    | succ k =>
      have := ih k (by simpa using h)
      have e : pcx (a :: l) = [Value.int .i64 (a.1 : Int), Value.int .i64 (a.2 : Int)] ++ pcx l := rfl
      rw [e, List.getElem?_append_right (by simp; omega), List.getElem?_append_right (by simp; omega)]
      simp only [List.length_cons, List.length_nil]
      rw [show (k + 1) * 2 - (0 + 1 + 1) = k * 2 by omega, show (k + 1) * 2 + 1 - (0 + 1 + 1) = k * 2 + 1 by omega]
      simpa [List.getD] using this

theorem run_append_kx {w : World} {base n m : Nat} {v : Value} {xs news : List Value} (ty : TypeId) (hown : w.ownsRow base 52 2 v n xs) (ad : Addr) (c : Nat) (hm : news.length = m * 2)
    (hnews : ∀ j u, news[j]? = some u → w.cell? (ad.add j) = some u) (hone : ∀ u ∈ news, u.oneCell' = true) (h63 : n + m ≤ 1000) (hbase : base ≤ w.heap.size) :
    ∃ v' w', (Builtin.append_ #[47, 47] ty #[v, .slice (some ad) m c]).run Try.prog w = .ok v' w' ∧ w'.ownsRow base 52 2 v' (n + m) (xs ++ news) ∧ Below base w w' ∧ KeepB v v' w w' := by
  obtain ⟨i0, hi, hz0, hz1, hz2⟩ := info_parts Try.infoX
  have hxl : xs.length = n * 2 := hown.1
  have h64 : n + m ≤ maxLen := by unfold maxLen; omega
  have hl : (n + m) * 16 ≤ 140737488355328 := by omega
  rcases hown.2 with ⟨hv, h0⟩ | ⟨g, cap, cur, hv, hg, hh, hnc, hcm, hcs', htk⟩
  · obtain ⟨v', w', hrun, r1, r2, _⟩ := run_append_own (P := Try.prog) w w.heap.size 47 ty 52 i0 (.agg #[.int .i64 0, .int .i64 0]) 2 16 Try.underlying47 hi hz0 hz1 hz2 rfl (by decide) v n xs (by
      have := hown
      rw [hv] at this ⊢
      exact ⟨hxl, Or.inl ⟨rfl, h0⟩⟩) ad m c news hm hnews hone h64 hl (Nat.le_refl _)
    exact ⟨v', w', hrun, ownsRow_down r1 hbase, (Below.refl base w).grown r2 hbase (fun k hk => by rw [hv] at hk; cases hk), keepB_of r2 (Or.inr rfl) (fun g hg => Or.inr (r1.lt g hg).1)⟩
  · by_cases hroom : n + m ≤ cap
    · rw [hv] at hown
      obtain ⟨w', hrun, r1, r2⟩ := run_append_fits (P := Try.prog) w base 47 ty 52 i0 2 Try.underlying47 hi hz1 g n cap xs hown ad m c news hm hnews hone hroom
      exact ⟨_, w', by rw [hv]; exact hrun, r1, (Below.refl base w).grown r2 hbase (fun k hk => by cases hk; exact hg), keepB_of r2 (Or.inr (by rw [hv]; rfl)) (fun g' hg' => Or.inl (by rw [hv]; exact hg'))⟩
    · have hown' := hown
      rw [hv] at hown'
      obtain ⟨v', w', hrun, r1, r2⟩ := run_append_arg_grows (P := Try.prog) w 47 ty 52 i0 (.agg #[.int .i64 0, .int .i64 0]) 2 16 Try.underlying47 hi hz0 hz1 hz2 rfl (by decide) ⟨g, 0, none⟩ n cap xs hxl
        (fun j u hj => by
          have hj' : j < xs.length := (List.getElem?_eq_some_iff.1 hj).1
          rw [Addr.add_lit, Nat.zero_add, World.ownsRow.cellAt hown' j (by omega)]; exact hj)
        ad m c news hm hnews (by omega) h64 hl
      exact ⟨v', w', by rw [hv]; exact hrun, ownsRow_down r1 hbase, (Below.refl base w).grown r2 hbase (fun k hk => by cases hk), keepB_of r2 (Or.inl rfl) (fun g hg => Or.inr (r1.lt g hg).1)⟩
/-- A box more. -/
theorem append_box {w : World} {base N : Nat} {v : Value} {x y : Nat} {l : List (Nat × Nat)} {ops : Array Oper} {rest : List Oper} {o : Oper} {a : Act} {Q : Exit → Act → World → Prop} (hgd : o.guard = none) (s z : Operand)
    (ho : o.op = .call { callee := .builtin .append, args := #[s, z], argTypes := #[47, 47] }) (hs : a.eval s = v) (hx : a.eval z = .slice (some ⟨N, 0, none⟩) 1 1) (hN : N = w.heap.size) (hown : w.ownsRow base 52 2 v l.length (pcx l)) (h63 : l.length + 1 ≤ 1000) (hbase : base ≤ w.heap.size)
    (h : ∀ v' w', w'.ownsRow base 52 2 v' (l ++ [(x, y)]).length (pcx (l ++ [(x, y)])) → Below base w w' → KeepB v v' w w' → wpList Try.prog ops Q rest (a.put o.dst v') w') :
    wpList Try.prog ops Q (o :: rest) a (w.alloc (.cells #[.int .i64 (x : Int), .int .i64 (y : Int)] 52)) := by
  subst hN
  refine wpList_plain hgd fun K hK => ?_
  have hb : Below w.heap.size w (w.alloc (.cells #[.int .i64 (x : Int), .int .i64 (y : Int)] 52)) := (Below.refl _ _).alloc (Nat.le_refl _) _
  have hown2 : (w.alloc (.cells #[.int .i64 (x : Int), .int .i64 (y : Int)] 52)).ownsRow base 52 2 v l.length (pcx l) := ownsRow_blocks hown (fun k e => hb.block k (hown.lt k e).2)
  obtain ⟨v', w', hrun, r1, r2, r3⟩ := run_append_kx (m := 1) (news := [.int .i64 (x : Int), .int .i64 (y : Int)]) o.type hown2 ⟨w.heap.size, 0, none⟩ 1 rfl (fun j u hj => by
      match j, hj with
      | 0, hj => simp at hj; subst hj; rw [Addr.add_lit, World.cell?_alloc_at _ _ _ _ rfl]; rfl
      | 1, hj => simp at hj; subst hj; rw [Addr.add_lit, World.cell?_alloc_at _ _ _ _ rfl]; rfl) (fun u hu => by simp at hu; rcases hu with rfl | rfl <;> rfl) h63 (by simp; omega)
  unfold Oper.wp
  simp [execOp, ho, resolve, invoke, builtin, hs, hx, hrun, Result.andThen]
  refine hK _ _ (h v' w' (by rw [pcx_snoc, List.length_append, List.length_singleton]; exact r1) ((hb.mono hbase).trans r2) ⟨?_, fun k hk hn => ?_, fun g hg => ?_⟩)
  · have := r3.size; simp at this; omega
  · rw [r3.block k (by simp; omega) hn]; exact hb.block k hk
  · rcases r3.lies g hg with h | h
    · exact Or.inl h
    · right; simp at h; omega

/-- The search in the making. -/
structure BS (w0 wx : World) (lo s R U cu Wb cw : Nat) (vb fv : Value) (vs : List Value) (bx : List (Nat × Nat)) (n m : Nat) (ls : List (List Int)) (bl : List Nat) : Prop where
  bel : Below lo w0 wx
  blk : wx.heap[s]? = some (.cells #[vb, .slice (some ⟨R, 0, none⟩) m m, .slice (some ⟨Wb, 0, none⟩) (n + 1) cw, .slice (some ⟨U, 0, none⟩) (n + 1) cu, fv] 49 (0, 0))
  hs : lo ≤ s
  rows : TblV wx lo (.slice (some ⟨R, 0, none⟩) m m) vs ls
  lm : ls.length = m
  used : Owns wx lo (.slice (some ⟨U, 0, none⟩) (n + 1) cu) (castL (uL n fun _ => 0))
  want : Owns wx lo (.slice (some ⟨Wb, 0, none⟩) (n + 1) cw) (castL (0 :: bl))
  box : wx.ownsRow lo 52 2 vb bx.length (pcx bx)
  d : s ≠ R ∧ s ≠ U ∧ s ≠ Wb ∧ R ≠ U ∧ R ≠ Wb ∧ U ≠ Wb
  db : ∀ k, vb.ownBlock = some k → k ≠ s ∧ k ≠ R ∧ k ≠ U ∧ k ≠ Wb
  dr : ∀ i k, i < m → (rowv vs i).ownBlock = some k → k ≠ s ∧ k ≠ U ∧ k ≠ Wb ∧ vb.ownBlock ≠ some k
  hbl : bl.length = n
  hlo : lo ≤ w0.heap.size
theorem BS.sl {w0 wx : World} {lo s R U cu Wb cw : Nat} {vb fv : Value} {vs : List Value} {bx : List (Nat × Nat)} {n m : Nat} {ls : List (List Int)} {bl : List Nat} (h : BS w0 wx lo s R U cu Wb cw vb fv vs bx n m ls bl) : s < wx.heap.size := (Array.getElem?_eq_some_iff.1 h.blk).1
theorem owner_of {g n c k : Nat} (e : (Value.slice (some ⟨g, 0, none⟩) n c).ownBlock = some k) : k = g := by simpa [Value.ownBlock, eq_comm] using e
/-- A row is made. -/
theorem BS.row {w0 wx : World} {lo s R U cu Wb cw : Nat} {vb fv : Value} {vs : List Value} {bx : List (Nat × Nat)} {n m : Nat} {ls : List (List Int)} {bl : List Nat} (h : BS w0 wx lo s R U cu Wb cw vb fv vs bx n m ls bl) {i : Nat} (hi : i < m) (p : Nat) (hp : p ≤ 1000) :
    BS w0 ((wx.alloc (.cells (madeCells #[Value.int .i64 0] p) 3)).setCell ⟨R, i, none⟩ (.slice (some ⟨wx.heap.size, 0, none⟩) p p)) lo s R U cu Wb cw vb fv (vs.set i (.slice (some ⟨wx.heap.size, 0, none⟩) p p)) bx n m (ls.set i (List.replicate p 0)) bl := by
  have hb : Below wx.heap.size wx (wx.alloc (.cells (madeCells #[Value.int .i64 0] p) 3)) := (Below.refl _ _).alloc (Nat.le_refl _) _
  obtain ⟨d1, d2, d3, d4, d5, d6⟩ := h.d
  have hsl := h.sl
  have hlo : lo ≤ wx.heap.size := by have := h.hs; omega
  have hR := (h.rows.own.lt R rfl)
  have hU := World.ownsRow.lt h.used U rfl
  have hW := World.ownsRow.lt h.want Wb rfl
  have hO : Owns (wx.alloc (.cells (madeCells #[Value.int .i64 0] p) 3)) lo (.slice (some ⟨wx.heap.size, 0, none⟩) p p) (List.replicate p 0) := by
    refine owns_of_row hlo ?_ (by simp) (by simp; omega)
    have := heap_alloc_new wx (.cells (madeCells #[Value.int .i64 0] p) 3)
    rw [this]
    congr 2
    apply Array.toList_inj.1
    rw [toList_madeCells_one]; simp
  have hK : KeepB (rowv vs i) (.slice (some ⟨wx.heap.size, 0, none⟩) p p) wx (wx.alloc (.cells (madeCells #[Value.int .i64 0] p) 3)) := ⟨hb.size, fun k hk _ => hb.block k hk, fun g hg => Or.inr (by rw [owner_of hg]; exact Nat.le_refl _)⟩
  have hsame : ∀ k, k < wx.heap.size → k ≠ R → ((wx.alloc (.cells (madeCells #[Value.int .i64 0] p) 3)).setCell ⟨R, i, none⟩ (.slice (some ⟨wx.heap.size, 0, none⟩) p p)).heap[k]? = wx.heap[k]? := fun k hk hne => by
    rw [heap_setCell_other _ _ _ _ hne]; exact hb.block k hk
  have hvl : vs.length = m := by rw [h.rows.len, h.lm]
  refine ⟨(h.bel.trans (hb.mono hlo)).setCell (p := ⟨R, i, none⟩) hR.1 _, by rw [hsame s hsl d1]; exact h.blk, h.hs, h.rows.setRow (by rw [h.lm]; exact hi) hO hK, by simp [h.lm], ownsRow_blocks h.used (fun k e => by rw [owner_of e]; exact hsame U hU.2 (fun e2 => d4 e2.symm)), ownsRow_blocks h.want (fun k e => by rw [owner_of e]; exact hsame Wb hW.2 (fun e2 => d5 e2.symm)), ownsRow_blocks h.box (fun k e => hsame k (h.box.lt k e).2 (h.db k e).2.1), h.d, h.db, fun j k hj e => ?_, h.hbl, h.hlo⟩
  rw [rowv_set _ _ _ _ (by omega)] at e
  by_cases ej : j = i
  · rw [if_pos ej] at e
    have := owner_of e
    subst this
    exact ⟨by omega, by omega, by omega, fun e2 => by have := (h.box.lt _ e2).2; omega⟩
  · rw [if_neg ej] at e; exact h.dr j k hj e
/-- A box is put behind the others. -/
theorem BS.push {w0 wx w2 : World} {lo s R U cu Wb cw : Nat} {vb vb' fv : Value} {vs : List Value} {bx : List (Nat × Nat)} {n m : Nat} {ls : List (List Int)} {bl : List Nat} {p : Nat × Nat} (h : BS w0 wx lo s R U cu Wb cw vb fv vs bx n m ls bl) (ho : w2.ownsRow lo 52 2 vb' (bx ++ [p]).length (pcx (bx ++ [p]))) (hb : Below lo wx w2) (hk : KeepB vb vb' wx w2) :
    BS w0 (w2.setCell ⟨s, 0, none⟩ vb') lo s R U cu Wb cw vb' fv vs (bx ++ [p]) n m ls bl := by
  obtain ⟨d1, d2, d3, d4, d5, d6⟩ := h.d
  have hsl := h.sl
  have hR := (h.rows.own.lt R rfl)
  have hU := World.ownsRow.lt h.used U rfl
  have hW := World.ownsRow.lt h.want Wb rfl
  have hn1 : vb.ownBlock ≠ some s := fun e => (h.db s e).1 rfl
  have hsame : ∀ k, k < wx.heap.size → k ≠ s → vb.ownBlock ≠ some k → (w2.setCell ⟨s, 0, none⟩ vb').heap[k]? = wx.heap[k]? := fun k h1 h2 h3 => by
    rw [heap_setCell_other _ _ _ _ h2]; exact hk.block k h1 h3
  have hvs : ∀ k, vb'.ownBlock = some k → k ≠ s ∧ k ≠ R ∧ k ≠ U ∧ k ≠ Wb := fun k e => by
    rcases hk.lies k e with e2 | e2
    · exact h.db k e2
    · exact ⟨by omega, by omega, by omega, by omega⟩
  have hs2 : w2.heap[s]? = some (.cells #[vb, .slice (some ⟨R, 0, none⟩) m m, .slice (some ⟨Wb, 0, none⟩) (n + 1) cw, .slice (some ⟨U, 0, none⟩) (n + 1) cu, fv] 49 (0, 0)) := by rw [hk.block s hsl hn1]; exact h.blk
  have hrow : ∀ i, i < ls.length → Owns (w2.setCell ⟨s, 0, none⟩ vb') lo (rowv vs i) (ls.getD i []) := fun i hi => ownsRow_blocks (h.rows.rows i hi) (fun k e => by
    have := h.dr i k (by rw [← h.lm]; exact hi) e
    exact hsame k ((h.rows.rows i hi).lt e).2 this.1 this.2.2.2)
  refine ⟨(h.bel.trans hb).setCell (p := ⟨s, 0, none⟩) h.hs _, ?_, h.hs, ⟨ownsRow_blocks h.rows.own (fun k e => by rw [owner_of e]; exact hsame R hR.2 (fun e2 => d1 e2.symm) (fun e2 => (h.db R e2).2.1 rfl)), h.rows.len, hrow, h.rows.apart, h.rows.off⟩, h.lm, ownsRow_blocks h.used (fun k e => by rw [owner_of e]; exact hsame U hU.2 (fun e2 => d2 e2.symm) (fun e2 => (h.db U e2).2.2.1 rfl)), ownsRow_blocks h.want (fun k e => by rw [owner_of e]; exact hsame Wb hW.2 (fun e2 => d3 e2.symm) (fun e2 => (h.db Wb e2).2.2.2 rfl)), ownsRow_blocks ho (fun k e => heap_setCell_other _ _ _ _ (hvs k e).1), h.d, hvs, fun i k hi e => ?_, h.hbl, h.hlo⟩
  · have := heap_setCell_same w2 s 0 _ _ vb' hs2
    rw [this]; rfl
  · have h1 := h.dr i k hi e
    refine ⟨h1.1, h1.2.1, h1.2.2.1, fun e2 => ?_⟩
    rcases hk.lies k e2 with e3 | e3
    · exact h1.2.2.2 e3
    · have := ((h.rows.rows i (by rw [h.lm]; exact hi)).lt e).2; omega
/-- All is made: the search can begin. -/
theorem BS.done {w0 wx : World} {lo s R U cu Wb cw : Nat} {vb fv : Value} {vs : List Value} {bx : List (Nat × Nat)} {n m : Nat} {c : Nat → Nat} {bl : List Nat} (h : BS w0 wx lo s R U cu Wb cw vb fv vs bx n m (castT (tabN c m fun _ _ => 0)) bl) :
    SI wx lo wx.heap.size s U cu Wb cw vb (.slice (some ⟨R, 0, none⟩) m m) fv vs bx n m (bOf bl) c (fun _ _ => 0) (fun _ => 0) := by
  obtain ⟨d1, d2, d3, d4, d5, d6⟩ := h.d
  have hsl := h.sl
  have hl : (castT (tabN c m fun _ _ => 0)).length = m := h.lm
  have hR := (h.rows.own.lt R rfl)
  have hU := World.ownsRow.lt h.used U rfl
  have hW := World.ownsRow.lt h.want Wb rfl
  refine ⟨fun w' hw' => ?_, h.used, h.rows, fun i hi e => (h.dr i U hi e).2.1 rfl, fun e => d4 (owner_of e).symm, hU.2, fun i hi k e => ((h.rows.rows i (by omega)).lt e).2, fun k e => (h.rows.own.lt k e).2, Nat.le_refl _, fun _ _ => Nat.zero_le _, fun _ _ => Nat.zero_le _⟩
  have es : w'.heap[s]? = wx.heap[s]? := hw' s h.hs hsl d2 (fun i hi e => (h.dr i s hi e).1 rfl)
  have hblk := es.trans h.blk
  have cell : ∀ j v, #[vb, .slice (some ⟨R, 0, none⟩) m m, .slice (some ⟨Wb, 0, none⟩) (n + 1) cw, .slice (some ⟨U, 0, none⟩) (n + 1) cu, fv][j]? = some v → w'.cell? ⟨s, j, none⟩ = some v := fun j v e => by simp [World.cell?, hblk]; simpa using e
  refine ⟨cell 0 _ rfl, cell 1 _ rfl, cell 2 _ rfl, cell 3 _ rfl, cell 4 _ rfl, ?_, fun k hk => ?_, fun j hj => ?_⟩
  · rcases h.box.2 with ⟨hv, h0⟩ | ⟨g, cap, cur, hv, _⟩
    · exact ⟨none, 0, by rw [hv, h0]⟩
    · exact ⟨_, _, hv⟩
  · rcases h.box.2 with ⟨hv, h0⟩ | ⟨g, cap, cur, hv, hg, hh, _⟩
    · omega
    · have hbox := h.box
      have hgo : vb.ownBlock = some g := by rw [hv]; rfl
      have hb2 : w'.ownsRow lo 52 2 vb bx.length (pcx bx) := ownsRow_blocks h.box (fun q e => by
        rw [hgo] at e; cases e
        exact hw' g (h.box.lt g hgo).1 (h.box.lt g hgo).2 (h.db g hgo).2.2.1 (fun i hi e => (h.dr i g hi e).2.2.2 hgo))
      rw [hv] at hb2
      obtain ⟨p1, p2⟩ := pcx_at bx k hk
      refine ⟨g, cap, hv, ?_, ?_⟩
      · rw [World.ownsRow.cellAt hb2 (k * 2) (by omega)]; exact p1
      · rw [World.ownsRow.cellAt hb2 (k * 2 + 1) (by omega)]; exact p2
  · have hw2 : Owns w' lo (.slice (some ⟨Wb, 0, none⟩) (n + 1) cw) (castL (0 :: bl)) := ownsRow_blocks h.want (fun q e => by
      rw [owner_of e]
      exact hw' Wb hW.1 hW.2 (fun e2 => d6 e2.symm) (fun i hi e => (h.dr i Wb hi e).2.2.1 rfl))
    have hbl := h.hbl
    obtain ⟨_, _, h3⟩ := hw2.at (by rw [castL_len]; simp [hbl])
    rw [h3 j (by rw [castL_len]; simp; omega), castL_at]
    rfl

end Go.Proofs.Ytncokoimbpkapaa
