/-
  Points of the call's own: append.
-/
import Derived.Test.YtcnmndbckjmliaaDoorNRdz
import Derived.Test.YtcnmndbckjmliaaDoorTApp
namespace Go.Proofs.YtcnmndbckjmliaaDoor
open Go.RowKit

def PtI (w : World) (a : Option Addr) (ps : List (Int × Int)) : Prop := ∀ j, j < ps.length → ∃ b off, a = some ⟨b, off, none⟩ ∧ b < w.heap.size ∧ w.cell? ⟨b, off + j * 2, none⟩ = some (.int .i64 (ps.getD j (0, 0)).1) ∧ w.cell? ⟨b, off + j * 2 + 1, none⟩ = some (.int .i64 (ps.getD j (0, 0)).2)
theorem PtI.below {w w' : World} {a : Option Addr} {ps : List (Int × Int)} (h : PtI w a ps) (hb : Below w.heap.size w w') : PtI w' a ps := fun j hj => by
  obtain ⟨b, off, h1, h2, h3, h4⟩ := h j hj
  exact ⟨b, off, h1, Nat.lt_of_lt_of_le h2 hb.size, (hb.cell (p := ⟨b, off + j * 2, none⟩) h2).trans h3, (hb.cell (p := ⟨b, off + j * 2 + 1, none⟩) h2).trans h4⟩
theorem infoPt : (Tryd.prog.info? 36).map (fun i => (i.zero, i.size, i.bytes)) = some (some (.agg #[.int .i64 0, .int .i64 0]), 2, 16) := by kernel_rfl
/-- The cells of points. -/
def pcI (l : List (Int × Int)) : List Value := (l.map (fun c => [Value.int .i64 c.1, Value.int .i64 c.2])).flatten
theorem pcI_cons (c : Int × Int) (l : List (Int × Int)) : pcI (c :: l) = .int .i64 c.1 :: .int .i64 c.2 :: pcI l := rfl
theorem pcI_app (l k : List (Int × Int)) : pcI (l ++ k) = pcI l ++ pcI k := by unfold pcI; rw [List.map_append, List.flatten_append]
theorem pcI_length (l : List (Int × Int)) : (pcI l).length = l.length * 2 := by
  induction l with
  | nil => rfl
  | cons c l ih => rw [pcI_cons, List.length_cons, List.length_cons, List.length_cons, ih]; omega
theorem pcI_get : ∀ (l : List (Int × Int)) (i : Nat), i < l.length → (pcI l)[i * 2]? = some (.int .i64 (l.getD i (0, 0)).1) ∧ (pcI l)[i * 2 + 1]? = some (.int .i64 (l.getD i (0, 0)).2) := by
  intro l
  induction l with
  | nil => intro i h; simp at h
  | cons c l ih =>
    intro i hi
    rw [pcI_cons]
    cases i with
    | zero => simp
    | succ i =>
      have := ih i (by simpa using hi)
      rw [show (i + 1) * 2 = i * 2 + 1 + 1 by omega, show i * 2 + 1 + 1 + 1 = i * 2 + 1 + 1 + 1 from rfl]
      simpa using this
theorem pcI_one (l : List (Int × Int)) : ∀ u ∈ pcI l, u.oneCell' = true := by
  induction l with
  | nil => intro u hu; cases hu
  | cons c l ih =>
    intro u hu
    rw [pcI_cons] at hu
    rcases List.mem_cons.1 hu with e | hu
    · subst e; rfl
    rcases List.mem_cons.1 hu with e | hu
    · subst e; rfl
    · exact ih u hu
def OwPt (w : World) (lo : Nat) (v : Value) (l : List (Int × Int)) : Prop := w.ownsRow lo 36 2 v l.length (pcI l)
theorem OwPt.below {w w' : World} {lo : Nat} {v : Value} {l : List (Int × Int)} (h : OwPt w lo v l) (hb : Below w.heap.size w w') : OwPt w' lo v l := ownsRow_blocks h (fun k e => hb.block k (h.lt k e).2)
theorem OwPt.open {w : World} {lo : Nat} {v : Value} {l : List (Int × Int)} (h : OwPt w lo v l) : ∃ a c, v = .slice a l.length c ∧ PtI w a l ∧ l.length ≤ c := by
  rcases h.2 with ⟨hv, hn⟩ | ⟨g, cap, cur, hv, hg, hh, hn, hc, hcs, htk⟩
  · have hl : l = [] := List.length_eq_zero_iff.1 hn
    subst hl
    exact ⟨none, 0, hv, fun j hj => by simp at hj, Nat.le_refl _⟩
  · refine ⟨some ⟨g, 0, none⟩, cap, hv, fun j hj => ?_, hn⟩
    obtain ⟨g1, g2⟩ := pcI_get l j hj
    refine ⟨g, 0, rfl, lt_someN hh, ?_, ?_⟩
    · rw [Nat.zero_add, cell_of_row w g _ _ _ _ hh]
      rw [← htk, List.getElem?_take_of_lt (by omega)] at g1
      simpa using g1
    · rw [Nat.zero_add, cell_of_row w g _ _ _ _ hh]
      rw [← htk, List.getElem?_take_of_lt (by omega)] at g2
      simpa using g2
theorem pts_cells {w : World} {ps : List (Int × Int)} {ad : Addr} (hsrc : PtI w (some ad) ps) : ∀ j u, (pcI ps)[j]? = some u → w.cell? (ad.add j) = some u := fun j u hj => by
  have hjl : j < (pcI ps).length := by
    rcases Nat.lt_or_ge j (pcI ps).length with q | q
    · exact q
    · rw [List.getElem?_eq_none q] at hj; cases hj
  rw [pcI_length] at hjl
  obtain ⟨b, off, h1, h2, h3, h4⟩ := hsrc (j / 2) (by omega)
  obtain ⟨g1, g2⟩ := pcI_get ps (j / 2) (by omega)
  simp only [Option.some.injEq] at h1
  subst h1
  rw [Addr.add_lit]
  rcases Nat.mod_two_eq_zero_or_one j with q | q
  · rw [show j = j / 2 * 2 by omega] at hj
    rw [hj] at g1
    rw [show off + j = off + j / 2 * 2 by omega, h3, g1]
  · rw [show j = j / 2 * 2 + 1 by omega] at hj
    rw [hj] at g2
    rw [show off + j = off + j / 2 * 2 + 1 by omega, h4, g2]
theorem run_append_pts {w : World} {base : Nat} {v : Value} {l ps : List (Int × Int)} {ad : Addr} {m c : Nat} (ty : TypeId) (hown : OwPt w base v l) (hm : m = ps.length) (hsrc : PtI w (some ad) ps) (h63 : l.length + ps.length ≤ 8796093022208) (hbase : base ≤ w.heap.size) :
    ∃ v' w', (Builtin.append_ #[39, 39] ty #[v, .slice (some ad) m c]).run Tryd.prog w = .ok v' w' ∧ OwPt w' base v' (l ++ ps) ∧ Below base w w' ∧ KeepB v v' w w' := by
  subst hm
  obtain ⟨i0, hi, hz0, hz1, hz2⟩ := info_parts infoPt
  have hM : l.length + ps.length ≤ maxLen := by unfold maxLen; omega
  have hc := pts_cells hsrc
  unfold OwPt at hown ⊢
  rw [pcI_app, List.length_append]
  rcases hown.2 with ⟨hv, h0⟩ | ⟨g, cap, cur, hv, hg, hh, hnc, hcm, hcs', htk⟩
  · obtain rfl : l = [] := List.eq_nil_of_length_eq_zero h0
    obtain ⟨v', w', hrun, r1, r2, _⟩ := run_append_own (P := Tryd.prog) w w.heap.size 39 ty 36 i0 (.agg #[.int .i64 0, .int .i64 0]) 2 16 Tryd.underlying39 hi hz0 hz1 hz2 rfl (by decide) v 0 [] (by rw [hv]; exact World.ownsRow_nil _ _ _ _) ad ps.length c (pcI ps) (pcI_length ps) hc (pcI_one ps) (by simpa using hM) (by simp at h63; omega) (Nat.le_refl _)
    have r1' : w'.ownsRow w.heap.size 36 2 v' (([] : List (Int × Int)).length + ps.length) (pcI [] ++ pcI ps) := r1
    exact ⟨v', w', hrun, ownsRow_down r1' hbase, (Below.refl base w).grown r2 hbase (fun k hk => by rw [hv] at hk; cases hk), keepB_of r2 (Or.inr rfl) (fun g hg => Or.inr (r1'.lt g hg).1)⟩
  · by_cases hroom : l.length + ps.length ≤ cap
    · rw [hv] at hown
      obtain ⟨w', hrun, r1, r2⟩ := run_append_fits (P := Tryd.prog) w base 39 ty 36 i0 2 Tryd.underlying39 hi hz1 g l.length cap (pcI l) hown ad ps.length c (pcI ps) (pcI_length ps) hc (pcI_one ps) hroom
      exact ⟨_, w', by rw [hv]; exact hrun, r1, (Below.refl base w).grown r2 hbase (fun k hk => by cases hk; exact hg), keepB_of r2 (Or.inr (by rw [hv]; rfl)) (fun g' hg' => Or.inl (by rw [hv]; exact hg'))⟩
    · have hown' := hown
      rw [hv] at hown'
      obtain ⟨v', w', hrun, r1, r2⟩ := run_append_arg_grows (P := Tryd.prog) w 39 ty 36 i0 (.agg #[.int .i64 0, .int .i64 0]) 2 16 Tryd.underlying39 hi hz0 hz1 hz2 rfl (by decide) ⟨g, 0, none⟩ l.length cap (pcI l) (pcI_length l)
        (fun j u hj => by
          have hj' : j < (pcI l).length := (List.getElem?_eq_some_iff.1 hj).1
          rw [pcI_length] at hj'
          rw [Addr.add_lit, Nat.zero_add, World.ownsRow.cellAt hown' j (by omega)]; exact hj)
        ad ps.length c (pcI ps) (pcI_length ps) hc (by omega) hM (by omega)
      exact ⟨v', w', by rw [hv]; exact hrun, ownsRow_down r1 hbase, (Below.refl base w).grown r2 hbase (fun k hk => by cases hk), keepB_of r2 (Or.inl rfl) (fun g hg => Or.inr (r1.lt g hg).1)⟩
theorem append_pts {w : World} {base : Nat} {v : Value} {l ps : List (Int × Int)} {ad : Addr} {m c : Nat} {ops : Array Oper} {rest : List Oper} {o : Oper} {a : Act} {Q : Exit → Act → World → Prop} (hgd : o.guard = none) (s z : Operand)
    (ho : o.op = .call { callee := .builtin .append, args := #[s, z], argTypes := #[39, 39] }) (hs : a.eval s = v) (hx : a.eval z = .slice (some ad) m c) (hown : OwPt w base v l) (hm : m = ps.length) (hsrc : PtI w (some ad) ps) (h63 : l.length + ps.length ≤ 8796093022208) (hbase : base ≤ w.heap.size)
    (h : ∀ v' w', OwPt w' base v' (l ++ ps) → Below base w w' → KeepB v v' w w' → wpList Tryd.prog ops Q rest (a.put o.dst v') w') :
    wpList Tryd.prog ops Q (o :: rest) a w := by
  refine wpList_plain hgd fun K hK => ?_
  obtain ⟨v', w', hrun, r1, r2, r3⟩ := run_append_pts o.type hown hm (c := c) hsrc h63 hbase
  unfold Oper.wp
  simp [execOp, ho, resolve, invoke, builtin, hs, hx, hrun, Result.andThen]
  exact hK _ _ (h v' w' r1 r2 r3)

theorem append_pt1 {w : World} {base : Nat} {v : Value} {l : List (Int × Int)} {x y : Int} {ops : Array Oper} {rest : List Oper} {o : Oper} {a : Act} {Q : Exit → Act → World → Prop} (hgd : o.guard = none) (s z : Operand)
    (ho : o.op = .call { callee := .builtin .append, args := #[s, z], argTypes := #[39, 39] }) (hs : a.eval s = v) (hx : a.eval z = .slice (some ⟨w.heap.size, 0, none⟩) 1 1) (hown : OwPt w base v l) (hl : l.length ≤ 1000) (hbase : base ≤ w.heap.size)
    (h : ∀ v' w', Hid (OwPt w' base v' (l ++ [(x, y)])) → Hid (Below base w w') → wpList Tryd.prog ops Q rest (a.put o.dst v') w') :
    wpList Tryd.prog ops Q (o :: rest) a (w.alloc (.cells #[.int .i64 x, .int .i64 y] 36)) := by
  have hal : Below w.heap.size w (w.alloc (.cells #[.int .i64 x, .int .i64 y] 36)) := (Below.refl _ _).alloc (Nat.le_refl _) _
  have hh : (w.alloc (.cells #[.int .i64 x, .int .i64 y] 36)).heap[w.heap.size]? = some (.cells #[.int .i64 x, .int .i64 y] 36 (0, 0)) := heap_alloc_last _ _
  refine append_pts (l := l) (ps := [(x, y)]) (base := base) hgd s z ho hs hx (hown.below hal) rfl (fun j hj => ?_) (by simp; omega) (Nat.le_trans hbase hal.size) (fun v' w' r1 r2 _ => h v' w' r1 ((hal.mono hbase).trans r2))
  obtain rfl : j = 0 := by simpa using hj
  exact ⟨w.heap.size, 0, rfl, lt_someN hh, by rw [cell_of_row _ _ _ _ _ _ hh]; rfl, by rw [cell_of_row _ _ _ _ _ _ hh]; rfl⟩

end Go.Proofs.YtcnmndbckjmliaaDoor
