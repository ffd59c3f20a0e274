/-
  Lists of pairs: append of several, slices.Clone, slices.Delete of one.
-/
import Derived.Test.YtihafckdaecgkaaZPrs
import Derived.Deep.RegionLaw
import Derived.Lib.SliceRun
namespace Go.Proofs.Ytihafckdaecgkaa
open Go.RowKit

theorem pc_app (l k : List (Int × Int)) : pc (l ++ k) = pc l ++ pc k := by unfold pc; rw [List.map_append, List.flatten_append]
theorem pc_one (l : List (Int × Int)) : ∀ u ∈ pc l, u.oneCell' = true := by
  induction l with
  | nil => intro u hu; cases hu
  | cons c l ih =>
    intro u hu
    rw [pc_cons] at hu
    rcases List.mem_cons.1 hu with e | hu
    · subst e; rfl
    rcases List.mem_cons.1 hu with e | hu
    · subst e; rfl
    · exact ih u hu
theorem prs_cells {w : World} {ad : Addr} {ps : List (Int × Int)} (hs : ShowsP w (some ad) ps) : ∀ j u, (pc ps)[j]? = some u → w.cell? (ad.add j) = some u := by
  intro j u hj
  have hj' : j < (pc ps).length := (List.getElem?_eq_some_iff.1 hj).1
  rw [pc_length] at hj'
  obtain ⟨b, off, h1, h2, h3⟩ := hs.cells (by intro e; subst e; simp at hj')
  cases h1
  obtain ⟨h4, h5⟩ := h3 (j / 2) (by omega)
  obtain ⟨g1, g2⟩ := pc_get ps (j / 2) (by omega)
  rw [Addr.add_lit]
  rcases Nat.mod_two_eq_zero_or_one j with q | q
  · rw [show j = j / 2 * 2 by omega] at hj
    rw [hj] at g1
    rw [show off + j = off + j / 2 * 2 by omega, h4, g1]
  · rw [show j = j / 2 * 2 + 1 by omega] at hj
    rw [hj] at g2
    rw [show off + j = off + j / 2 * 2 + 1 by omega, h5, g2]
theorem run_append_prs {w : World} {base : Nat} {v : Value} {l ps : List (Int × Int)} {ad : Addr} {m c : Nat} (ty : TypeId) (hown : OwnsP w base v l) (hm : m = ps.length) (hsrc : ShowsP w (some ad) ps) (h63 : l.length + ps.length ≤ 1000) (hbase : base ≤ w.heap.size) :
    ∃ v' w', (Builtin.append_ #[22, 22] ty #[v, .slice (some ad) m c]).run Try.prog w = .ok v' w' ∧ OwnsP w' base v' (l ++ ps) ∧ Below base w w' := by
  subst hm
  obtain ⟨i0, hi, hz0, hz1, hz2⟩ := info_parts Try.infoP
  have hM : l.length + ps.length ≤ maxLen := by unfold maxLen; omega
  have hc := prs_cells hsrc
  unfold OwnsP at hown ⊢
  rw [pc_app, List.length_append]
  obtain ⟨v', w', hrun, r1, r2, _⟩ := run_append_own (P := Try.prog) w base 22 ty 34 i0 (.agg #[.int .i64 0, .int .i64 0]) 2 16 Try.underlyingP hi hz0 hz1 hz2 rfl (by decide) v l.length (pc l) hown ad ps.length c (pc ps) (pc_length ps) hc (pc_one ps) (by simpa using hM) (by omega) hbase
  exact ⟨v', w', hrun, r1, (Below.refl base w).grown r2 hbase (fun k hk => (hown.lt k hk).1)⟩
theorem append_prs {w : World} {base : Nat} {v : Value} {l ps : List (Int × Int)} {ad : Addr} {m c : Nat} {ops : Array Oper} {rest : List Oper} {o : Oper} {a : Act} {Q : Exit → Act → World → Prop} (hgd : o.guard = none) (s z : Operand)
    (ho : o.op = .call { callee := .builtin .append, args := #[s, z], argTypes := #[22, 22] }) (hs : a.eval s = v) (hx : a.eval z = .slice (some ad) m c) (hown : OwnsP w base v l) (hm : m = ps.length) (hsrc : ShowsP w (some ad) ps) (h63 : l.length + ps.length ≤ 1000) (hbase : base ≤ w.heap.size)
    (h : ∀ v' w', OwnsP w' base v' (l ++ ps) → Below base w w' → wpList Try.prog ops Q rest (a.put o.dst v') w') :
    wpList Try.prog ops Q (o :: rest) a w := by
  refine wpList_plain hgd fun K hK => ?_
  obtain ⟨v', w', hrun, r1, r2⟩ := run_append_prs o.type hown hm (c := c) hsrc h63 hbase
  unfold Oper.wp
  simp [execOp, ho, resolve, invoke, builtin, hs, hx, hrun, Result.andThen]
  exact hK _ _ (h v' w' r1 r2)
set_option maxHeartbeats 4000000 in
theorem CloneP_at (ad : Addr) (n cap : Nat) (ps : List (Int × Int)) (w : World) (hs : ShowsP w (some ad) ps) (hn : n = ps.length) (hl : ps.length ≤ 1000) :
    Calls Try.prog 21 #[.slice (some ad) n cap] w fun e w' => ∃ v, e = .returned v ∧ Hid (OwnsP w' w.heap.size v ps) ∧ Hid (Below w.heap.size w w') := by
  have HN : Hid (n = ps.length) := hn
  have heq : (binOp .eql 22 (.slice (some ad) n cap) (.slice none 0 0)).run Try.prog w = .ok (.bool false) w := Lib.run_eql_slice_nil w 22 34 (some ad) n cap 0 0 Try.underlyingP
  have HA : Hid (Below w.heap.size w (w.alloc (.cells #[] 34))) := (Below.refl _ _).alloc (Nat.le_refl _) _
  have HW : Hid (ShowsP (w.alloc (.cells #[] 34)) (some ad) ps) := hs.below HA.out
  have HX : (w.alloc (.cells #[] 34)).heap[w.heap.size]? = some (.cells #[] 34 (0, 0)) := heap_alloc_new _ _
  have HO : Hid (OwnsP (w.alloc (.cells #[] 34)) w.heap.size (.slice (some ⟨w.heap.size, 0, none⟩) 0 0) []) := ⟨rfl, Or.inr ⟨w.heap.size, 0, #[], rfl, Nat.le_refl _, HX, Nat.le_refl _, Nat.zero_le _, rfl, rfl⟩⟩
  clear hs hn HX
  go_enter Try.func21, Try.ntmps21
  go_wp2_with (at_builtin; refine append_prs (l := []) (ps := ps) (base := w.heap.size) rfl _ _ rfl rfl rfl ?o HN.out ?s (by simp; omega) ?b ?_)
  case o => exact HO.out
  case s => exact HW.out
  case b => simp
  intro v' w' hO hb
  have HO' : Hid (OwnsP w' w.heap.size v' ps) := hO
  have HB' : Hid (Below w.heap.size w w') := HA.out.trans hb
  clear hO hb
  go_wp2
  go_ret
  exact ⟨_, rfl, HO', HB'⟩

/-- All blocks but g are as they were. -/
def ButG (g : Nat) (w w' : World) : Prop := w.heap.size ≤ w'.heap.size ∧ ∀ k, k < w.heap.size → k ≠ g → w'.heap[k]? = w.heap[k]?
theorem ButG.store {g : Nat} {w w' : World} (h : ButG g w w') (j : Nat) (x : Value) : ButG g w (w'.setCell ⟨g, j, none⟩ x) :=
  ⟨Nat.le_trans h.1 ((Below.refl 0 w').setCell (Nat.zero_le _) _).size, fun k hk hne => (Below.heap_setCell _ _ _ _ hne).trans (h.2 k hk hne)⟩
theorem Owns.butG {w w' : World} {base g h cap n : Nat} {zs : List Int} (ho : Owns w base (.slice (some ⟨h, 0, none⟩) n cap) zs) (hb : ButG g w w') (hne : h ≠ g) : Owns w' base (.slice (some ⟨h, 0, none⟩) n cap) zs :=
  ownsRow_blocks ho (fun k e => by
    have h1 := (World.ownsRow.lt ho k e).2
    have : h = k := by simpa [Value.ownBlock] using e
    subst this
    exact hb.2 h h1 hne)
theorem Owns.butGv {w w' : World} {base g : Nat} {v : Value} {zs : List Int} (ho : Owns w base v zs) (hb : ButG g w w') (hne : g < base) : Owns w' base v zs :=
  ownsRow_blocks ho (fun k e => by
    have h1 := World.ownsRow.lt ho k e
    exact hb.2 k h1.2 (by omega))
/-- 'append(s[:i], src...)' where it fits, as one step of a region that draws its order. -/
theorem step_fitsP {w : World} {base : Nat} {zs ys : List (Int × Int)} {ops : Array Oper} {o : Oper} {a : Act} {K : Act → World → Prop} {Q : Exit → Act → World → Prop} {E : Prop} (hgd : o.guard = none) (s y : Operand)
    (ho : o.op = .call { callee := .builtin .append, args := #[s, y], argTypes := #[22, 22] }) (g i cap : Nat) (ad : Addr) (m c r : Nat) (hr : r = i + m) (hs : a.eval s = .slice (some ⟨g, 0, none⟩) i cap) (hx : a.eval y = .slice (some ad) m c) (hown : OwnsP w base (.slice (some ⟨g, 0, none⟩) i cap) zs) (hg : base ≤ g) (hi : i = zs.length) (hsrc : ShowsP w (some ad) ys) (hm : m = ys.length) (hroom : i + m ≤ cap) (hbase : base ≤ w.heap.size)
    (h : ∀ w', OwnsP w' base (.slice (some ⟨g, 0, none⟩) r cap) (zs ++ ys) → Below base w w' → ButG g w w' → K (a.put o.dst (.slice (some ⟨g, 0, none⟩) r cap)) w') :
    if Region.wanted o (yielded ops a.tmps) = true then Oper.wp Try.prog o a w K Q else E := by
  subst hr; subst hm; subst hi
  have hw : Region.wanted o (yielded ops a.tmps) = true := by simp [Region.wanted, hgd]
  rw [if_pos hw]
  obtain ⟨i0, hi, hz0, hz1, hz2⟩ := info_parts Try.infoP
  obtain ⟨w', hrun, r1, r2⟩ := run_append_fits (P := Try.prog) w base 22 o.type 34 i0 2 Try.underlyingP hi hz1 g zs.length cap (pc zs) hown ad ys.length c (pc ys) (pc_length ys) (prs_cells hsrc) (pc_one _) hroom
  unfold Oper.wp
  simp [execOp, ho, resolve, invoke, builtin, hs, hx, hrun, Result.andThen]
  refine h w' ?_ ((Below.refl base w).grown r2 hbase (fun k hk => by cases hk; exact hg)) ⟨r2.size, fun k hk hne => r2.block k hk (fun e => hne (by cases e; rfl))⟩
  unfold OwnsP; rw [List.length_append, pc_app]; exact r1
end Go.Proofs.Ytihafckdaecgkaa
