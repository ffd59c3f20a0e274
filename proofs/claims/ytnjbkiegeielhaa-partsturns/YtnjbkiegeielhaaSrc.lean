/-
  'append(out, src...)' on a slice of ints that the call itself made (or nil), src whatever shows its numbers.
-/
import Derived.Test.YtnjbkiegeielhaaRefB
import Derived.Test.YtnjbkiegeielhaaAppB
namespace Go.Proofs.Ytnjbkiegeielhaa
open Go.RowKit

theorem src_cells {w : World} {a : Addr} {ys : List Int} (h : Shows w (some a) ys) : ∀ j u, (ys.map (Value.int .i64))[j]? = some u → w.cell? (a.add j) = some u := by
  intro j u hj
  have hj' : j < ys.length := by have := (List.getElem?_eq_some_iff.1 hj).1; simpa using this
  obtain ⟨b, off, ha, _, hc⟩ := h.cells (fun e => by subst e; simp at hj')
  cases ha
  rw [Addr.add_lit, hc j hj', ← hj]; simp [List.getD, List.getElem?_eq_getElem hj']

theorem run_append_src {w : World} {base : Nat} {v : Value} {zs ys : List Int} {a : Option Addr} {c : Nat} (ty : TypeId) (hown : Owns w base v zs) (hsrc : Shows w a ys) (hn : a = none → ys = [] ∧ c = 0) (hl : zs.length + ys.length ≤ 17592186044414) (hbase : base ≤ w.heap.size) :
    ∃ v' w', (Builtin.append_ #[22, 22] ty #[v, .slice a ys.length c]).run Try.prog w = .ok v' w' ∧ Owns w' base v' (zs ++ ys) ∧ Below base w w' ∧ Keeps base v v' w w' := by
  obtain ⟨i0, hi, hz0, hz1, hz2⟩ := info_parts Try.info3
  have mk : ∀ {b v' w'}, w'.ownsRow b 3 1 v' (zs.length + ys.length) (zs.map (Value.int .i64) ++ ys.map (Value.int .i64)) → Owns w' b v' (zs ++ ys) := fun {b v' w'} h => by
    unfold Owns; rw [List.length_append, List.map_append]; exact h
  cases a with
  | none =>
    obtain ⟨rfl, rfl⟩ := hn rfl
    refine ⟨v, w, run_append_owned_none (P := Try.prog) w base 22 ty 3 i0 1 Try.underlying22 hi v zs.length _ hown, by simpa using hown, Below.refl _ _, fun u ys hu ha => ⟨hu, ha⟩⟩
  | some ad =>
    have hcs := src_cells hsrc
    rcases hown.2 with ⟨hv, h0⟩ | ⟨g, cap, cur, hv, hg, hh, hnc, hcm, hcs', htk⟩
    · obtain rfl : zs = [] := List.eq_nil_of_length_eq_zero h0
      obtain ⟨v', w', hrun, r1, r2, _⟩ := run_append_own (P := Try.prog) w w.heap.size 22 ty 3 i0 (.int .i64 0) 1 8 Try.underlying22 hi hz0 hz1 hz2 rfl (by decide) v 0 [] (by rw [hv]; exact World.ownsRow_nil _ _ _ _) ad ys.length c (ys.map (Value.int .i64)) (by simp) hcs (ints_oneCell _ _) (by unfold maxLen; omega) (by simp at hl; omega) (Nat.le_refl _)
      have hO : Owns w' w.heap.size v' ([] ++ ys) := mk (by simpa using r1)
      exact ⟨v', w', hrun, hO.mono hbase, (Below.refl base w).grown r2 hbase (fun k hk => by rw [hv] at hk; cases hk), keeps_of r2 (Or.inr rfl) (fun g hg => Or.inr (hO.lt hg).1)⟩
    · by_cases hroom : zs.length + ys.length ≤ cap
      · rw [hv] at hown
        obtain ⟨w', hrun, r1, r2⟩ := run_append_fits (P := Try.prog) w base 22 ty 3 i0 1 Try.underlying22 hi hz1 g zs.length cap (zs.map (Value.int .i64)) hown ad ys.length c (ys.map (Value.int .i64)) (by simp) hcs (ints_oneCell _ _) hroom
        exact ⟨_, w', by rw [hv]; exact hrun, mk r1, (Below.refl base w).grown r2 hbase (fun k hk => by cases hk; exact hg), keeps_of r2 (Or.inr (by rw [hv]; rfl)) (fun g' hg' => Or.inl (by rw [hv]; exact hg'))⟩
      · have hown' := hown
        rw [hv] at hown'
        obtain ⟨v', w', hrun, r1, r2⟩ := run_append_arg_grows (P := Try.prog) w 22 ty 3 i0 (.int .i64 0) 1 8 Try.underlying22 hi hz0 hz1 hz2 rfl (by decide) ⟨g, 0, none⟩ zs.length cap (zs.map (Value.int .i64)) (by simp)
          (fun j u hj => by
            have hj' : j < zs.length := by have := (List.getElem?_eq_some_iff.1 hj).1; simpa using this
            rw [Addr.add_lit, Nat.zero_add, World.ownsRow.cellAt hown' j (by omega)]; exact hj)
          ad ys.length c (ys.map (Value.int .i64)) (by simp) hcs (by omega) (by unfold maxLen; omega) (by omega)
        have hO : Owns w' w.heap.size v' (zs ++ ys) := mk r1
        exact ⟨v', w', by rw [hv]; exact hrun, hO.mono hbase, (Below.refl base w).grown r2 hbase (fun k hk => by cases hk), keeps_of r2 (Or.inl rfl) (fun g hg => Or.inr (hO.lt hg).1)⟩

/-- The law in the walk. -/
theorem append_src {w : World} {base : Nat} {v : Value} {zs ys : List Int} {ad : Option Addr} {m c : Nat} {ops : Array Oper} {rest : List Oper} {o : Oper} {a : Act} {Q : Exit → Act → World → Prop} (hgd : o.guard = none) (s y : Operand)
    (ho : o.op = .call { callee := .builtin .append, args := #[s, y], argTypes := #[22, 22] }) (hs : a.eval s = v) (hx : a.eval y = .slice ad m c) (hown : Owns w base v zs) (hsrc : Shows w ad ys) (hm : m = ys.length) (hn : ad = none → ys = [] ∧ c = 0)
    (hl : zs.length + ys.length ≤ 17592186044414) (hbase : base ≤ w.heap.size)
    (h : ∀ v' w', Owns w' base v' (zs ++ ys) → Below base w w' → Keeps base v v' w w' → wpList Try.prog ops Q rest (a.put o.dst v') w') :
    wpList Try.prog ops Q (o :: rest) a w := by
  subst hm
  refine wpList_plain hgd fun K hK => ?_
  obtain ⟨v', w', hrun, r1, r2, r3⟩ := run_append_src o.type hown hsrc hn hl hbase
  unfold Oper.wp
  simp [execOp, ho, resolve, invoke, builtin, hs, hx, hrun, Result.andThen]
  exact hK _ _ (h v' w' r1 r2 r3)

/-- The law in a region that draws its order. -/
theorem step_src {w : World} {base : Nat} {v : Value} {zs ys : List Int} {ad : Option Addr} {m c : Nat} {ops : Array Oper} {o : Oper} {a : Act} {K : Act → World → Prop} {Q : Exit → Act → World → Prop} {E : Prop} (hgd : o.guard = none) (s y : Operand)
    (ho : o.op = .call { callee := .builtin .append, args := #[s, y], argTypes := #[22, 22] }) (hs : a.eval s = v) (hx : a.eval y = .slice ad m c) (hown : Owns w base v zs) (hsrc : Shows w ad ys) (hm : m = ys.length) (hn : ad = none → ys = [] ∧ c = 0)
    (hl : zs.length + ys.length ≤ 17592186044414) (hbase : base ≤ w.heap.size)
    (h : ∀ v' w', Owns w' base v' (zs ++ ys) → Below base w w' → Keeps base v v' w w' → K (a.put o.dst v') w') :
    if Region.wanted o (yielded ops a.tmps) = true then Oper.wp Try.prog o a w K Q else E := by
  subst hm
  have hw : Region.wanted o (yielded ops a.tmps) = true := by simp [Region.wanted, hgd]
  rw [if_pos hw]
  obtain ⟨v', w', hrun, r1, r2, r3⟩ := run_append_src o.type hown hsrc hn hl hbase
  unfold Oper.wp
  simp [execOp, ho, resolve, invoke, builtin, hs, hx, hrun, Result.andThen]
  exact h v' w' r1 r2 r3

#print axioms step_src
end Go.Proofs.Ytnjbkiegeielhaa
