/-
  'out = append(out, x)' beside other slices of the call's own: what lies apart stays.
-/
import Derived.Test.YtnjbkiegeielhaaApp
import Derived.ArgAppend
namespace Go.Proofs.Ytnjbkiegeielhaa
open Go.RowKit

/-- Two slices that lie in no block together. -/
def Apart (v u : Value) : Prop := ∀ g, v.ownBlock = some g → u.ownBlock ≠ some g
theorem Apart.symm {v u : Value} (h : Apart v u) : Apart u v := fun g h1 h2 => h g h2 h1
theorem apart_nil (u : Value) : Apart (.slice none 0 0) u := fun g h => by cases h

theorem Owns.lt {w : World} {base : Nat} {v : Value} {zs : List Int} (h : Owns w base v zs) {g : Nat} (hg : v.ownBlock = some g) : base ≤ g ∧ g < w.heap.size := World.ownsRow.lt h g hg

/-- What behind an append may be said of any other slice of the call's own. -/
def Keeps (base : Nat) (v v' : Value) (w w' : World) : Prop := ∀ u ys, Owns w base u ys → Apart v u → Owns w' base u ys ∧ Apart v' u

theorem keeps_of {base : Nat} {v v' : Value} {w w' : World} {row : Option Nat} (hg : w.grownBy w' row) (hrow : row = none ∨ row = v.ownBlock) (hv : ∀ g, v'.ownBlock = some g → v.ownBlock = some g ∨ w.heap.size ≤ g) : Keeps base v v' w w' := by
  intro u ys hu ha
  constructor
  · refine World.ownsRow.kept hu hg ?_
    cases e : u.ownBlock with
    | none => exact Or.inl rfl
    | some g =>
      right
      rcases hrow with h | h
      · rw [h]; simp
      · rw [h]; exact fun e2 => ha g e2.symm e
  · intro g h1 h2
    rcases hv g h1 with h | h
    · exact ha g h h2
    · have := (hu.lt h2).2; omega

theorem append_int_own {w : World} {base : Nat} {v : Value} {zs : List Int} {x : Int} {ops : Array Oper} {rest : List Oper} {o : Oper} {a : Act} {Q : Exit → Act → World → Prop} (hgd : o.guard = none) (s y : Operand)
    (ho : o.op = .call { callee := .builtin .append, args := #[s, y], argTypes := #[22, 22] }) (hs : a.eval s = v) (hown : Owns w base v zs) (hx : a.eval y = .slice (some ⟨w.heap.size, 0, none⟩) 1 1)
    (hl : zs.length ≤ 17592186044414) (hbase : base ≤ w.heap.size)
    (h : ∀ v' w', Owns w' base v' (zs ++ [x]) → Below base w w' → Keeps base v v' w w' → wpList Try.prog ops Q rest (a.put o.dst v') w') :
    wpList Try.prog ops Q (o :: rest) a (w.alloc (.cells #[.int .i64 x] 3)) := by
  obtain ⟨i0, hi, hz0, hz1, hz2⟩ := info_parts Try.info3
  have hnew : ∀ j u, [Value.int .i64 x][j]? = some u → (w.alloc (.cells #[.int .i64 x] 3)).cell? ((⟨w.heap.size, 0, none⟩ : Addr).add j) = some u := by
    intro j u hj
    match j, hj with
    | 0, hj => simp at hj; subst hj; rw [Addr.add_lit, World.cell?_alloc_at _ _ _ _ rfl]; rfl
  have hone : ∀ u ∈ [Value.int .i64 x], u.oneCell' = true := fun u hu => by simp at hu; subst hu; rfl
  have hal : w.grownBy (w.alloc (.cells #[.int .i64 x] 3)) none := World.grownBy_alloc _ _ _
  have htr : ∀ (w' : World) (row : Option Nat), (w.alloc (.cells #[.int .i64 x] 3)).grownBy w' row → w.grownBy w' row := fun w' row hg =>
    ⟨hg.os, hg.tape, hg.output, by have := hg.size; simp at this; omega, fun k hk hne => (hg.block k (by simp; omega) hne).trans (hal.block k hk (by simp))⟩
  rcases hown.2 with ⟨hv, h0⟩ | ⟨g, cap, cur, hv, hg, hh, hnc, hcm, hcs, htk⟩
  · obtain rfl : zs = [] := List.eq_nil_of_length_eq_zero h0
    refine wpList_append_own _ hgd s y 22 ho w.heap.size 3 i0 (.int .i64 0) 1 8 Try.underlying22 hi hz0 hz1 hz2 rfl (by decide) v 0 [] hs (by rw [hv]; exact World.ownsRow_nil _ _ _ _) ⟨w.heap.size, 0, none⟩ 1 1 [.int .i64 x] hx rfl
      hnew hone (by unfold maxLen; omega) (by omega) (by simp) (fun v' w' ho' hg' _ => ?_)
    have hg2 := htr _ _ hg'
    have hO : Owns w' w.heap.size v' ([] ++ [x]) := ho'
    refine h v' w' (hO.mono hbase) ((Below.refl base w).grown hg2 hbase (fun k hk => by rw [hv] at hk; cases hk)) (keeps_of hg2 (Or.inr rfl) (fun g hg => Or.inr ((hO.lt hg).1)))
  · have hlt : g < w.heap.size := (hown.lt (g := g) (by rw [hv]; rfl)).2
    by_cases hroom : zs.length + 1 ≤ cap
    · refine wpList_append_fits _ hgd s y 22 ho base 3 i0 1 Try.underlying22 hi hz1 g zs.length cap (zs.map (Value.int .i64)) (by rw [hs, hv]) (by rw [← hv]; exact World.ownsRow.alloc hown _) ⟨w.heap.size, 0, none⟩ 1 1 [.int .i64 x] hx rfl
        hnew hone hroom (fun w' ho' hg' => ?_)
      have hg2 := htr _ _ hg'
      refine h _ w' ?_ ((Below.refl base w).grown hg2 hbase (fun k hk => by cases hk; exact hg)) (keeps_of hg2 (Or.inr (by rw [hv]; rfl)) (fun g' hg' => Or.inl (by rw [hv]; exact hg')))
      unfold Owns
      simp only [List.length_append, List.map_append, List.length_singleton, List.map_cons, List.map_nil]
      exact ho'
    · refine wpList_append_grows _ hgd s y 22 ho 3 i0 (.int .i64 0) 1 8 Try.underlying22 hi hz0 hz1 hz2 rfl (by decide) (some ⟨g, 0, none⟩) zs.length cap (zs.map (Value.int .i64)) (by rw [hs, hv]) (fun e => by cases e) (by simp)
        (fun b hb j u hj => ?_) ⟨w.heap.size, 0, none⟩ 1 1 [.int .i64 x] hx rfl hnew hone (by omega) (by unfold maxLen; omega) (by omega) (fun v' w' ho' hg' => ?_)
      · cases hb
        have hj' : j < zs.length := by have := (List.getElem?_eq_some_iff.1 hj).1; simpa using this
        have hown' := hown
        rw [hv] at hown'
        rw [Addr.add_lit, Nat.zero_add, World.cell?_alloc_past _ _ _ hlt, World.ownsRow.cellAt hown' j (by omega)]
        exact hj
      · have hg2 := htr _ _ hg'
        have hO : Owns w' (w.heap.size + 1) v' (zs ++ [x]) := by
          unfold Owns
          simp only [List.length_append, List.map_append, List.length_singleton, List.map_cons, List.map_nil]
          simpa using ho'
        exact h v' w' (hO.mono (by omega)) ((Below.refl base w).grown hg2 hbase (fun k hk => by cases hk)) (keeps_of hg2 (Or.inl rfl) (fun g hg => Or.inr (by have := (hO.lt hg).1; omega)))

#print axioms append_int_own
end Go.Proofs.Ytnjbkiegeielhaa
