/-
  'out = append(out, x)' on a slice of ints that the call itself made: the law in the words of Owns.
-/
import Derived.Test.YtnjbkiegeielhaaPlain
namespace Go.Proofs.Ytnjbkiegeielhaa
open Go.RowKit

theorem append_int {w : World} {base : Nat} {v : Value} {zs : List Int} {x : Int} {ops : Array Oper} {rest : List Oper} {o : Oper} {a : Act} {Q : Exit → Act → World → Prop} (hgd : o.guard = none) (s y : Operand)
    (ho : o.op = .call { callee := .builtin .append, args := #[s, y], argTypes := #[22, 22] }) (hs : a.eval s = v) (hown : Owns w base v zs) (hx : a.eval y = .slice (some ⟨w.heap.size, 0, none⟩) 1 1)
    (hl : zs.length ≤ 17592186044414) (hbase : base ≤ w.heap.size)
    (h : ∀ v' w', Owns w' base v' (zs ++ [x]) → Below base w w' → wpList Try.prog ops Q rest (a.put o.dst v') w') :
    wpList Try.prog ops Q (o :: rest) a (w.alloc (.cells #[.int .i64 x] 3)) := by
  obtain ⟨i0, hi, hz0, hz1, hz2⟩ := info_parts Try.info3
  have hown0 := hown
  refine wpList_append_own _ hgd s y 22 ho base 3 i0 (.int .i64 0) 1 8 Try.underlying22 hi hz0 hz1 hz2 rfl (by decide) v zs.length (zs.map (Value.int .i64)) hs (World.ownsRow.alloc hown _) ⟨w.heap.size, 0, none⟩ 1 1 [.int .i64 x] hx rfl
    (fun j u hj => ?_) (fun u hu => ?_) (by unfold maxLen; omega) (by omega) (by simp; omega) (fun v' w' ho' hg' _ => h v' w' ?_ ?_)
  · match j, hj with
    | 0, hj => simp at hj; subst hj; rw [Addr.add_lit, World.cell?_alloc_at _ _ _ _ rfl]; rfl
  · simp at hu; subst hu; rfl
  · unfold Owns
    simp only [List.length_append, List.map_append, List.length_singleton, List.map_cons, List.map_nil]
    exact ho'
  · refine (((Below.refl base w).alloc hbase _).grown hg' (by simp; omega) (fun k hk => ?_))
    rcases hown0.2 with ⟨h2, _⟩ | ⟨g, cap, cur, hv, hg, _⟩
    · subst h2; cases hk
    · subst hv; simp [Value.ownBlock] at hk; omega

#print axioms append_int
end Go.Proofs.Ytnjbkiegeielhaa
