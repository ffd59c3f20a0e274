/-
  append of one pair, and of one number: what other lists of the call's own keep.
-/
import Derived.Test.YtihafckdaecgkaaZPrs
import Derived.Test.YtihafckdaecgkaaTApp
namespace Go.Proofs.Ytihafckdaecgkaa
open Go.RowKit

theorem Owns.tag {w : World} {lo : Nat} {u : Value} {zs : List Int} (h : Owns w lo u zs) {k : Nat} (hk : u.ownBlock = some k) : ∃ c, w.heap[k]? = some (Obj.cells c 3 (0, 0)) := by
  have h1 : w.ownsRow lo 3 1 u zs.length (zs.map (Value.int .i64)) := h
  rcases h1.2 with ⟨h2, _⟩ | ⟨g, cap, cur, hv, _, hh, _⟩
  · rw [h2] at hk; cases hk
  · rw [hv] at hk
    have : g = k := by simpa [Value.ownBlock] using hk
    subst this
    exact ⟨_, hh⟩
theorem OwnsP.tag {w : World} {lo : Nat} {u : Value} {l : List (Int × Int)} (h : OwnsP w lo u l) {k : Nat} (hk : u.ownBlock = some k) : ∃ c, w.heap[k]? = some (.cells c 34 (0, 0)) := by
  have h1 : w.ownsRow lo 34 2 u l.length (pc l) := h
  rcases h1.2 with ⟨h2, _⟩ | ⟨g, cap, cur, hv, _, hh, _⟩
  · rw [h2] at hk; cases hk
  · rw [hv] at hk
    have : g = k := by simpa [Value.ownBlock] using hk
    subst this
    exact ⟨_, hh⟩
theorem tags_apart {w : World} {lo lo' : Nat} {u v : Value} {zs : List Int} {l : List (Int × Int)} (h : Owns w lo u zs) (h' : OwnsP w lo' v l) {k : Nat} (hk : u.ownBlock = some k) : v.ownBlock ≠ some k := fun hv => by
  obtain ⟨c, e1⟩ := h.tag hk
  obtain ⟨d, e2⟩ := h'.tag hv
  rw [e1] at e2
  simp at e2
/-- Every list of numbers of w is there in w'. -/
def KeepI (w w' : World) : Prop := ∀ lo u zs, Owns w lo u zs → Owns w' lo u zs
def KeepP (w w' : World) : Prop := ∀ lo u l, OwnsP w lo u l → OwnsP w' lo u l
theorem KeepB.pairs {u u' : Value} {w w' : World} {lo : Nat} {zs : List Int} (h : KeepB u u' w w') (ho : Owns w lo u zs) : KeepP w w' := fun _ _ _ hv =>
  ownsRow_blocks hv (fun k e => h.block k (hv.lt k e).2 (fun e2 => tags_apart ho hv e2 e))
theorem append_pairK {w : World} {base N : Nat} {v : Value} {x y : Int} {l : List (Int × Int)} {ops : Array Oper} {rest : List Oper} {o : Oper} {a : Act} {Q : Exit → Act → World → Prop} (hgd : o.guard = none) (s z : Operand)
    (ho : o.op = .call { callee := .builtin .append, args := #[s, z], argTypes := #[22, 22] }) (hs : a.eval s = v) (hx : a.eval z = .slice (some ⟨N, 0, none⟩) 1 1) (hN : N = w.heap.size) (hown : OwnsP w base v l) (h63 : l.length + 1 ≤ 1000) (hbase : base ≤ w.heap.size)
    (h : ∀ v' w', OwnsP w' base v' (l ++ [(x, y)]) → Below base w w' → KeepI w w' → (∀ (k : Nat) (c : Array Value), w.heap[k]? = some (Obj.cells c 3 (0, 0)) → w'.heap[k]? = some (Obj.cells c 3 (0, 0))) → wpList Try.prog ops Q rest (a.put o.dst v') w') :
    wpList Try.prog ops Q (o :: rest) a (w.alloc (.cells #[.int .i64 x, .int .i64 y] 34)) := by
  refine wpList_plain hgd fun K hK => ?_
  subst hN
  obtain ⟨i0, hi, hz0, hz1, hz2⟩ := info_parts Try.infoP
  have hb : Below w.heap.size w (w.alloc (.cells #[.int .i64 x, .int .i64 y] 34)) := (Below.refl _ _).alloc (Nat.le_refl _) _
  have hown2 : (w.alloc (.cells #[.int .i64 x, .int .i64 y] 34)).ownsRow base 34 2 v l.length (pc l) := hown.below hb
  obtain ⟨v', w', hrun, r1, r2, _⟩ := run_append_own (P := Try.prog) (w.alloc (.cells #[.int .i64 x, .int .i64 y] 34)) base 22 o.type 34 i0 (.agg #[.int .i64 0, .int .i64 0]) 2 16 Try.underlyingP hi hz0 hz1 hz2 rfl (by decide) v l.length (pc l) hown2 ⟨w.heap.size, 0, none⟩ 1 1 [.int .i64 x, .int .i64 y] rfl
    (fun j u hj => by
      match j, hj with
      | 0, hj => simp at hj; subst hj; rw [Addr.add_lit, World.cell?_alloc_at _ _ _ _ rfl]; rfl
      | 1, hj => simp at hj; subst hj; rw [Addr.add_lit, World.cell?_alloc_at _ _ _ _ rfl]; rfl) (fun u hu => by simp at hu; rcases hu with rfl | rfl <;> rfl) (by unfold maxLen; omega) (by omega) (by simp; omega)
  have hkeep : ∀ (k : Nat) (c : Array Value), w.heap[k]? = some (Obj.cells c 3 (0, 0)) → w'.heap[k]? = some (Obj.cells c 3 (0, 0)) := fun k c hk => by
    have hlt : k < w.heap.size := (Array.getElem?_eq_some_iff.1 hk).1
    rw [r2.block k (Nat.lt_of_lt_of_le hlt hb.size) (fun e => by
      obtain ⟨d, e2⟩ := hown.tag e.symm
      rw [hk] at e2
      simp at e2), hb.block k hlt]
    exact hk
  have hkI : KeepI w w' := fun _ _ _ hu => ownsRow_blocks hu (fun k e => by
    obtain ⟨c, hc⟩ := hu.tag e
    rw [hkeep k c hc, hc])
  unfold Oper.wp
  simp [execOp, ho, resolve, invoke, builtin, hs, hx, hrun, Result.andThen]
  refine hK _ _ (h v' w' ?_ ((hb.mono hbase).trans ((Below.refl base _).grown r2 (by simp; omega) (fun k hk => (hown.lt k hk).1))) hkI hkeep)
  unfold OwnsP
  rw [pc_snoc, List.length_append, List.length_singleton]; exact r1
end Go.Proofs.Ytihafckdaecgkaa
