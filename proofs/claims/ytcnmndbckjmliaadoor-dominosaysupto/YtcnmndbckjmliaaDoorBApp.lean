/-
  'append' on a slice of ints that the call itself made.
-/
import Derived.Test.YtcnmndbckjmliaaDoorBOwn
import Derived.ArgAppend
namespace Go.Proofs.YtcnmndbckjmliaaDoor
open Go.RowKit

theorem append_int {w : World} {base : Nat} {v : Value} {zs : List Int} {x : Int} {ops : Array Oper} {rest : List Oper} {o : Oper} {a : Act} {Q : Exit → Act → World → Prop} (hgd : o.guard = none) (s y : Operand)
    (ho : o.op = .call { callee := .builtin .append, args := #[s, y], argTypes := #[57, 57] }) (hs : a.eval s = v) (hown : Owns w base v zs) (hx : a.eval y = .slice (some ⟨w.heap.size, 0, none⟩) 1 1)
    (hl : zs.length ≤ 17592186044414) (hbase : base ≤ w.heap.size)
    (h : ∀ v' w', Owns w' base v' (zs ++ [x]) → Below base w w' → wpList Tryd.prog ops Q rest (a.put o.dst v') w') :
    wpList Tryd.prog ops Q (o :: rest) a (w.alloc (.cells #[.int .i64 x] 3)) := by
  obtain ⟨i0, hi, hz0, hz1, hz2⟩ := info_parts Tryd.info3
  have hown0 := hown
  refine wpList_append_own _ hgd s y 57 ho base 3 i0 (.int .i64 0) 1 8 Tryd.underlying57 hi hz0 hz1 hz2 rfl (by decide) v zs.length (zs.map (Value.int .i64)) hs (World.ownsRow.alloc hown _) ⟨w.heap.size, 0, none⟩ 1 1 [.int .i64 x] hx rfl
    (fun j u hj => ?_) (fun u hu => ?_) (by unfold maxLen; omega) (by omega) (by simp; omega) (fun v' w' ho' hg' _ => h v' w' ?_ ?_)
  · match j, hj with
    | 0, hj => simp at hj; subst hj; rw [Addr.add_lit, World.cell?_alloc_at _ _ _ _ rfl]; rfl
  · simp at hu; subst hu; rfl
  · unfold Owns
    simp only [List.length_append, List.map_append, List.length_singleton, List.map_cons, List.map_nil]
    exact ho'
  · refine (((Below.refl base w).alloc hbase _).grown hg' (by simp; omega) (fun k hk => ?_))
    rcases hown0.2 with ⟨h2, _⟩ | ⟨g, cap, cur, hv, hg, _⟩
    · subst h2; cases hk
    · subst hv; simp [Value.ownBlock] at hk; omega

/-- Two slices that lie in no block together. -/
def Apart (v u : Value) : Prop := ∀ g, v.ownBlock = some g → u.ownBlock ≠ some g

theorem Apart.symm {v u : Value} (h : Apart v u) : Apart u v := fun g h1 h2 => h g h2 h1

theorem apart_nil (u : Value) : Apart (.slice none 0 0) u := fun g h => by cases h

theorem Owns.lt {w : World} {base : Nat} {v : Value} {zs : List Int} (h : Owns w base v zs) {g : Nat} (hg : v.ownBlock = some g) : base ≤ g ∧ g < w.heap.size := World.ownsRow.lt h g hg

/-- What behind an append may be said of any other slice of the call's own. -/
def Keeps (base : Nat) (v v' : Value) (w w' : World) : Prop := ∀ u ys, Owns w base u ys → Apart v u → Owns w' base u ys ∧ Apart v' u

theorem keeps_of {base : Nat} {v v' : Value} {w w' : World} {row : Option Nat} (hg : w.grownBy w' row) (hrow : row = none ∨ row = v.ownBlock) (hv : ∀ g, v'.ownBlock = some g → v.ownBlock = some g ∨ w.heap.size ≤ g) : Keeps base v v' w w' := by
  intro u ys hu ha
  constructor
  · refine World.ownsRow.kept hu hg ?_
    cases e : u.ownBlock with
    | none => exact Or.inl rfl
    | some g =>
      right
      rcases hrow with h | h
      · rw [h]; simp
      · rw [h]; exact fun e2 => ha g e2.symm e
  · intro g h1 h2
    rcases hv g h1 with h | h
    · exact ha g h h2
    · have := (hu.lt h2).2; omega

theorem append_int_own {w : World} {base : Nat} {v : Value} {zs : List Int} {x : Int} {ops : Array Oper} {rest : List Oper} {o : Oper} {a : Act} {Q : Exit → Act → World → Prop} (hgd : o.guard = none) (s y : Operand)
    (ho : o.op = .call { callee := .builtin .append, args := #[s, y], argTypes := #[57, 57] }) (hs : a.eval s = v) (hown : Owns w base v zs) (hx : a.eval y = .slice (some ⟨w.heap.size, 0, none⟩) 1 1)
    (hl : zs.length ≤ 17592186044414) (hbase : base ≤ w.heap.size)
    (h : ∀ v' w', Owns w' base v' (zs ++ [x]) → Below base w w' → Keeps base v v' w w' → wpList Tryd.prog ops Q rest (a.put o.dst v') w') :
    wpList Tryd.prog ops Q (o :: rest) a (w.alloc (.cells #[.int .i64 x] 3)) := by
  obtain ⟨i0, hi, hz0, hz1, hz2⟩ := info_parts Tryd.info3
  have hnew : ∀ j u, [Value.int .i64 x][j]? = some u → (w.alloc (.cells #[.int .i64 x] 3)).cell? ((⟨w.heap.size, 0, none⟩ : Addr).add j) = some u := by
    intro j u hj
    match j, hj with
    | 0, hj => simp at hj; subst hj; rw [Addr.add_lit, World.cell?_alloc_at _ _ _ _ rfl]; rfl
  have hone : ∀ u ∈ [Value.int .i64 x], u.oneCell' = true := fun u hu => by simp at hu; subst hu; rfl
  have hal : w.grownBy (w.alloc (.cells #[.int .i64 x] 3)) none := World.grownBy_alloc _ _ _
  have htr : ∀ (w' : World) (row : Option Nat), (w.alloc (.cells #[.int .i64 x] 3)).grownBy w' row → w.grownBy w' row := fun w' row hg =>
    ⟨hg.os, hg.tape, hg.output, by have := hg.size; simp at this; omega, fun k hk hne => (hg.block k (by simp; omega) hne).trans (hal.block k hk (by simp))⟩
  rcases hown.2 with ⟨hv, h0⟩ | ⟨g, cap, cur, hv, hg, hh, hnc, hcm, hcs, htk⟩
  · obtain rfl : zs = [] := List.eq_nil_of_length_eq_zero h0
    refine wpList_append_own _ hgd s y 57 ho w.heap.size 3 i0 (.int .i64 0) 1 8 Tryd.underlying57 hi hz0 hz1 hz2 rfl (by decide) v 0 [] hs (by rw [hv]; exact World.ownsRow_nil _ _ _ _) ⟨w.heap.size, 0, none⟩ 1 1 [.int .i64 x] hx rfl
      hnew hone (by unfold maxLen; omega) (by omega) (by simp) (fun v' w' ho' hg' _ => ?_)
    have hg2 := htr _ _ hg'
    have hO : Owns w' w.heap.size v' ([] ++ [x]) := ho'
    refine h v' w' (hO.mono hbase) ((Below.refl base w).grown hg2 hbase (fun k hk => by rw [hv] at hk; cases hk)) (keeps_of hg2 (Or.inr rfl) (fun g hg => Or.inr ((hO.lt hg).1)))
  · have hlt : g < w.heap.size := (hown.lt (g := g) (by rw [hv]; rfl)).2
    by_cases hroom : zs.length + 1 ≤ cap
    · refine wpList_append_fits _ hgd s y 57 ho base 3 i0 1 Tryd.underlying57 hi hz1 g zs.length cap (zs.map (Value.int .i64)) (by rw [hs, hv]) (by rw [← hv]; exact World.ownsRow.alloc hown _) ⟨w.heap.size, 0, none⟩ 1 1 [.int .i64 x] hx rfl
        hnew hone hroom (fun w' ho' hg' => ?_)
      have hg2 := htr _ _ hg'
      refine h _ w' ?_ ((Below.refl base w).grown hg2 hbase (fun k hk => by cases hk; exact hg)) (keeps_of hg2 (Or.inr (by rw [hv]; rfl)) (fun g' hg' => Or.inl (by rw [hv]; exact hg')))
      unfold Owns
      simp only [List.length_append, List.map_append, List.length_singleton, List.map_cons, List.map_nil]
      exact ho'
    · refine wpList_append_grows _ hgd s y 57 ho 3 i0 (.int .i64 0) 1 8 Tryd.underlying57 hi hz0 hz1 hz2 rfl (by decide) (some ⟨g, 0, none⟩) zs.length cap (zs.map (Value.int .i64)) (by rw [hs, hv]) (fun e => by cases e) (by simp)
        (fun b hb j u hj => ?_) ⟨w.heap.size, 0, none⟩ 1 1 [.int .i64 x] hx rfl hnew hone (by omega) (by unfold maxLen; omega) (by omega) (fun v' w' ho' hg' => ?_)
      · cases hb
        have hj' : j < zs.length := by have := (List.getElem?_eq_some_iff.1 hj).1; simpa using this
        have hown' := hown
        rw [hv] at hown'
        rw [Addr.add_lit, Nat.zero_add, World.cell?_alloc_past _ _ _ hlt, World.ownsRow.cellAt hown' j (by omega)]
        exact hj
      · have hg2 := htr _ _ hg'
        have hO : Owns w' (w.heap.size + 1) v' (zs ++ [x]) := by
          unfold Owns
          simp only [List.length_append, List.map_append, List.length_singleton, List.map_cons, List.map_nil]
          simpa using ho'
        exact h v' w' (hO.mono (by omega)) ((Below.refl base w).grown hg2 hbase (fun k hk => by cases hk)) (keeps_of hg2 (Or.inl rfl) (fun g hg => Or.inr (by have := (hO.lt hg).1; omega)))

theorem src_cells {w : World} {a : Addr} {ys : List Int} (h : Shows w (some a) ys) : ∀ j u, (ys.map (Value.int .i64))[j]? = some u → w.cell? (a.add j) = some u := by
  intro j u hj
  have hj' : j < ys.length := by have := (List.getElem?_eq_some_iff.1 hj).1; simpa using this
  obtain ⟨b, off, ha, _, hc⟩ := h.cells (fun e => by subst e; simp at hj')
  cases ha
  rw [Addr.add_lit, hc j hj', ← hj]; simp [List.getD, List.getElem?_eq_getElem hj']

theorem run_append_src {w : World} {base : Nat} {v : Value} {zs ys : List Int} {a : Option Addr} {c : Nat} (ty : TypeId) (hown : Owns w base v zs) (hsrc : Shows w a ys) (hn : a = none → ys = [] ∧ c = 0) (hl : zs.length + ys.length ≤ 17592186044414) (hbase : base ≤ w.heap.size) :
    ∃ v' w', (Builtin.append_ #[57, 57] ty #[v, .slice a ys.length c]).run Tryd.prog w = .ok v' w' ∧ Owns w' base v' (zs ++ ys) ∧ Below base w w' ∧ Keeps base v v' w w' := by
  obtain ⟨i0, hi, hz0, hz1, hz2⟩ := info_parts Tryd.info3
  have mk : ∀ {b v' w'}, w'.ownsRow b 3 1 v' (zs.length + ys.length) (zs.map (Value.int .i64) ++ ys.map (Value.int .i64)) → Owns w' b v' (zs ++ ys) := fun {b v' w'} h => by
    unfold Owns; rw [List.length_append, List.map_append]; exact h
  cases a with
  | none =>
    obtain ⟨rfl, rfl⟩ := hn rfl
    refine ⟨v, w, run_append_owned_none (P := Tryd.prog) w base 57 ty 3 i0 1 Tryd.underlying57 hi v zs.length _ hown, by simpa using hown, Below.refl _ _, fun u ys hu ha => ⟨hu, ha⟩⟩
  | some ad =>
    have hcs := src_cells hsrc
    rcases hown.2 with ⟨hv, h0⟩ | ⟨g, cap, cur, hv, hg, hh, hnc, hcm, hcs', htk⟩
    · obtain rfl : zs = [] := List.eq_nil_of_length_eq_zero h0
      obtain ⟨v', w', hrun, r1, r2, _⟩ := run_append_own (P := Tryd.prog) w w.heap.size 57 ty 3 i0 (.int .i64 0) 1 8 Tryd.underlying57 hi hz0 hz1 hz2 rfl (by decide) v 0 [] (by rw [hv]; exact World.ownsRow_nil _ _ _ _) ad ys.length c (ys.map (Value.int .i64)) (by simp) hcs (ints_oneCell _ _) (by unfold maxLen; omega) (by simp at hl; omega) (Nat.le_refl _)
      have hO : Owns w' w.heap.size v' ([] ++ ys) := mk (by simpa using r1)
      exact ⟨v', w', hrun, hO.mono hbase, (Below.refl base w).grown r2 hbase (fun k hk => by rw [hv] at hk; cases hk), keeps_of r2 (Or.inr rfl) (fun g hg => Or.inr (hO.lt hg).1)⟩
    · by_cases hroom : zs.length + ys.length ≤ cap
      · rw [hv] at hown
        obtain ⟨w', hrun, r1, r2⟩ := run_append_fits (P := Tryd.prog) w base 57 ty 3 i0 1 Tryd.underlying57 hi hz1 g zs.length cap (zs.map (Value.int .i64)) hown ad ys.length c (ys.map (Value.int .i64)) (by simp) hcs (ints_oneCell _ _) hroom
        exact ⟨_, w', by rw [hv]; exact hrun, mk r1, (Below.refl base w).grown r2 hbase (fun k hk => by cases hk; exact hg), keeps_of r2 (Or.inr (by rw [hv]; rfl)) (fun g' hg' => Or.inl (by rw [hv]; exact hg'))⟩
      · have hown' := hown
        rw [hv] at hown'
        obtain ⟨v', w', hrun, r1, r2⟩ := run_append_arg_grows (P := Tryd.prog) w 57 ty 3 i0 (.int .i64 0) 1 8 Tryd.underlying57 hi hz0 hz1 hz2 rfl (by decide) ⟨g, 0, none⟩ zs.length cap (zs.map (Value.int .i64)) (by simp)
          (fun j u hj => by
            have hj' : j < zs.length := by have := (List.getElem?_eq_some_iff.1 hj).1; simpa using this
            rw [Addr.add_lit, Nat.zero_add, World.ownsRow.cellAt hown' j (by omega)]; exact hj)
          ad ys.length c (ys.map (Value.int .i64)) (by simp) hcs (by omega) (by unfold maxLen; omega) (by omega)
        have hO : Owns w' w.heap.size v' (zs ++ ys) := mk r1
        exact ⟨v', w', by rw [hv]; exact hrun, hO.mono hbase, (Below.refl base w).grown r2 hbase (fun k hk => by cases hk), keeps_of r2 (Or.inl rfl) (fun g hg => Or.inr (hO.lt hg).1)⟩

/-- The law in the walk. -/
theorem append_src {w : World} {base : Nat} {v : Value} {zs ys : List Int} {ad : Option Addr} {m c : Nat} {ops : Array Oper} {rest : List Oper} {o : Oper} {a : Act} {Q : Exit → Act → World → Prop} (hgd : o.guard = none) (s y : Operand)
    (ho : o.op = .call { callee := .builtin .append, args := #[s, y], argTypes := #[57, 57] }) (hs : a.eval s = v) (hx : a.eval y = .slice ad m c) (hown : Owns w base v zs) (hsrc : Shows w ad ys) (hm : m = ys.length) (hn : ad = none → ys = [] ∧ c = 0)
    (hl : zs.length + ys.length ≤ 17592186044414) (hbase : base ≤ w.heap.size)
    (h : ∀ v' w', Owns w' base v' (zs ++ ys) → Below base w w' → Keeps base v v' w w' → wpList Tryd.prog ops Q rest (a.put o.dst v') w') :
    wpList Tryd.prog ops Q (o :: rest) a w := by
  subst hm
  refine wpList_plain hgd fun K hK => ?_
  obtain ⟨v', w', hrun, r1, r2, r3⟩ := run_append_src o.type hown hsrc hn hl hbase
  unfold Oper.wp
  simp [execOp, ho, resolve, invoke, builtin, hs, hx, hrun, Result.andThen]
  exact hK _ _ (h v' w' r1 r2 r3)

/-- The law in a region that draws its order. -/
theorem step_src {w : World} {base : Nat} {v : Value} {zs ys : List Int} {ad : Option Addr} {m c : Nat} {ops : Array Oper} {o : Oper} {a : Act} {K : Act → World → Prop} {Q : Exit → Act → World → Prop} {E : Prop} (hgd : o.guard = none) (s y : Operand)
    (ho : o.op = .call { callee := .builtin .append, args := #[s, y], argTypes := #[57, 57] }) (hs : a.eval s = v) (hx : a.eval y = .slice ad m c) (hown : Owns w base v zs) (hsrc : Shows w ad ys) (hm : m = ys.length) (hn : ad = none → ys = [] ∧ c = 0)
    (hl : zs.length + ys.length ≤ 17592186044414) (hbase : base ≤ w.heap.size)
    (h : ∀ v' w', Owns w' base v' (zs ++ ys) → Below base w w' → Keeps base v v' w w' → K (a.put o.dst v') w') :
    if Region.wanted o (yielded ops a.tmps) = true then Oper.wp Tryd.prog o a w K Q else E := by
  subst hm
  have hw : Region.wanted o (yielded ops a.tmps) = true := by simp [Region.wanted, hgd]
  rw [if_pos hw]
  obtain ⟨v', w', hrun, r1, r2, r3⟩ := run_append_src o.type hown hsrc hn hl hbase
  unfold Oper.wp
  simp [execOp, ho, resolve, invoke, builtin, hs, hx, hrun, Result.andThen]
  exact h v' w' r1 r2 r3

/-- 'append(out, x)', the new block's number said by the caller. -/
theorem append_int_at {w : World} {base N : Nat} {v : Value} {zs : List Int} {x : Int} {ops : Array Oper} {rest : List Oper} {o : Oper} {a : Act} {Q : Exit → Act → World → Prop} (hgd : o.guard = none) (s y : Operand)
    (ho : o.op = .call { callee := .builtin .append, args := #[s, y], argTypes := #[57, 57] }) (hs : a.eval s = v) (hx : a.eval y = .slice (some ⟨N, 0, none⟩) 1 1) (hN : N = w.heap.size) (hown : Owns w base v zs)
    (hl : zs.length ≤ 17592186044414) (hbase : base ≤ w.heap.size)
    (h : ∀ v' w', Owns w' base v' (zs ++ [x]) → Below base w w' → Keeps base v v' w w' → wpList Tryd.prog ops Q rest (a.put o.dst v') w') :
    wpList Tryd.prog ops Q (o :: rest) a (w.alloc (.cells #[.int .i64 x] 3)) := by
  subst hN
  exact append_int_own hgd s y ho hs hown hx hl hbase h

end Go.Proofs.YtcnmndbckjmliaaDoor
