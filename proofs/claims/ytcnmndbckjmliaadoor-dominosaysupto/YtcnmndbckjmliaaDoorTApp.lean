/-
  'append' with all that it leaves as it was, block by block.
-/
import Derived.Test.YtcnmndbckjmliaaDoorBApp
namespace Go.Proofs.YtcnmndbckjmliaaDoor
open Go.RowKit


theorem ownsRow_down {w : World} {lo lo' : Nat} {e : TypeId} {s n : Nat} {v : Value} {xs : List Value} (h : w.ownsRow lo e s v n xs) (hl : lo' ≤ lo) : w.ownsRow lo' e s v n xs := by
  obtain ⟨h1, h2⟩ := h
  refine ⟨h1, ?_⟩
  rcases h2 with h2 | ⟨g, cap, cur, hv, hg, r⟩
  · exact Or.inl h2
  · exact Or.inr ⟨g, cap, cur, hv, by omega, r⟩

/-- What an append leaves as it was, block by block, and where the new slice lies. -/
structure KeepB (v v' : Value) (w w' : World) : Prop where
  size : w.heap.size ≤ w'.heap.size
  block : ∀ k, k < w.heap.size → v.ownBlock ≠ some k → w'.heap[k]? = w.heap[k]?
  lies : ∀ g, v'.ownBlock = some g → v.ownBlock = some g ∨ w.heap.size ≤ g

theorem keepB_of {v v' : Value} {w w' : World} {r : Option Nat} (hg : w.grownBy w' r) (hrow : r = none ∨ r = v.ownBlock) (hv : ∀ g, v'.ownBlock = some g → v.ownBlock = some g ∨ w.heap.size ≤ g) : KeepB v v' w w' := by
  refine ⟨hg.size, fun k hk hn => hg.block k hk ?_, hv⟩
  rcases hrow with h | h
  · rw [h]; simp
  · rw [h]; exact fun e => hn e.symm

/-- The facts of an element type of one cell. -/
structure Elem (T E : TypeId) (z : Value) (bytes : Nat) : Prop where
  under : Tryd.prog.underlying T = some (.slice E)
  info : (Tryd.prog.info? E).map (fun i => (i.zero, i.size, i.bytes)) = some (some z, 1, bytes)
  cells : z.cells.size = 1
theorem elem_int : Elem 57 3 (.int .i64 0) 8 := ⟨Tryd.underlying57, Tryd.info3, rfl⟩

theorem run_append_kb {T E : TypeId} {z : Value} {bytes : Nat} (he : Elem T E z bytes) {w : World} {base : Nat} {v : Value} {xs news : List Value} (ty : TypeId) (hown : w.ownsRow base E 1 v xs.length xs) (ad : Addr) (c : Nat)
    (hnews : ∀ j u, news[j]? = some u → w.cell? (ad.add j) = some u) (hone : ∀ u ∈ news, u.oneCell' = true) (h63 : xs.length + news.length ≤ maxLen) (hl : (xs.length + news.length) * bytes ≤ 140737488355328) (hbase : base ≤ w.heap.size) :
    ∃ v' w', (Builtin.append_ #[T, T] ty #[v, .slice (some ad) news.length c]).run Tryd.prog w = .ok v' w' ∧ w'.ownsRow base E 1 v' (xs ++ news).length (xs ++ news) ∧ Below base w w' ∧ KeepB v v' w w' := by
  obtain ⟨i0, hi, hz0, hz1, hz2⟩ := info_parts he.info
  rcases hown.2 with ⟨hv, h0⟩ | ⟨g, cap, cur, hv, hg, hh, hnc, hcm, hcs', htk⟩
  · obtain rfl : xs = [] := List.eq_nil_of_length_eq_zero h0
    obtain ⟨v', w', hrun, r1, r2, _⟩ := run_append_own (P := Tryd.prog) w w.heap.size T ty E i0 z 1 bytes he.under hi hz0 hz1 hz2 he.cells (by decide) v 0 [] (by rw [hv]; exact World.ownsRow_nil _ _ _ _) ad news.length c news (by simp) hnews hone (by simpa using h63) (by simpa using hl) (Nat.le_refl _)
    have r1' : w'.ownsRow w.heap.size E 1 v' ([] ++ news).length ([] ++ news) := by simpa using r1
    exact ⟨v', w', hrun, ownsRow_down r1' hbase, (Below.refl base w).grown r2 hbase (fun k hk => by rw [hv] at hk; cases hk), keepB_of r2 (Or.inr rfl) (fun g hg => Or.inr (r1'.lt g hg).1)⟩
  · by_cases hroom : xs.length + news.length ≤ cap
    · rw [hv] at hown
      obtain ⟨w', hrun, r1, r2⟩ := run_append_fits (P := Tryd.prog) w base T ty E i0 1 he.under hi hz1 g xs.length cap xs hown ad news.length c news (by simp) hnews hone hroom
      exact ⟨_, w', by rw [hv]; exact hrun, by rw [List.length_append]; exact r1, (Below.refl base w).grown r2 hbase (fun k hk => by cases hk; exact hg), keepB_of r2 (Or.inr (by rw [hv]; rfl)) (fun g' hg' => Or.inl (by rw [hv]; exact hg'))⟩
    · have hown' := hown
      rw [hv] at hown'
      obtain ⟨v', w', hrun, r1, r2⟩ := run_append_arg_grows (P := Tryd.prog) w T ty E i0 z 1 bytes he.under hi hz0 hz1 hz2 he.cells (by decide) ⟨g, 0, none⟩ xs.length cap xs (by simp)
        (fun j u hj => by
          have hj' : j < xs.length := (List.getElem?_eq_some_iff.1 hj).1
          rw [Addr.add_lit, Nat.zero_add, World.ownsRow.cellAt hown' j (by omega)]; exact hj)
        ad news.length c news (by simp) hnews (by omega) h63 hl
      have r1' : w'.ownsRow w.heap.size E 1 v' (xs ++ news).length (xs ++ news) := by rw [List.length_append]; exact r1
      exact ⟨v', w', by rw [hv]; exact hrun, ownsRow_down r1' hbase, (Below.refl base w).grown r2 hbase (fun k hk => by cases hk), keepB_of r2 (Or.inl rfl) (fun g hg => Or.inr (r1'.lt g hg).1)⟩

/-- One element, laid into a new block just before. -/
theorem run_append_one {T E : TypeId} {z : Value} {bytes : Nat} (he : Elem T E z bytes) {w : World} {base N : Nat} {v x : Value} {xs : List Value} (ty : TypeId) (hown : w.ownsRow base E 1 v xs.length xs) (hN : N = w.heap.size)
    (hx : x.oneCell' = true) (h63 : xs.length + 1 ≤ maxLen) (hl : (xs.length + 1) * bytes ≤ 140737488355328) (hbase : base ≤ w.heap.size) :
    ∃ v' w', (Builtin.append_ #[T, T] ty #[v, .slice (some ⟨N, 0, none⟩) 1 1]).run Tryd.prog (w.alloc (.cells #[x] E)) = .ok v' w' ∧ w'.ownsRow base E 1 v' (xs ++ [x]).length (xs ++ [x]) ∧ Below base w w' ∧ KeepB v v' w w' := by
  subst hN
  have hnew : ∀ j u, [x][j]? = some u → (w.alloc (.cells #[x] E)).cell? ((⟨w.heap.size, 0, none⟩ : Addr).add j) = some u := by
    intro j u hj
    match j, hj with
    | 0, hj => simp at hj; subst hj; rw [Addr.add_lit, World.cell?_alloc_at _ _ _ _ rfl]; rfl
  obtain ⟨v', w', hrun, r1, r2, r3⟩ := run_append_kb he ty (hown.alloc (.cells #[x] E)) ⟨w.heap.size, 0, none⟩ 1 hnew (fun u hu => by simp at hu; subst hu; exact hx) h63 hl (by simp; omega)
  refine ⟨v', w', hrun, r1, ((Below.refl base w).alloc hbase _).trans r2, ⟨?_, fun k hk hn => ?_, fun g hg => ?_⟩⟩
  · have := r3.size; simp at this; omega
  · rw [r3.block k (by simp; omega) hn]; exact Below.heap_alloc w _ k hk
  · rcases r3.lies g hg with h | h
    · exact Or.inl h
    · right; simp at h; omega

theorem append_one {T E : TypeId} {z : Value} {bytes : Nat} (he : Elem T E z bytes) {w : World} {base N : Nat} {v x : Value} {xs : List Value} {ops : Array Oper} {rest : List Oper} {o : Oper} {a : Act} {Q : Exit → Act → World → Prop} (hgd : o.guard = none) (s y : Operand)
    (ho : o.op = .call { callee := .builtin .append, args := #[s, y], argTypes := #[T, T] }) (hs : a.eval s = v) (hx : a.eval y = .slice (some ⟨N, 0, none⟩) 1 1) (hN : N = w.heap.size) (hown : w.ownsRow base E 1 v xs.length xs) (hx1 : x.oneCell' = true)
    (h63 : xs.length + 1 ≤ maxLen) (hl : (xs.length + 1) * bytes ≤ 140737488355328) (hbase : base ≤ w.heap.size)
    (h : ∀ v' w', w'.ownsRow base E 1 v' (xs ++ [x]).length (xs ++ [x]) → Below base w w' → KeepB v v' w w' → wpList Tryd.prog ops Q rest (a.put o.dst v') w') :
    wpList Tryd.prog ops Q (o :: rest) a (w.alloc (.cells #[x] E)) := by
  refine wpList_plain hgd fun K hK => ?_
  obtain ⟨v', w', hrun, r1, r2, r3⟩ := run_append_one he o.type hown hN hx1 h63 hl hbase
  unfold Oper.wp
  simp [execOp, ho, resolve, invoke, builtin, hs, hx, hrun, Result.andThen]
  exact hK _ _ (h v' w' r1 r2 r3)

/-- The same in a region that draws its order. -/
theorem step_one {T E : TypeId} {z : Value} {bytes : Nat} (he : Elem T E z bytes) {w : World} {base N : Nat} {v x : Value} {xs : List Value} {ops : Array Oper} {o : Oper} {a : Act} {K : Act → World → Prop} {Q : Exit → Act → World → Prop} {EE : Prop} (hgd : o.guard = none) (s y : Operand)
    (ho : o.op = .call { callee := .builtin .append, args := #[s, y], argTypes := #[T, T] }) (hs : a.eval s = v) (hx : a.eval y = .slice (some ⟨N, 0, none⟩) 1 1) (hN : N = w.heap.size) (hown : w.ownsRow base E 1 v xs.length xs) (hx1 : x.oneCell' = true)
    (h63 : xs.length + 1 ≤ maxLen) (hl : (xs.length + 1) * bytes ≤ 140737488355328) (hbase : base ≤ w.heap.size)
    (h : ∀ v' w', w'.ownsRow base E 1 v' (xs ++ [x]).length (xs ++ [x]) → Below base w w' → KeepB v v' w w' → K (a.put o.dst v') w') :
    if Region.wanted o (yielded ops a.tmps) = true then Oper.wp Tryd.prog o a (w.alloc (.cells #[x] E)) K Q else EE := by
  have hw : Region.wanted o (yielded ops a.tmps) = true := by simp [Region.wanted, hgd]
  rw [if_pos hw]
  obtain ⟨v', w', hrun, r1, r2, r3⟩ := run_append_one he o.type hown hN hx1 h63 hl hbase
  unfold Oper.wp
  simp [execOp, ho, resolve, invoke, builtin, hs, hx, hrun, Result.andThen]
  exact h v' w' r1 r2 r3

theorem owns_of_vals {w : World} {base : Nat} {v : Value} {zs : List Int} {x : Int} (h : w.ownsRow base 3 1 v (zs.map (Value.int .i64) ++ [Value.int .i64 x]).length (zs.map (Value.int .i64) ++ [Value.int .i64 x])) : Owns w base v (zs ++ [x]) := by
  unfold Owns
  rw [List.map_append, List.length_append]
  simpa using h
theorem vals_of_owns {w : World} {base : Nat} {v : Value} {zs : List Int} (h : Owns w base v zs) : w.ownsRow base 3 1 v (zs.map (Value.int .i64)).length (zs.map (Value.int .i64)) := by
  rw [List.length_map]; exact h

theorem ownsRow_blocks {w w' : World} {lo : Nat} {e : TypeId} {s n : Nat} {v : Value} {xs : List Value} (h : w.ownsRow lo e s v n xs) (hk : ∀ k, v.ownBlock = some k → w'.heap[k]? = w.heap[k]?) : w'.ownsRow lo e s v n xs := by
  obtain ⟨h1, h2⟩ := h
  refine ⟨h1, ?_⟩
  rcases h2 with h2 | ⟨g, cap, cur, hv, hg, hh, r⟩
  · exact Or.inl h2
  · exact Or.inr ⟨g, cap, cur, hv, hg, by rw [hk g (by rw [hv]; rfl)]; exact hh, r⟩

end Go.Proofs.YtcnmndbckjmliaaDoor
