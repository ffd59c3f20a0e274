/-
  Tables that the call itself made; an array of 41 ints that are 0 or 1; the blocks with heads from some number on.
-/
import Derived.Test.YtnjbkiegeielhabRArr
import Derived.Test.YtnjbkiegeielhabFJoi
namespace Go.Proofs.Ytnjbkiegeielhab
open Go.RowKit

theorem Try.info22 : (Try.prog.info? 22).map (fun i => (i.zero, i.size, i.bytes)) = some (some (.slice none 0 0), 1, 24) := by kernel_rfl

def bI (b : Bool) : Int := if b then 1 else 0
def cellsI (f : Nat → Bool) : Array Value := ((List.range 41).map fun j => Value.int .i64 (bI (f j))).toArray
theorem cellsI_get (f : Nat → Bool) (j : Nat) (hj : j < 41) : (cellsI f)[j]? = some (.int .i64 (bI (f j))) := by
  simp [cellsI, hj]
theorem cellsI_congr {f g : Nat → Bool} (h : ∀ j, j < 41 → f j = g j) : cellsI f = cellsI g := by
  unfold cellsI
  congr 1
  apply List.map_congr_left
  intro j hj
  rw [h j (List.mem_range.1 hj)]
theorem cellsI_set (f : Nat → Bool) (j : Nat) : (cellsI f).setIfInBounds j (.int .i64 1) = cellsI (updB f j true) := by
  apply Array.ext_getElem?
  intro i
  by_cases hi : i < 41
  · rw [cellsI_get _ _ hi]
    by_cases e : i = j
    · subst e
      rw [Array.getElem?_setIfInBounds_self_of_lt (by simpa [cellsI] using hi)]
      simp [updB, bI]
    · rw [Array.getElem?_setIfInBounds_ne (by omega), cellsI_get _ _ hi]
      simp [updB, e]
  · rw [Array.getElem?_eq_none (by simp [cellsI]; omega), Array.getElem?_eq_none (by simp [cellsI]; omega)]

/-- Block g holds the marks f. -/
def ArrI (w : World) (g : Nat) (f : Nat → Bool) : Prop := w.heap[g]? = some (.cells (cellsI f) 54 (0, 0))
theorem ArrI.cell {w : World} {g : Nat} {f : Nat → Bool} (h : ArrI w g f) {j : Nat} (hj : j < 41) : w.cell? ⟨g, j, none⟩ = some (.int .i64 (bI (f j))) := by
  rw [cell_of_row w g j _ _ _ h, cellsI_get _ _ hj]
theorem ArrI.frozen {w : World} {g : Nat} {f : Nat → Bool} (h : ArrI w g f) (j : Nat) : w.frozen? ⟨g, j, none⟩ = false := frozen_of_row w g j _ _ h
theorem ArrI.store {w : World} {g : Nat} {f : Nat → Bool} (h : ArrI w g f) (j : Nat) : ArrI (w.setCell ⟨g, j, none⟩ (.int .i64 1)) g (updB f j true) := by
  unfold ArrI
  rw [heap_setCell_same w g j _ 54 _ h, cellsI_set]
theorem ArrI.congr {w : World} {g : Nat} {f f' : Nat → Bool} (h : ArrI w g f) (he : ∀ j, j < 41 → f j = f' j) : ArrI w g f' := by
  unfold ArrI; rw [← cellsI_congr he]; exact h
theorem ArrI.same {w w' : World} {g : Nat} {f : Nat → Bool} (h : ArrI w g f) (he : w'.heap[g]? = w.heap[g]?) : ArrI w' g f := by
  unfold ArrI; rw [he]; exact h

/-- Blocks under H, but for g, are as they were. -/
def Mid (g H : Nat) (w w' : World) : Prop := w.heap.size ≤ w'.heap.size ∧ ∀ k, k < H → k ≠ g → w'.heap[k]? = w.heap[k]?
theorem Mid.refl (g H : Nat) (w : World) : Mid g H w w := ⟨Nat.le_refl _, fun _ _ _ => rfl⟩
theorem Mid.setCell {g H : Nat} {w w' : World} (h : Mid g H w w') (j : Nat) (u : Value) : Mid g H w (w'.setCell ⟨g, j, none⟩ u) :=
  ⟨by simpa using h.1, fun k hk hn => by rw [heap_setCell_other _ _ _ _ hn]; exact h.2 k hk hn⟩
theorem Mid.below {g H : Nat} {w w' w2 : World} (h : Mid g H w w') (hb : Below H w' w2) : Mid g H w w2 :=
  ⟨Nat.le_trans h.1 hb.size, fun k hk hn => by rw [hb.block k hk]; exact h.2 k hk hn⟩

theorem ownsRow_same {w w' : World} {lo : Nat} {e : TypeId} {s n : Nat} {v : Value} {xs : List Value} (h : w.ownsRow lo e s v n xs) (hk : ∀ k, lo ≤ k → k < w.heap.size → w'.heap[k]? = w.heap[k]?) : w'.ownsRow lo e s v n xs := by
  obtain ⟨h1, h2⟩ := h
  refine ⟨h1, ?_⟩
  rcases h2 with h2 | ⟨g, cap, cur, hv, hg, hh, r⟩
  · exact Or.inl h2
  · exact Or.inr ⟨g, cap, cur, hv, hg, by rw [hk g hg (Array.getElem?_eq_some_iff.1 hh).1]; exact hh, r⟩

theorem ownsRow_down {w : World} {lo lo' : Nat} {e : TypeId} {s n : Nat} {v : Value} {xs : List Value} (h : w.ownsRow lo e s v n xs) (hl : lo' ≤ lo) : w.ownsRow lo' e s v n xs := by
  obtain ⟨h1, h2⟩ := h
  refine ⟨h1, ?_⟩
  rcases h2 with h2 | ⟨g, cap, cur, hv, hg, r⟩
  · exact Or.inl h2
  · exact Or.inr ⟨g, cap, cur, hv, by omega, r⟩

/-- v owns the rows ls, in blocks from lo on. -/
def Tab (w : World) (lo : Nat) (v : Value) (ls : List (List Int)) : Prop :=
  ∃ vs : List Value, w.ownsRow lo 22 1 v ls.length vs ∧ ∀ i, i < ls.length → ∃ u, vs[i]? = some u ∧ Owns w lo u (ls.getD i [])
theorem Tab.nil (w : World) (lo : Nat) : Tab w lo (.slice none 0 0) [] := ⟨[], World.ownsRow_nil _ _ _ _, fun i h => absurd h (by simp)⟩
theorem Tab.same {w w' : World} {lo : Nat} {v : Value} {ls : List (List Int)} (h : Tab w lo v ls) (hk : ∀ k, lo ≤ k → k < w.heap.size → w'.heap[k]? = w.heap[k]?) : Tab w' lo v ls := by
  obtain ⟨vs, h1, h2⟩ := h
  refine ⟨vs, ownsRow_same h1 hk, fun i hi => ?_⟩
  obtain ⟨u, hu, ho⟩ := h2 i hi
  exact ⟨u, hu, ownsRow_same ho hk⟩
theorem Tab.mono {w : World} {lo lo' : Nat} {v : Value} {ls : List (List Int)} (h : Tab w lo v ls) (hl : lo' ≤ lo) : Tab w lo' v ls := by
  obtain ⟨vs, h1, h2⟩ := h
  refine ⟨vs, ownsRow_down h1 hl, fun i hi => ?_⟩
  obtain ⟨u, hu, ho⟩ := h2 i hi
  exact ⟨u, hu, ho.mono hl⟩

/-- As an argument it is a table. -/
theorem Tab.table {w : World} {lo : Nat} {v : Value} {ls : List (List Int)} (h : Tab w lo v ls) (hl : ∀ l ∈ ls, l.length ≤ 17592186044416 ∧ ∀ z ∈ l, -9223372036854775808 ≤ z ∧ z ≤ 9223372036854775807) :
    ∃ a cap, v = .slice a ls.length cap ∧ Table w a ls := by
  obtain ⟨vs, h1, h2⟩ := h
  have h0 := h1
  rcases h1.2 with ⟨hv, hn⟩ | ⟨g, cap, cur, hv, hg, hh, _⟩
  · exact ⟨none, 0, by rw [hv, hn], fun i hi => by omega⟩
  · subst hv
    refine ⟨_, cap, rfl, fun i hi => ?_⟩
    obtain ⟨u, hu, ho⟩ := h2 i hi
    have hm : ls.getD i [] ∈ ls := by simp [List.getD, List.getElem?_eq_getElem hi]
    obtain ⟨ai, ci, hui, hS⟩ := ho.shows (hl _ hm).1 (hl _ hm).2
    refine ⟨g, 0, ai, ci, rfl, (Array.getElem?_eq_some_iff.1 hh).1, ?_, hS, fun hn => ?_⟩
    · rw [Nat.zero_add, World.ownsRow.cellAt h0 i (by omega), hu, hui]
    · subst hn
      rcases ho.2 with ⟨h3, h4⟩ | ⟨g3, cap3, cur3, h3, _⟩
      · rw [hui] at h3
        simp only [Value.slice.injEq] at h3
        exact ⟨List.eq_nil_of_length_eq_zero h4, h3.2.2⟩
      · rw [hui] at h3; simp at h3

/-- 'append([][]int{l}, out...)'. -/
theorem append_front {w : World} {lo : Nat} {v u : Value} {ls : List (List Int)} {l : List Int} {ops : Array Oper} {rest : List Oper} {o : Oper} {a : Act} {Q : Exit → Act → World → Prop} (hgd : o.guard = none) (s y : Operand)
    (ho : o.op = .call { callee := .builtin .append, args := #[s, y], argTypes := #[43, 43] }) (hs : a.eval s = .slice (some ⟨w.heap.size, 0, none⟩) 1 1) (hx : a.eval y = v) (hT : Tab w lo v ls) (hO : Owns w lo u l)
    (hl : ls.length ≤ 1000) (hlo : lo ≤ w.heap.size)
    (h : ∀ v' w', Tab w' lo v' (l :: ls) → Below w.heap.size w w' → wpList Try.prog ops Q rest (a.put o.dst v') w') :
    wpList Try.prog ops Q (o :: rest) a (w.alloc (.cells #[u] 22)) := by
  obtain ⟨i0, hi, hz0, hz1, hz2⟩ := info_parts Try.info22
  obtain ⟨vs, h1, h2⟩ := hT
  have hA : (w.alloc (.cells #[u] 22)).ownsRow w.heap.size 22 1 (.slice (some ⟨w.heap.size, 0, none⟩) 1 1) 1 [u] := by
    refine ⟨by simp, Or.inr ⟨w.heap.size, 1, #[u], rfl, Nat.le_refl _, ?_, Nat.le_refl _, by unfold maxLen; omega, rfl, rfl⟩⟩
    show (w.heap.push (.cells #[u] 22 (0, 0)))[w.heap.size]? = _
    simp
  have key : ∃ v' w', (Builtin.append_ #[43, 43] o.type #[.slice (some ⟨w.heap.size, 0, none⟩) 1 1, v]).run Try.prog (w.alloc (.cells #[u] 22)) = .ok v' w' ∧ w'.ownsRow w.heap.size 22 1 v' (1 + ls.length) (u :: vs) ∧ Below w.heap.size w w' := by
    rcases h1.2 with ⟨hv, hn⟩ | ⟨g, cap, cur, hv, hg, hh, _⟩
    · refine ⟨_, _, by rw [hv]; exact run_append_owned_none (P := Try.prog) _ w.heap.size 43 o.type 22 i0 1 Try.underlying43 hi _ 1 _ hA, ?_, (Below.refl _ _).alloc (Nat.le_refl _) _⟩
      have : vs = [] := List.eq_nil_of_length_eq_zero (by rw [h1.1, hn])
      rw [this, hn]; exact hA
    · subst hv
      have hc := World.ownsRow.cells (World.ownsRow.alloc h1 (.cells #[u] 22)) (g := g) rfl
      obtain ⟨v', w', hrun, r1, r2, _⟩ := run_append_own (P := Try.prog) (w.alloc (.cells #[u] 22)) w.heap.size 43 o.type 22 i0 (.slice none 0 0) 1 24 Try.underlying43 hi hz0 hz1 hz2 rfl (by decide) _ 1 [u] hA ⟨g, 0, none⟩ ls.length cap vs (by rw [h1.1]) hc
        (fun x hx => by
          obtain ⟨i, hi, rfl⟩ := List.mem_iff_getElem.1 hx
          obtain ⟨y, hy, hoy⟩ := h2 i (by rw [h1.1] at hi; omega)
          rw [List.getElem?_eq_getElem hi] at hy
          obtain ⟨ay, cy, he⟩ := hoy.shape
          rw [Option.some.inj hy, he]; rfl) (by unfold maxLen; omega) (by omega) (by simp)
      exact ⟨v', w', hrun, r1, ((Below.refl _ _).alloc (Nat.le_refl _) _).grown r2 (by simp) (fun k hk => by cases hk; exact Nat.le_refl _)⟩
  obtain ⟨v', w', hrun, r1, r2⟩ := key
  refine wpList_plain hgd fun K hK => ?_
  unfold Oper.wp
  simp [execOp, ho, resolve, invoke, builtin, hs, hx, hrun, Result.andThen]
  refine hK _ _ (h v' w' ⟨u :: vs, ?_, fun i hi => ?_⟩ r2)
  · have := ownsRow_down r1 hlo
    rw [Nat.add_comm] at this; exact this
  · have hk : ∀ k, lo ≤ k → k < w.heap.size → w'.heap[k]? = w.heap[k]? := fun k _ hk => r2.block k hk
    cases i with
    | zero => exact ⟨u, rfl, ownsRow_same hO hk⟩
    | succ i =>
      obtain ⟨y, hy, hoy⟩ := h2 i (by simpa using hi)
      exact ⟨y, hy, ownsRow_same hoy hk⟩

/-- The blocks with heads above k. -/
structure DownTo (p : List Int) (k : Nat) (bs : List (List Int)) : Prop where
  each : ∀ b ∈ bs, Block p b ∧ (k : Int) < b.headD 0
  rise : bs.Pairwise (fun b c => b.headD 0 < c.headD 0)
  all : ∀ b, Block p b → (k : Int) < b.headD 0 → b ∈ bs
theorem DownTo.top {p : List Int} (hp : IsPerm p) : DownTo p p.length [] := by
  refine ⟨by simp, by simp, fun b hb h => ?_⟩
  have := hb.bounds hp hb.head_mem
  omega
theorem DownTo.more {p : List Int} {k : Nat} {bs : List (List Int)} (h : DownTo p (k + 1) bs) {c : List Int} (hc : Block p c) (e : c.headD 0 = (k : Int) + 1) : DownTo p k (c :: bs) := by
  refine ⟨?_, ?_, ?_⟩
  · intro b hb
    rcases List.mem_cons.1 hb with rfl | hb
    · exact ⟨hc, by omega⟩
    · have := h.each b hb; exact ⟨this.1, by have := this.2; omega⟩
  · rw [List.pairwise_cons]
    exact ⟨fun b hb => by have := (h.each b hb).2; omega, h.rise⟩
  · intro b hb hk
    by_cases e2 : ((k + 1 : Nat) : Int) < b.headD 0
    · exact List.mem_cons_of_mem _ (h.all b hb e2)
    · have h1 : b.headD 0 = c.headD 0 := by omega
      have : b = c := hb.meet hc hb.head_mem (by rw [h1]; exact hc.head_mem)
      subst this; simp
theorem DownTo.same {p : List Int} {k : Nat} {bs : List (List Int)} (h : DownTo p (k + 1) bs) (hn : ∀ b, Block p b → b.headD 0 ≠ (k : Int) + 1) : DownTo p k bs := by
  refine ⟨fun b hb => ⟨(h.each b hb).1, by have := (h.each b hb).2; omega⟩, h.rise, ?_⟩
  intro b hb hk
  have := hn b hb
  exact h.all b hb (by omega)
theorem DownTo.blocks {p : List Int} (hp : IsPerm p) {bs : List (List Int)} (h : DownTo p 0 bs) : Blocks p bs := by
  refine ⟨fun b hb => (h.each b hb).1, h.rise, ?_⟩
  intro x h1 h2
  obtain ⟨b, hb, hx⟩ := head_of hp h1 h2
  exact ⟨b, h.all b hb (by have := (hb.bounds hp hb.head_mem).1; show ((0 : Nat) : Int) < _; omega), hx⟩

/-- Seen is what is in some block of the list. -/
def Marks (p : List Int) (f : Nat → Bool) (bs : List (List Int)) : Prop := ∀ x : Int, 1 ≤ x → x ≤ p.length → (f x.toNat = true ↔ ∃ b ∈ bs, x ∈ b)
theorem Marks.none (p : List Int) : Marks p (fun _ => false) [] := fun x _ _ => by simp
theorem Marks.cons {p : List Int} {f : Nat → Bool} {bs : List (List Int)} (h : Marks p f bs) (n : Int) (m : Nat) : Marks p (seenTo p f n m) (path p n m :: bs) := fun x h1 h2 => by
  unfold seenTo
  rw [Bool.or_eq_true, h x h1 h2, decide_eq_true_iff, show ((x.toNat : Nat) : Int) = x by omega]
  simp only [List.mem_cons, exists_eq_or_imp]
  exact Or.comm

/-- A number not seen is the head of its cycle. -/
theorem head_new {p : List Int} (hp : IsPerm p) {f : Nat → Bool} {bs : List (List Int)} {k m : Nat} (h : DownTo p (k + 1) bs) (hm : Marks p f bs) (hk : k < p.length) (h0 : f (k + 1) = false) (ht : Turns p ((k : Int) + 1) m) : Block p (path p ((k : Int) + 1) m) := by
  refine ⟨⟨_, m, ht, rfl, by omega, by omega⟩, fun x hx => ?_⟩
  rw [path_head ht.1]
  rcases Int.lt_or_le ((k : Int) + 1) x with hlt | hle
  · exfalso
    obtain ⟨j, _, hj⟩ := mem_path.1 hx
    have hb := iter_bounds hp (n := (k : Int) + 1) (by omega) (by omega) j
    rw [hj] at hb
    obtain ⟨b, hbb, hxb⟩ := head_of hp hb.1 hb.2
    have htop := hbb.top x hxb
    have hbm := h.all b hbb (by omega)
    -- k + 1 is in b as well
    have hin : (k : Int) + 1 ∈ b := by
      obtain ⟨n2, m2, ht2, rfl, h3, h4⟩ := hbb.n
      obtain ⟨j2, hj2⟩ := ht.symm hx
      obtain ⟨a, _, ha⟩ := mem_path.1 hxb
      rw [← hj2, ← ha, ← iter_add]; exact ht2.iter_mem _
    have := (hm ((k : Int) + 1) (by omega) (by omega)).2 ⟨b, hbm, hin⟩
    rw [show ((k : Int) + 1).toNat = k + 1 by omega, h0] at this
    cases this
  · exact hle
/-- A number that was seen is no head that is left. -/
theorem head_old {p : List Int} {f : Nat → Bool} {bs : List (List Int)} {k : Nat} (h : DownTo p (k + 1) bs) (hm : Marks p f bs) (hk : k < p.length) (h0 : f (k + 1) = true) : ∀ b, Block p b → b.headD 0 ≠ (k : Int) + 1 := by
  intro b hb he
  have h1 : f ((k : Int) + 1).toNat = true := by rw [show ((k : Int) + 1).toNat = k + 1 by omega]; exact h0
  obtain ⟨c, hc, hx⟩ := (hm ((k : Int) + 1) (by omega) (by omega)).1 h1
  have e : b = c := hb.meet (h.each c hc).1 hb.head_mem (by rw [he]; exact hx)
  have := (h.each c hc).2
  rw [← e, he] at this; omega

end Go.Proofs.Ytnjbkiegeielhab
