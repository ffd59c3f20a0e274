/-
  parts.All: a closure that calls itself, a list and a table in captured variables.
-/
import Derived.Test.YtheebpjkjclgbaaTTab
import Derived.Test.YtheebpjkjclgbaaICnj
import Derived.Deep.RegionLaw
import Derived.OneCell
namespace Go.Proofs.Ytheebpjkjclgbaa
open Go.RowKit

/-- The partitions of 'left' into parts of at most 'most', the greater parts first. -/
def genF : Nat → Nat → Nat → List (List Int)
  | 0, _, _ => []
  | f + 1, left, most => if left = 0 then [[]] else (List.range (min left most)).reverse.flatMap (fun i => (genF f (left - (i + 1)) (i + 1)).map (fun q => ((i : Int) + 1) :: q))
/-- Those whose first part is at most p. -/
def lpF (f left p : Nat) : List (List Int) := (List.range p).reverse.flatMap (fun i => (genF f (left - (i + 1)) (i + 1)).map (fun q => ((i : Int) + 1) :: q))
theorem lpF_succ (f left p : Nat) : lpF f left (p + 1) = (genF f (left - (p + 1)) (p + 1)).map (fun q => ((p : Int) + 1) :: q) ++ lpF f left p := by
  unfold lpF; rw [List.range_succ, List.reverse_append]; rfl
theorem genF_zero (f most : Nat) : genF (f + 1) 0 most = [[]] := by unfold genF; rw [if_pos rfl]
theorem genF_pos {f left most : Nat} (h : left ≠ 0) : genF (f + 1) left most = lpF f left (min left most) := by unfold genF; rw [if_neg h]; rfl

/-- A list of the call's own, its last number left out. -/
theorem owns_pop {w : World} {base n c : Nat} {a : Option Addr} {so : List Int} {p : Int} (h : Owns w base (.slice a (n + 1) c) (so ++ [p])) : Owns w base (.slice a n c) so ∧ n = so.length := by
  have h' : w.ownsRow base 3 1 (.slice a (n + 1) c) (so ++ [p]).length ((so ++ [p]).map (Value.int .i64)) := h
  rcases h'.2 with ⟨h1, h2⟩ | ⟨g, cap, cur, hv, hg, hh, h4, h5, h6, h7⟩
  · simp at h2
  · simp only [Value.slice.injEq] at hv
    obtain ⟨rfl, hn, rfl⟩ := hv
    have hn' : n = so.length := by simp at hn; omega
    refine ⟨?_, hn'⟩
    unfold Owns
    refine ⟨by simp, Or.inr ⟨g, c, cur, by rw [hn'], hg, hh, by simp at h4; omega, h5, h6, ?_⟩⟩
    have h8 := congrArg (List.take so.length) h7
    rw [List.take_take] at h8
    simp at h8
    rw [Nat.mul_one]
    rw [← h8]

/-- What the closure works on: the boxes of the list, of the parts so far, of itself. -/
structure AllX (w : World) (B : Nat) (ty : TypeId) (fv v : Value) (vs : List Value) (u : Value) (ls : List (List Int)) (so : List Int) : Prop where
  b0 : w.heap[B]? = some (.cells #[v] 38 (0, 0))
  b1 : w.heap[B + 1]? = some (.cells #[u] 22 (0, 0))
  b2 : w.heap[B + 2]? = some (.cells #[fv] ty (0, 0))
  t : TblV w (B + 3) v vs ls
  o : Owns w (B + 3) u so
  a1 : Apart v u
  a2 : ∀ i, i < ls.length → Apart (rowv vs i) u
theorem AllX.size {w : World} {B : Nat} {ty : TypeId} {fv v : Value} {vs : List Value} {u : Value} {ls : List (List Int)} {so : List Int} (h : AllX w B ty fv v vs u ls so) : B + 3 ≤ w.heap.size := by
  have := (Array.getElem?_eq_some_iff.1 h.b2).1; omega
theorem one_cell_of {w : World} {g : Nat} {v : Value} {ty : TypeId} (h : w.heap[g]? = some (.cells #[v] ty (0, 0))) : w.cell? ⟨g, 0, none⟩ = some v ∧ w.frozen? ⟨g, 0, none⟩ = false := ⟨cell_of_one h, free_of_one h⟩
/-- A part more. -/
theorem AllX.more {w w' : World} {B : Nat} {ty : TypeId} {fv v : Value} {vs : List Value} {u u' : Value} {ls : List (List Int)} {so : List Int} {p : Int} (h : AllX w B ty fv v vs u ls so) (hO : Owns w' (B + 3) u' (so ++ [p])) (hb : Below (B + 3) w w') (hk : KeepB u u' w w') :
    AllX (w'.setCell ⟨B + 1, 0, none⟩ u') B ty fv v vs u' ls (so ++ [p]) := by
  have hs := h.size
  have e : ∀ k, k ≠ B + 1 → (w'.setCell ⟨B + 1, 0, none⟩ u').heap[k]? = w'.heap[k]? := fun k hk => heap_setCell_other _ _ _ _ hk
  have hOs : Owns (w'.setCell ⟨B + 1, 0, none⟩ u') (B + 3) u' (so ++ [p]) := ownsRow_blocks hO (fun k q => e k (by have := (hO.lt q).1; omega))
  have hblk : ∀ k, B + 3 ≤ k → k < w.heap.size → u.ownBlock ≠ some k → (w'.setCell ⟨B + 1, 0, none⟩ u').heap[k]? = w.heap[k]? := fun k h1 h2 h3 => by rw [e k (by omega)]; exact hk.block k h2 h3
  have hnew : ∀ {x : Value}, Apart x u → (∀ k, x.ownBlock = some k → k < w.heap.size) → Apart x u' := fun {x} ha hlt k h1 h2 => by
    rcases hk.lies k h2 with q | q
    · exact ha k h1 q
    · have := hlt k h1; omega
  refine ⟨?_, ?_, ?_, ?_, hOs, hnew h.a1 (fun k q => (h.t.own.lt k q).2), fun i hi => hnew (h.a2 i hi) (fun k q => ((h.t.rows i hi).lt q).2)⟩
  · rw [e B (by omega), hb.block B (by omega)]; exact h.b0
  · exact one_setCell (by rw [hb.block (B + 1) (by omega)]; exact h.b1)
  · rw [e (B + 2) (by omega), hb.block (B + 2) (by omega)]; exact h.b2
  · refine ⟨ownsRow_blocks h.t.own (fun k q => hblk k (h.t.own.lt k q).1 (h.t.own.lt k q).2 (fun q2 => h.a1 k q q2)), h.t.len, fun i hi => ?_, h.t.apart, h.t.off⟩
    exact ownsRow_blocks (h.t.rows i hi) (fun k q => hblk k ((h.t.rows i hi).lt q).1 ((h.t.rows i hi).lt q).2 (fun q2 => h.a2 i hi k q q2))
/-- The last part away. -/
theorem AllX.pop {w : World} {B n c : Nat} {a : Option Addr} {ty : TypeId} {fv v : Value} {vs : List Value} {ls : List (List Int)} {so : List Int} {p : Int} (h : AllX w B ty fv v vs (.slice a (n + 1) c) ls (so ++ [p])) :
    AllX (w.setCell ⟨B + 1, 0, none⟩ (.slice a n c)) B ty fv v vs (.slice a n c) ls so := by
  have e : ∀ k, k ≠ B + 1 → (w.setCell ⟨B + 1, 0, none⟩ (.slice a n c)).heap[k]? = w.heap[k]? := fun k hk => heap_setCell_other _ _ _ _ hk
  have ho := (owns_pop h.o).1
  have hob : ∀ k, Value.ownBlock (.slice a n c) = some k ↔ Value.ownBlock (.slice a (n + 1) c) = some k := fun k => by cases a <;> rfl
  refine ⟨by rw [e B (by omega)]; exact h.b0, one_setCell h.b1, by rw [e (B + 2) (by omega)]; exact h.b2, ?_, ownsRow_blocks ho (fun k q => e k (by have := (ho.lt q).1; omega)), fun k h1 h2 => h.a1 k h1 ((hob k).1 h2), fun i hi k h1 h2 => h.a2 i hi k h1 ((hob k).1 h2)⟩
  exact ⟨ownsRow_blocks h.t.own (fun k q => e k (by have := (h.t.own.lt k q).1; omega)), h.t.len, fun i hi => ownsRow_blocks (h.t.rows i hi) (fun k q => e k (by have := ((h.t.rows i hi).lt q).1; omega)), h.t.apart, h.t.off⟩
/-- A row more. -/
theorem AllX.row {w w2 w3 : World} {B : Nat} {ty : TypeId} {fv v v' r : Value} {vs : List Value} {u : Value} {ls : List (List Int)} {so : List Int} (h : AllX w B ty fv v vs u ls so) (hb2 : Below w.heap.size w w2) (hr : Owns w2 w.heap.size r so)
    (hown : w3.ownsRow (B + 3) 22 1 v' (vs ++ [r]).length (vs ++ [r])) (hb3 : Below (B + 3) w2 w3) (hk : KeepB v v' w2 w3) :
    AllX (w3.setCell ⟨B, 0, none⟩ v') B ty fv v' (vs ++ [r]) u (ls ++ [so]) so := by
  have hs := h.size
  have hT2 : TblV w2 (B + 3) v vs ls := h.t.same (fun k _ hk => hb2.block k hk)
  obtain ⟨ws, hT3⟩ := Tbl.push h.t hT2 (Nat.le_refl _) hs hr hown hk
  have e : ∀ k, k ≠ B → (w3.setCell ⟨B, 0, none⟩ v').heap[k]? = w3.heap[k]? := fun k hk => heap_setCell_other _ _ _ _ hk
  have hu2 : ∀ k, u.ownBlock = some k → k < w.heap.size := fun k q => (h.o.lt q).2
  have huv : ∀ k, u.ownBlock = some k → v.ownBlock ≠ some k := fun k q q2 => h.a1 k q2 q
  have hT3' : TblV w3 (B + 3) v' (vs ++ [r]) (ls ++ [so]) := by
    refine hT2.push (hr.mono hs) (fun i hi k e1 e2 => ?_) (fun k e1 e2 => ?_) hown hk
    · have := (hr.lt e1).1; have := ((h.t.rows i hi).lt e2).2; omega
    · have := (hr.lt e2).1; have := (h.t.own.lt k e1).2; omega
  refine ⟨one_setCell (by rw [hb3.block B (by omega), hb2.block B (by omega)]; exact h.b0), by rw [e (B + 1) (by omega), hb3.block (B + 1) (by omega), hb2.block (B + 1) (by omega)]; exact h.b1, by rw [e (B + 2) (by omega), hb3.block (B + 2) (by omega), hb2.block (B + 2) (by omega)]; exact h.b2, ?_, ?_, ?_, ?_⟩
  · exact ⟨ownsRow_blocks hT3'.own (fun k q => e k (by have := (hT3'.own.lt k q).1; omega)), hT3'.len, fun i hi => ownsRow_blocks (hT3'.rows i hi) (fun k q => e k (by have := ((hT3'.rows i hi).lt q).1; omega)), hT3'.apart, hT3'.off⟩
  · refine ownsRow_blocks h.o (fun k q => ?_)
    rw [e k (by have := (h.o.lt q).1; omega), hk.block k (by have := hu2 k q; have := hb2.size; omega) (huv k q), hb2.block k (hu2 k q)]
  · intro k h1 h2
    rcases hk.lies k h1 with q | q
    · exact h.a1 k q h2
    · have := hu2 k h2; have := hb2.size; omega
  · intro i hi k h1 h2
    rw [List.length_append, List.length_singleton] at hi
    by_cases c : i < ls.length
    · have e1 : rowv (vs ++ [r]) i = rowv vs i := by unfold rowv; simp [List.getD, List.getElem?_append, show i < vs.length by rw [h.t.len]; exact c]
      rw [e1] at h1
      exact h.a2 i c k h1 h2
    · have e1 : rowv (vs ++ [r]) i = r := by
        obtain rfl : i = ls.length := by omega
        unfold rowv; rw [← h.t.len]; simp
      rw [e1] at h1
      have := (hr.lt h1).1
      have := hu2 k h2
      omega

end Go.Proofs.Ytheebpjkjclgbaa
