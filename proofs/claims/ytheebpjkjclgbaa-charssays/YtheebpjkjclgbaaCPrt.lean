/-
  ferref.AllParts: the closure that lists, box by box.
-/
import Derived.Test.YtheebpjkjclgbaaCLst
import Derived.Test.YtheebpjkjclgbaaWFal
namespace Go.Proofs.Ytheebpjkjclgbaa
open Go.RowKit

/-- What it lists: the lesser parts first, each row turned round. -/
def rgF : Nat → Nat → Nat → List Int → List (List Int)
  | 0, _, _, _ => []
  | f + 1, least, left, so => if left = 0 then [so.reverse] else (List.range (left + 1 - least)).flatMap (fun i => rgF f (least + i) (left - (least + i)) (so ++ [((least + i : Nat) : Int)]))
/-- The first j of those that come next. -/
def rgJ (f least left : Nat) (so : List Int) (j : Nat) : List (List Int) := (List.range j).flatMap (fun i => rgF f (least + i) (left - (least + i)) (so ++ [((least + i : Nat) : Int)]))
theorem rgJ_succ (f least left : Nat) (so : List Int) (j : Nat) : rgJ f least left so (j + 1) = rgJ f least left so j ++ rgF f (least + j) (left - (least + j)) (so ++ [((least + j : Nat) : Int)]) := by
  unfold rgJ; rw [List.range_succ, List.flatMap_append]; simp
theorem rgF_zero (f least : Nat) (so : List Int) : rgF (f + 1) least 0 so = [so.reverse] := by unfold rgF; rw [if_pos rfl]
theorem rgF_pos {f least left : Nat} {so : List Int} (h : left ≠ 0) : rgF (f + 1) least left so = rgJ f least left so (left + 1 - least) := by unfold rgF; rw [if_neg h]; rfl
theorem rgJ_le (f least left : Nat) (so : List Int) (j k : Nat) : (rgJ f least left so j).length ≤ (rgJ f least left so (j + k)).length := by
  induction k with
  | zero => exact Nat.le_refl _
  | succ k ih => rw [show j + (k + 1) = (j + k) + 1 by omega, rgJ_succ, List.length_append]; omega

theorem desc_rev {so r : List Int} (hp : r.Perm so) (hd : Desc r) (ha : so.Pairwise (fun a b => a ≤ b)) : r = so.reverse :=
  List.Perm.eq_of_pairwise (le := fun a b => b ≤ a) (fun a b _ _ h1 h2 => by omega) hd (List.pairwise_reverse.2 ha) (hp.trans (List.reverse_perm so).symm)

/-- What an append into a box leaves as it was. -/
structure KeepX (B : Nat) (v v' : Value) (w w' : World) : Prop where
  size : w.heap.size ≤ w'.heap.size
  block : ∀ k, k < w.heap.size → k ≠ B → v.ownBlock ≠ some k → w'.heap[k]? = w.heap[k]?
  lies : ∀ g, v'.ownBlock = some g → v.ownBlock = some g ∨ w.heap.size ≤ g
theorem KeepX.refl (B : Nat) (v : Value) (w : World) : KeepX B v v w w := ⟨Nat.le_refl _, fun _ _ _ _ => rfl, fun _ h => Or.inl h⟩
theorem KeepX.trans {B : Nat} {v v' v'' : Value} {w w' w'' : World} (h : KeepX B v v' w w') (h' : KeepX B v' v'' w' w'') : KeepX B v v'' w w'' := by
  refine ⟨Nat.le_trans h.size h'.size, fun k hk hB hv => ?_, fun g hg => ?_⟩
  · rw [h'.block k (Nat.lt_of_lt_of_le hk h.size) hB (fun q => ?_), h.block k hk hB hv]
    rcases h.lies k q with e | e
    · exact hv e
    · omega
  · rcases h'.lies g hg with e | e
    · exact h.lies g e
    · have := h.size; exact Or.inr (by omega)
theorem KeepX.below {B : Nat} (v : Value) {w w' : World} (h : Below w.heap.size w w') : KeepX B v v w w' := ⟨h.size, fun k hk _ _ => h.block k hk, fun _ q => Or.inl q⟩

/-- What the closure works on. -/
structure AllY (w : World) (B : Nat) (ty : TypeId) (fv v : Value) (vs : List Value) (ls : List (List Int)) : Prop where
  b0 : w.heap[B]? = some (.cells #[v] 38 (0, 0))
  b1 : w.heap[B + 1]? = some (.cells #[fv] ty (0, 0))
  t : TblV w (B + 2) v vs ls
theorem AllY.size {w : World} {B : Nat} {ty : TypeId} {fv v : Value} {vs : List Value} {ls : List (List Int)} (h : AllY w B ty fv v vs ls) : B + 2 ≤ w.heap.size := by
  have := (Array.getElem?_eq_some_iff.1 h.b1).1; omega
theorem AllY.below {w w' : World} {B : Nat} {ty : TypeId} {fv v : Value} {vs : List Value} {ls : List (List Int)} (h : AllY w B ty fv v vs ls) (hb : Below w.heap.size w w') : AllY w' B ty fv v vs ls := by
  have hs := h.size
  exact ⟨by rw [hb.block B (by omega)]; exact h.b0, by rw [hb.block (B + 1) (by omega)]; exact h.b1, h.t.same (fun k _ hk => hb.block k hk)⟩
theorem AllY.row {w w2 w3 : World} {B : Nat} {ty : TypeId} {fv v v' r : Value} {vs : List Value} {ls : List (List Int)} {so : List Int} (h : AllY w B ty fv v vs ls) (hb2 : Below w.heap.size w w2) (hr : Owns w2 w.heap.size r so)
    (hown : w3.ownsRow (B + 2) 22 1 v' (vs ++ [r]).length (vs ++ [r])) (hb3 : Below (B + 2) w2 w3) (hk : KeepB v v' w2 w3) :
    AllY (w3.setCell ⟨B, 0, none⟩ v') B ty fv v' (vs ++ [r]) (ls ++ [so]) ∧ KeepX B v v' w (w3.setCell ⟨B, 0, none⟩ v') := by
  have hs := h.size
  have hT2 : TblV w2 (B + 2) v vs ls := h.t.same (fun k _ hk => hb2.block k hk)
  have e : ∀ k, k ≠ B → (w3.setCell ⟨B, 0, none⟩ v').heap[k]? = w3.heap[k]? := fun k hk => heap_setCell_other _ _ _ _ hk
  have hT3' : TblV w3 (B + 2) v' (vs ++ [r]) (ls ++ [so]) := by
    refine hT2.push (hr.mono hs) (fun i hi k e1 e2 => ?_) (fun k e1 e2 => ?_) hown hk
    · have := (hr.lt e1).1; have := ((h.t.rows i hi).lt e2).2; omega
    · have := (hr.lt e2).1; have := (h.t.own.lt k e1).2; omega
  refine ⟨⟨one_setCell (by rw [hb3.block B (by omega), hb2.block B (by omega)]; exact h.b0), by rw [e (B + 1) (by omega), hb3.block (B + 1) (by omega), hb2.block (B + 1) (by omega)]; exact h.b1, ?_⟩, ?_⟩
  · exact ⟨ownsRow_blocks hT3'.own (fun k q => e k (by have := (hT3'.own.lt k q).1; omega)), hT3'.len, fun i hi => ownsRow_blocks (hT3'.rows i hi) (fun k q => e k (by have := ((hT3'.rows i hi).lt q).1; omega)), hT3'.apart, hT3'.off⟩
  · have hz : (w3.setCell ⟨B, 0, none⟩ v').heap.size = w3.heap.size := by simp
    have h1 := hb2.size
    have h2 := hk.size
    refine ⟨by omega, fun k hk' hB hv => ?_, fun g hg => ?_⟩
    · rw [e k hB, hk.block k (by omega) hv, hb2.block k hk']
    · rcases hk.lies g hg with q | q
      · exact Or.inl q
      · exact Or.inr (by omega)
theorem Owns.open0 {w : World} {base : Nat} {v : Value} {zs : List Int} (h : Owns w base v zs) (hl : zs.length ≤ 17592186044416) (hwf : ∀ z ∈ zs, -9223372036854775808 ≤ z ∧ z ≤ 9223372036854775807) :
    ∃ a n cap, v = .slice a n cap ∧ Shows w a zs ∧ n = zs.length ∧ (a = none → zs = [] ∧ cap = 0) := by
  obtain ⟨a, n, cap, hv, hs, hn, hc⟩ := h.opened hl hwf
  refine ⟨a, n, cap, hv, hs, hn, fun ha => ?_⟩
  rcases h.2 with ⟨h2, h3⟩ | ⟨g, cap', cur, hv', _⟩
  · rw [hv] at h2; cases h2
    exact ⟨List.eq_nil_of_length_eq_zero hn.symm, rfl⟩
  · rw [hv] at hv'; cases hv'; cases ha
/-- A slice of the call's own, apart from the table. -/
theorem Owns.keptX {w w' : World} {B base : Nat} {v v' u : Value} {so : List Int} (h : Owns w base u so) (hB : B < base) (ha : Apart v u) (hk : KeepX B v v' w w') : Owns w' base u so ∧ Apart v' u := by
  refine ⟨ownsRow_blocks h (fun k q => hk.block k (h.lt q).2 (by have := (h.lt q).1; omega) (fun q2 => ha k q2 q)), fun k h1 h2 => ?_⟩
  rcases hk.lies k h1 with q | q
  · exact ha k q h2
  · have := (h.lt h2).2; omega

end Go.Proofs.Ytheebpjkjclgbaa
