/-
  A box that rows are put into, and the closure's own box beside it.
-/
import Derived.Test.YtncokoimbpkapaaTTab
import Derived.Test.YtncokoimbpkapaaRuD
import Derived.Test.YtncokoimbpkapaaRvS
namespace Go.Proofs.Ytncokoimbpkapaa
open Go.RowKit

/-- A pointer to a box. -/
abbrev bx (g : Nat) : Value := .pointer (some ⟨g, 0, none⟩)

/-- What an append into a box leaves as it was. -/
structure KpX (B : Nat) (v v' : Value) (w w' : World) : Prop where
  size : w.heap.size ≤ w'.heap.size
  block : ∀ k, k < w.heap.size → k ≠ B → v.ownBlock ≠ some k → w'.heap[k]? = w.heap[k]?
  lies : ∀ g, v'.ownBlock = some g → v.ownBlock = some g ∨ w.heap.size ≤ g
theorem KpX.refl (B : Nat) (v : Value) (w : World) : KpX B v v w w := ⟨Nat.le_refl _, fun _ _ _ _ => rfl, fun _ h => Or.inl h⟩
theorem KpX.trans {B : Nat} {v v' v'' : Value} {w w' w'' : World} (h : KpX B v v' w w') (h' : KpX B v' v'' w' w'') : KpX B v v'' w w'' := by
  refine ⟨Nat.le_trans h.size h'.size, fun k hk hB hv => ?_, fun g hg => ?_⟩
  · rw [h'.block k (Nat.lt_of_lt_of_le hk h.size) hB (fun q => ?_), h.block k hk hB hv]
    rcases h.lies k q with e | e
    · exact hv e
    · omega
  · rcases h'.lies g hg with e | e
    · exact h.lies g e
    · have := h.size; exact Or.inr (by omega)
theorem KpX.below {B : Nat} (v : Value) {w w' : World} (h : Below w.heap.size w w') : KpX B v v w w' := ⟨h.size, fun k hk _ _ => h.block k hk, fun _ q => Or.inl q⟩

/-- What the closure works on. -/
structure AlZ (w : World) (B : Nat) (ty : TypeId) (fv v : Value) (vs : List Value) (ls : List (List Int)) : Prop where
  b0 : w.heap[B]? = some (.cells #[v] 35 (0, 0))
  b1 : w.heap[B + 1]? = some (.cells #[fv] ty (0, 0))
  t : TblV w (B + 2) v vs ls
theorem AlZ.size {w : World} {B : Nat} {ty : TypeId} {fv v : Value} {vs : List Value} {ls : List (List Int)} (h : AlZ w B ty fv v vs ls) : B + 2 ≤ w.heap.size := by
  have := (Array.getElem?_eq_some_iff.1 h.b1).1; omega
theorem AlZ.below {w w' : World} {B : Nat} {ty : TypeId} {fv v : Value} {vs : List Value} {ls : List (List Int)} (h : AlZ w B ty fv v vs ls) (hb : Below w.heap.size w w') : AlZ w' B ty fv v vs ls := by
  have hs := h.size
  exact ⟨by rw [hb.block B (by omega)]; exact h.b0, by rw [hb.block (B + 1) (by omega)]; exact h.b1, h.t.same (fun k _ hk => hb.block k hk)⟩
theorem AlZ.row {w w2 w3 : World} {B : Nat} {ty : TypeId} {fv v v' r : Value} {vs : List Value} {ls : List (List Int)} {so : List Int} (h : AlZ w B ty fv v vs ls) (hb2 : Below w.heap.size w w2) (hr : Owns w2 w.heap.size r so)
    (hown : w3.ownsRow (B + 2) 22 1 v' (vs ++ [r]).length (vs ++ [r])) (hb3 : Below (B + 2) w2 w3) (hk : KeepB v v' w2 w3) :
    AlZ (w3.setCell ⟨B, 0, none⟩ v') B ty fv v' (vs ++ [r]) (ls ++ [so]) ∧ KpX B v v' w (w3.setCell ⟨B, 0, none⟩ v') := by
  have hs := h.size
  have hT2 : TblV w2 (B + 2) v vs ls := h.t.same (fun k _ hk => hb2.block k hk)
  have e : ∀ k, k ≠ B → (w3.setCell ⟨B, 0, none⟩ v').heap[k]? = w3.heap[k]? := fun k hk => heap_setCell_other _ _ _ _ hk
  have hT3' : TblV w3 (B + 2) v' (vs ++ [r]) (ls ++ [so]) := by
    refine hT2.push (hr.mono hs) (fun i hi k e1 e2 => ?_) (fun k e1 e2 => ?_) hown hk
    · have := (hr.lt e1).1; have := ((h.t.rows i hi).lt e2).2; omega
    · have := (hr.lt e2).1; have := (h.t.own.lt k e1).2; omega
  refine ⟨⟨one_setCell (by rw [hb3.block B (by omega), hb2.block B (by omega)]; exact h.b0), by rw [e (B + 1) (by omega), hb3.block (B + 1) (by omega), hb2.block (B + 1) (by omega)]; exact h.b1, ?_⟩, ?_⟩
  · exact ⟨ownsRow_blocks hT3'.own (fun k q => e k (by have := (hT3'.own.lt k q).1; omega)), hT3'.len, fun i hi => ownsRow_blocks (hT3'.rows i hi) (fun k q => e k (by have := ((hT3'.rows i hi).lt q).1; omega)), hT3'.apart, hT3'.off⟩
  · have hz : (w3.setCell ⟨B, 0, none⟩ v').heap.size = w3.heap.size := by simp
    have h1 := hb2.size
    have h2 := hk.size
    refine ⟨by omega, fun k hk' hB hv => ?_, fun g hg => ?_⟩
    · rw [e k hB, hk.block k (by omega) hv, hb2.block k hk']
    · rcases hk.lies g hg with q | q
      · exact Or.inl q
      · exact Or.inr (by omega)
theorem Owns.open0 {w : World} {base : Nat} {v : Value} {zs : List Int} (h : Owns w base v zs) (hl : zs.length ≤ 17592186044416) (hwf : ∀ z ∈ zs, -9223372036854775808 ≤ z ∧ z ≤ 9223372036854775807) :
    ∃ a n cap, v = .slice a n cap ∧ Shows w a zs ∧ n = zs.length ∧ (a = none → zs = [] ∧ cap = 0) := by
  obtain ⟨a, n, cap, hv, hs, hn, hc⟩ := h.opened hl hwf
  refine ⟨a, n, cap, hv, hs, hn, fun ha => ?_⟩
  rcases h.2 with ⟨h2, h3⟩ | ⟨g, cap', cur, hv', _⟩
  · rw [hv] at h2; cases h2
    exact ⟨List.eq_nil_of_length_eq_zero hn.symm, rfl⟩
  · rw [hv] at hv'; cases hv'; cases ha
/-- A slice of the call's own, apart from the table. -/
theorem Owns.keptZ {w w' : World} {B base : Nat} {v v' u : Value} {so : List Int} (h : Owns w base u so) (hB : B < base) (ha : Apart v u) (hk : KpX B v v' w w') : Owns w' base u so ∧ Apart v' u := by
  refine ⟨ownsRow_blocks h (fun k q => hk.block k (h.lt q).2 (by have := (h.lt q).1; omega) (fun q2 => ha k q2 q)), fun k h1 h2 => ?_⟩
  rcases hk.lies k h1 with q | q
  · exact ha k q h2
  · have := (h.lt h2).2; omega


/-- What the closure of ferref.Grown lists. -/
def gF (p c : Nat → Nat) (m i left : Nat) (now : List Nat) : List (List Nat) := (grN p c m i left).map fun s => trimZ (now ++ s)
/-- The first j of what comes next. -/
def gJ (p c : Nat → Nat) (m i left : Nat) (now : List Nat) (j : Nat) : List (List Nat) := (List.range j).flatMap fun d => gF p c m (i + 1) (left - d) (now ++ [p i + d])
theorem gJ_succ (p c : Nat → Nat) (m i left : Nat) (now : List Nat) (j : Nat) : gJ p c m i left now (j + 1) = gJ p c m i left now j ++ gF p c m (i + 1) (left - j) (now ++ [p i + j]) := by
  unfold gJ; rw [List.range_succ, List.flatMap_append]; simp
theorem gJ_le (p c : Nat → Nat) (m i left : Nat) (now : List Nat) (j k : Nat) : (gJ p c m i left now j).length ≤ (gJ p c m i left now (j + k)).length := by
  induction k with
  | zero => exact Nat.le_refl _
  | succ k ih => rw [show j + (k + 1) = (j + k) + 1 by omega, gJ_succ, List.length_append]; omega
theorem gF_zero (p c : Nat → Nat) (i left : Nat) (now : List Nat) : gF p c 0 i left now = if left = 0 then [trimZ now] else [] := by
  unfold gF; rw [grN]; split <;> simp
theorem gF_succ (p c : Nat → Nat) (m i left : Nat) (now : List Nat) : gF p c (m + 1) i left now = gJ p c m i left now (min (hiG p c i + 1 - p i) (left + 1)) := by
  unfold gJ gF
  rw [grN, List.map_flatMap]
  congr 1
  funext d
  rw [List.map_map]
  congr 1
  funext s
  simp
theorem castL_snoc (l : List Nat) (x : Nat) : castL (l ++ [x]) = castL l ++ [(x : Int)] := by simp [castL]
theorem castT_snoc (t : List (List Nat)) (r : List Nat) : castT (t ++ [r]) = castT t ++ [castL r] := by simp [castT]
theorem castT_app (t t' : List (List Nat)) : castT (t ++ t') = castT t ++ castT t' := by simp [castT]

/-- The closure itself. -/
abbrev grV (B : Nat) : Value := .func (.func 36) #[] #[bx (B + 1), bx (B + 2), bx B, bx (B + 3)]
/-- What it works on: p, c, the rows, itself. -/
structure GrX (w : World) (B : Nat) (ty : TypeId) (ap : Option Addr) (cp : Nat) (ac : Option Addr) (cc : Nat) (pl cl : List Nat) (v : Value) (vs : List Value) (ls : List (List Nat)) : Prop where
  bp : w.heap[B]? = some (.cells #[.slice ap pl.length cp] 22 (0, 0))
  bc : w.heap[B + 1]? = some (.cells #[.slice ac cl.length cc] 22 (0, 0))
  y : AlZ w (B + 2) ty (grV B) v vs (castT ls)
  sp : ∀ W, Below B w W → Shows W ap (castL pl)
  sc : ∀ W, Below B w W → Shows W ac (castL cl)
theorem GrX.size {w : World} {B : Nat} {ty : TypeId} {ap ac : Option Addr} {cp cc : Nat} {pl cl : List Nat} {v : Value} {vs : List Value} {ls : List (List Nat)} (h : GrX w B ty ap cp ac cc pl cl v vs ls) : B + 4 ≤ w.heap.size := h.y.size
theorem GrX.below {w w' : World} {B : Nat} {ty : TypeId} {ap ac : Option Addr} {cp cc : Nat} {pl cl : List Nat} {v : Value} {vs : List Value} {ls : List (List Nat)} (h : GrX w B ty ap cp ac cc pl cl v vs ls) (hb : Below w.heap.size w w') : GrX w' B ty ap cp ac cc pl cl v vs ls := by
  have hs := h.size
  exact ⟨by rw [hb.block B (by omega)]; exact h.bp, by rw [hb.block (B + 1) (by omega)]; exact h.bc, h.y.below hb, fun W hW => h.sp W ((hb.mono (by omega)).trans hW), fun W hW => h.sc W ((hb.mono (by omega)).trans hW)⟩
/-- The same with other rows. -/
theorem GrX.next {w w' : World} {B : Nat} {ty : TypeId} {ap ac : Option Addr} {cp cc : Nat} {pl cl : List Nat} {v v' : Value} {vs vs' : List Value} {ls ls' : List (List Nat)} (h : GrX w B ty ap cp ac cc pl cl v vs ls) (hb : Below (B + 2) w w') (hy : AlZ w' (B + 2) ty (grV B) v' vs' (castT ls')) : GrX w' B ty ap cp ac cc pl cl v' vs' ls' := by
  exact ⟨by rw [hb.block B (by omega)]; exact h.bp, by rw [hb.block (B + 1) (by omega)]; exact h.bc, hy, fun W hW => h.sp W ((hb.mono (by omega)).trans hW), fun W hW => h.sc W ((hb.mono (by omega)).trans hW)⟩
/-- What the closure leaves. -/
def EndG (w : World) (B : Nat) (ty : TypeId) (v : Value) (ls : List (List Nat)) (w' : World) : Prop := Below (B + 2) w w' ∧ ∃ v' vs', AlZ w' (B + 2) ty (grV B) v' vs' (castT ls) ∧ KpX (B + 2) v v' w w'

end Go.Proofs.Ytncokoimbpkapaa
