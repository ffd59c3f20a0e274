/-
  The memory of paths.look: its block, the texts so far, what stays.
-/
import Derived.Test.YtapchcamjeafmaaDoorQByt
import Derived.Test.YtapchcamjeafmaaDoorQFam
import Derived.Laws.Tables
namespace Go.Proofs.YtapchcamjeafmaaDoor
open Go.RowKit

/-- The cells of a look. -/
def lkF (sv ev : Value) (cl : Nat → Bool) (tv : Value) (st : Nat) (fv : Value) (k : Nat) : Value :=
  if k = 0 then sv else if k = 1 then ev else if k < 66 then .bool (cl (k - 2)) else if k = 66 then tv else if k = 67 then .int .i64 (st : Int) else fv
def lkC (sv ev : Value) (cl : Nat → Bool) (tv : Value) (st : Nat) (fv : Value) : Array Value := ((List.range 69).map (lkF sv ev cl tv st fv)).toArray
theorem lkC_get (sv ev : Value) (cl : Nat → Bool) (tv : Value) (st : Nat) (fv : Value) (j : Nat) (hj : j < 69) : (lkC sv ev cl tv st fv)[j]? = some (lkF sv ev cl tv st fv j) := by
  simp [lkC, hj]
theorem lkC_set (sv ev : Value) (cl : Nat → Bool) (tv : Value) (st : Nat) (fv : Value) (cl' : Nat → Bool) (st' : Nat) (j : Nat) (x : Value) (h : ∀ k, k < 69 → lkF sv ev cl' tv st' fv k = if k = j then x else lkF sv ev cl tv st fv k) : (lkC sv ev cl tv st fv).setIfInBounds j x = lkC sv ev cl' tv st' fv := by
  apply Array.ext_getElem?
  intro i
  by_cases hi : i < 69
  · rw [lkC_get _ _ _ _ _ _ _ hi, h i hi]
    by_cases e : i = j
    · subst e
      rw [Array.getElem?_setIfInBounds_self_of_lt (by simpa [lkC] using hi), if_pos rfl]
    · rw [Array.getElem?_setIfInBounds_ne (by omega), lkC_get _ _ _ _ _ _ _ hi, if_neg e]
  · rw [Array.getElem?_eq_none (by simp [lkC]; omega), Array.getElem?_eq_none (by simp [lkC]; omega)]
theorem lkC_mark (sv ev : Value) (cl : Nat → Bool) (tv : Value) (st : Nat) (fv : Value) (p : Nat × Nat) (b : Bool) (h1 : p.1 < 8) (h2 : p.2 < 8) : (lkC sv ev cl tv st fv).setIfInBounds (2 + p.1 * 8 + p.2) (.bool b) = lkC sv ev (mkP cl p b) tv st fv := by
  apply lkC_set
  intro k hk
  unfold lkF mkP ixP8
  by_cases e : k = 2 + p.1 * 8 + p.2
  · subst e
    rw [if_neg (by omega), if_neg (by omega), if_pos (by omega), if_pos (by omega), if_pos rfl]
  · rw [if_neg e]
    by_cases k0 : k = 0
    · rw [if_pos k0, if_pos k0]
    rw [if_neg k0, if_neg k0]
    by_cases k1 : k = 1
    · rw [if_pos k1, if_pos k1]
    rw [if_neg k1, if_neg k1]
    by_cases k2 : k < 66
    · rw [if_pos k2, if_pos k2, if_neg (by omega)]
    rw [if_neg k2, if_neg k2]
theorem lkC_steps (sv ev : Value) (cl : Nat → Bool) (tv : Value) (st : Nat) (fv : Value) (st' : Nat) : (lkC sv ev cl tv st fv).setIfInBounds 67 (.int .i64 (st' : Int)) = lkC sv ev cl tv st' fv := by
  apply lkC_set
  intro k hk
  unfold lkF
  by_cases e : k = 67
  · subst e; rfl
  · rw [if_neg e, if_neg e, if_neg e]
theorem lkC_congr (sv ev : Value) {cl cl' : Nat → Bool} (tv : Value) (st : Nat) (fv : Value) (h : ∀ k, k < 64 → cl k = cl' k) : lkC sv ev cl tv st fv = lkC sv ev cl' tv st fv := by
  have e : (List.range 69).map (lkF sv ev cl tv st fv) = (List.range 69).map (lkF sv ev cl' tv st fv) := List.map_congr_left fun j hj => by
    unfold lkF
    by_cases k2 : j < 66
    · by_cases k0 : j = 0
      · rw [if_pos k0, if_pos k0]
      by_cases k1 : j = 1
      · rw [if_neg k0, if_neg k0, if_pos k1, if_pos k1]
      rw [if_neg k0, if_neg k0, if_neg k1, if_neg k1, if_pos k2, if_pos k2, h (j - 2) (by omega)]
    · rw [if_neg k2, if_neg k2]
  unfold lkC
  rw [e]

/-- The value of text i. -/
def rwU (vs : List Value) (i : Nat) : Value := vs.getD i (.slice none 0 0)
def OwU (w : World) (lo : Nat) (v : Value) (us : List UInt8) : Prop := w.ownsRow lo 5 1 v (us.map uv).length (us.map uv)
structure TxV (w : World) (lo T : Nat) (vs : List Value) (tx : List (List UInt8)) : Prop where
  blk : w.heap[T]? = some (.cells vs.toArray 70 (0, 0))
  low : T < lo
  len : vs.length = tx.length
  rows : ∀ i, i < tx.length → OwU w lo (rwU vs i) (tx.getD i [])
  apart : ∀ i j, i < tx.length → j < tx.length → i ≠ j → Apart (rwU vs i) (rwU vs j)
theorem OwU.lt {w : World} {lo : Nat} {v : Value} {us : List UInt8} (h : OwU w lo v us) {g : Nat} (hg : v.ownBlock = some g) : lo ≤ g ∧ g < w.heap.size := World.ownsRow.lt h g hg
theorem OwU.shape {w : World} {lo : Nat} {v : Value} {us : List UInt8} (h : OwU w lo v us) : ∃ a c, v = .slice a us.length c := by
  rcases h.2 with ⟨hv, hn⟩ | ⟨g, cap, cur, hv, _⟩
  · rw [List.length_map] at hn; exact ⟨none, 0, by rw [hv, hn]⟩
  · rw [List.length_map] at hv; exact ⟨_, _, hv⟩
theorem rwU_set (vs : List Value) (i : Nat) (u : Value) (j : Nat) (hj : j < vs.length) : rwU (vs.set i u) j = if j = i then u else rwU vs j := by
  simp only [rwU, List.getD, List.getElem?_set]
  by_cases h : i = j
  · subst h; simp [hj]
  · rw [if_neg h, if_neg (fun e => h e.symm)]
theorem getD_setU (ls : List (List UInt8)) (i : Nat) (zs : List UInt8) (j : Nat) (hj : j < ls.length) : (ls.set i zs).getD j [] = if j = i then zs else ls.getD j [] := by
  simp only [List.getD, List.getElem?_set]
  by_cases h : i = j
  · subst h; simp [hj]
  · rw [if_neg h, if_neg (fun e => h e.symm)]
/-- Text i becomes u, made out of its old value. -/
theorem TxV.setRow {w w' : World} {lo T i : Nat} {vs : List Value} {tx : List (List UInt8)} {u : Value} {us : List UInt8} (h : TxV w lo T vs tx) (hlo : lo ≤ w.heap.size) (hi : i < tx.length) (hu : OwU w' lo u us) (hk : KeepB (rwU vs i) u w w') :
    TxV (w'.setCell ⟨T, i, none⟩ u) lo T (vs.set i u) (tx.set i us) := by
  have hlen := h.len
  have hT : T < w.heap.size := Nat.lt_of_lt_of_le h.low hlo
  have hnT : ∀ (x : Value) (W : World) (l : List UInt8), OwU W lo x l → ∀ k, x.ownBlock = some k → k ≠ T := fun x W l hx k e e2 => by
    have := (hx.lt e).1; have := h.low; omega
  have hb : w'.heap[T]? = some (.cells vs.toArray 70 (0, 0)) := by rw [hk.block T hT (fun e => hnT _ _ _ (h.rows i hi) T e rfl)]; exact h.blk
  have hrow : ∀ j, j < tx.length → j ≠ i → OwU w' lo (rwU vs j) (tx.getD j []) := fun j hj hji =>
    ownsRow_blocks (h.rows j hj) (fun k e => hk.block k ((h.rows j hj).lt e).2 (fun e2 => h.apart j i hj hi hji k e e2))
  have hua : ∀ j, j < tx.length → j ≠ i → Apart u (rwU vs j) := fun j hj hji k e e2 => by
    rcases hk.lies k e with h1 | h1
    · exact h.apart i j hi hj (fun e => hji e.symm) k h1 e2
    · have := ((h.rows j hj).lt e2).2; omega
  have hset : ∀ (x : Value) (l : List UInt8), OwU w' lo x l → OwU (w'.setCell ⟨T, i, none⟩ u) lo x l := fun x l hx =>
    ownsRow_blocks hx (fun k e => heap_setCell_other _ _ _ _ (hnT x _ _ hx k e))
  refine ⟨?_, h.low, by simp [hlen], fun j hj => ?_, fun j k hj hkk hjk => ?_⟩
  · rw [heap_setCell_same w' T i _ 70 _ hb]
    simp
  · rw [List.length_set] at hj
    rw [getD_setU _ _ _ _ hj, rwU_set _ _ _ _ (by omega)]
    by_cases e : j = i
    · rw [if_pos e, if_pos e]; exact hset u us hu
    · rw [if_neg e, if_neg e]; exact hset _ _ (hrow j hj e)
  · rw [List.length_set] at hj hkk
    rw [rwU_set _ _ _ _ (by omega), rwU_set _ _ _ _ (by omega)]
    by_cases e : j = i
    · rw [if_pos e, if_neg (by omega)]; exact hua k hkk (by omega)
    · rw [if_neg e]
      by_cases e2 : k = i
      · rw [if_pos e2]; exact (hua j hj e).symm
      · rw [if_neg e2]; exact h.apart j k hj hkk hjk
theorem TxV.same {w w' : World} {lo T : Nat} {vs : List Value} {tx : List (List UInt8)} (h : TxV w lo T vs tx) (hk : ∀ k, k = T ∨ (∃ i, i < vs.length ∧ (rwU vs i).ownBlock = some k) → w'.heap[k]? = w.heap[k]?) : TxV w' lo T vs tx :=
  ⟨by rw [hk T (Or.inl rfl)]; exact h.blk, h.low, h.len, fun i hi => ownsRow_blocks (h.rows i hi) (fun k e => hk k (Or.inr ⟨i, by rw [h.len]; exact hi, e⟩)), h.apart⟩

/-- The blocks that looking writes. -/
def Bk (G T : Nat) (vs : List Value) (k : Nat) : Prop := k = G ∨ k = T ∨ ∃ i, i < vs.length ∧ (rwU vs i).ownBlock = some k
/-- What is kept of what was found stays, where only these are written. -/
def StaR {Φ : Type} (R : World → (Nat → Prop) → Φ → Prop) : Prop := ∀ (w w' : World) (B B' : Nat → Prop) (φ : Φ), R w B φ → w.heap.size ≤ w'.heap.size → (∀ k, k < w.heap.size → ¬ B k → w'.heap[k]? = w.heap[k]?) → (∀ k, B' k → B k ∨ w.heap.size ≤ k) → R w' B' φ
/-- All that is known while looking. -/
structure Lk {Φ : Type} (R : World → (Nat → Prop) → Φ → Prop) (Fx : Nat → Prop) (lo G T n : Nat) (sv ev fv : Value) (w : World) (cl : Nat → Bool) (vs : List Value) (tx : List (List UInt8)) (st : Nat) (φ : Φ) : Prop where
  blk : w.heap[G]? = some (.cells (lkC sv ev cl (.slice (some ⟨T, 0, none⟩) n n) st fv) 63 (0, 0))
  tab : TxV w lo T vs tx
  num : tx.length = n
  ne : G ≠ T
  glo : G < lo
  los : lo ≤ w.heap.size
  rep : R w (Bk G T vs) φ
  fix : ∀ q, Fx q → q < lo ∧ q ≠ G ∧ q ≠ T
/-- The fixed blocks are as they were. -/
def FrF (Fx : Nat → Prop) (w w' : World) : Prop := w.heap.size ≤ w'.heap.size ∧ ∀ k, Fx k → w'.heap[k]? = w.heap[k]?
theorem FrF.refl (Fx : Nat → Prop) (w : World) : FrF Fx w w := ⟨Nat.le_refl _, fun _ _ => rfl⟩
theorem FrF.trans {Fx : Nat → Prop} {a b c : World} (h1 : FrF Fx a b) (h2 : FrF Fx b c) : FrF Fx a c := ⟨Nat.le_trans h1.1 h2.1, fun k hk => (h2.2 k hk).trans (h1.2 k hk)⟩
/-- A slice of points in fixed blocks. -/
def PSh (w : World) (Fx : Nat → Prop) (v : Value) (ps : List (Nat × Nat)) : Prop := ∃ a c, v = .slice a ps.length c ∧ ps.length ≤ c ∧ ∀ j, j < ps.length → ∃ b off, a = some ⟨b, off, none⟩ ∧ Fx b ∧ w.cell? ⟨b, off + j * 2, none⟩ = some (.int .i64 ((ptD ps j).1 : Int)) ∧ w.cell? ⟨b, off + j * 2 + 1, none⟩ = some (.int .i64 ((ptD ps j).2 : Int))
theorem cell_same {w w' : World} {b : Nat} (h : w'.heap[b]? = w.heap[b]?) (o : Nat) : w'.cell? ⟨b, o, none⟩ = w.cell? ⟨b, o, none⟩ := by
  simp only [World.cell?]; rw [h]
theorem PSh.frame {w w' : World} {Fx : Nat → Prop} {v : Value} {ps : List (Nat × Nat)} (h : PSh w Fx v ps) (hf : FrF Fx w w') : PSh w' Fx v ps := by
  obtain ⟨a, c, hv, hc, hj⟩ := h
  refine ⟨a, c, hv, hc, fun j hjl => ?_⟩
  obtain ⟨b, off, h1, h2, h3, h4⟩ := hj j hjl
  exact ⟨b, off, h1, h2, by rw [cell_same (hf.2 b h2)]; exact h3, by rw [cell_same (hf.2 b h2)]; exact h4⟩

end Go.Proofs.YtapchcamjeafmaaDoor
