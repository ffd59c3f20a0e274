/-
  The memory of the closure in signs.All.
-/
import Derived.Test.YtfdhbnbmobmlpaaDoorJAlc
import Derived.Test.YtfdhbnbmobmlpaaDoorJSrs
namespace Go.Proofs.YtfdhbnbmobmlpaaDoor
open Go.RowKit

theorem Tryd.infoCs : (Tryd.prog.info? 34).map (fun i => (i.zero, i.size, i.bytes)) = some (some (.slice none 0 0), 1, 24) := by kernel_rfl
theorem elem_cs : Elem 24 34 (.slice none 0 0) 24 := ⟨Tryd.underlying24, Tryd.infoCs, rfl⟩
theorem cell_oneS {w : World} {B : Nat} {v : Value} {ty : TypeId} (h : w.heap[B]? = some (.cells #[v] ty (0, 0))) : w.cell? ⟨B, 0, none⟩ = some v ∧ w.frozen? ⟨B, 0, none⟩ = false :=
  ⟨by simp [World.cell?, h], frozen_of_row w _ 0 _ _ h⟩
def ar5 (f : Nat → Int) : Array Value := #[.int .i64 (f 0), .int .i64 (f 1), .int .i64 (f 2), .int .i64 (f 3), .int .i64 (f 4)]
theorem ar5_get (f : Nat → Int) {i : Nat} (h : i < 5) : (ar5 f)[i]? = some (.int .i64 (f i)) := by
  rcases (show i = 0 ∨ i = 1 ∨ i = 2 ∨ i = 3 ∨ i = 4 by omega) with rfl | rfl | rfl | rfl | rfl <;> rfl
theorem ar5_set (f : Nat → Int) {i : Nat} (h : i < 5) (x : Int) : (ar5 f).setIfInBounds i (.int .i64 x) = ar5 (fun k => if k = i then x else f k) := by
  rcases (show i = 0 ∨ i = 1 ∨ i = 2 ∨ i = 3 ∨ i = 4 by omega) with rfl | rfl | rfl | rfl | rfl <;> rfl
theorem ar5_congr {f g : Nat → Int} (h : ∀ i, i < 5 → f i = g i) : ar5 f = ar5 g := by
  unfold ar5
  rw [h 0 (by omega), h 1 (by omega), h 2 (by omega), h 3 (by omega), h 4 (by omega)]

theorem TblV.keep' {w w' : World} {lo : Nat} {v : Value} {vs : List Value} {ls : List (List Int)} (h : TblV w lo v vs ls) (hv : ∀ k, v.ownBlock = some k → w'.heap[k]? = w.heap[k]?) (hr : ∀ i, i < ls.length → ∀ k, (rowv vs i).ownBlock = some k → w'.heap[k]? = w.heap[k]?) : TblV w' lo v vs ls :=
  ⟨ownsRow_blocks h.own hv, h.len, fun i hi => ownsRow_blocks (h.rows i hi) (hr i hi), h.apart, h.off⟩

/-- the closure's memory -/
structure SX (w0 w : World) (H l0 lo g n bR bC : Nat) (gs : Nat → Nat) (Q : Nat → Nat → Int) (fR fC : Nat → Int) (vl : Value) (us : List Value) (c : Nat) : Prop where
  st : ∀ k, k < lo → k ≠ l0 → k ≠ bR → k ≠ bC → (∀ i, i < n → k ≠ gs i) → w.heap[k]? = w0.heap[k]?
  sz : lo ≤ w.heap.size
  lb : w.heap[l0]? = some (.cells #[vl] 24 (0, 0))
  li : w.ownsRow lo 34 1 vl us.length us
  rz : Rez w H g n n gs Q
  ra : w.heap[bR]? = some (.cells (ar5 fR) 38 (0, 0))
  ca : w.heap[bC]? = some (.cells (ar5 fC) 38 (0, 0))
  lt : l0 < lo ∧ g < lo ∧ bR < lo ∧ bC < lo ∧ ∀ i, i < n → gs i < lo
  ne : g ≠ l0 ∧ g ≠ bR ∧ g ≠ bC ∧ l0 ≠ bR ∧ l0 ≠ bC ∧ bR ≠ bC
  na : ∀ i, i < n → gs i ≠ l0 ∧ gs i ≠ bR ∧ gs i ≠ bC
  ln : us.length = c
  be : Below H w0 w
  hh : H ≤ l0 ∧ H ≤ bR ∧ H ≤ bC

section
variable {w0 w w' : World} {H l0 lo g n bR bC : Nat} {gs : Nat → Nat} {Q Q' : Nat → Nat → Int} {fR fC fR' fC' : Nat → Int} {vl : Value} {us : List Value} {c : Nat}
theorem SX.congr (h : SX w0 w H l0 lo g n bR bC gs Q fR fC vl us c) (e1 : ∀ i, i < 5 → fR i = fR' i) (e2 : ∀ i, i < 5 → fC i = fC' i) : SX w0 w H l0 lo g n bR bC gs Q fR' fC' vl us c :=
  ⟨h.st, h.sz, h.lb, h.li, h.rz, by rw [← ar5_congr e1]; exact h.ra, by rw [← ar5_congr e2]; exact h.ca, h.lt, h.ne, h.na, h.ln, h.be, h.hh⟩
theorem SX.below (h : SX w0 w H l0 lo g n bR bC gs Q fR fC vl us c) (hb : Below w.heap.size w w') : SX w0 w' H l0 lo g n bR bC gs Q fR fC vl us c := by
  obtain ⟨b1, b2, b3, b4, b5⟩ := h.lt
  have hs := h.sz
  exact ⟨fun k h1 h2 h3 h4 h5 => by rw [hb.block k (by omega)]; exact h.st k h1 h2 h3 h4 h5, Nat.le_trans h.sz hb.size, by rw [hb.block l0 (by omega)]; exact h.lb, ownsRow_blocks h.li (fun k e => hb.block k (h.li.lt k e).2), h.rz.below hb, by rw [hb.block bR (by omega)]; exact h.ra, by rw [hb.block bC (by omega)]; exact h.ca, h.lt, h.ne, h.na, h.ln, h.be.trans (hb.mono (by have := h.hh.1; omega)), h.hh⟩
/-- a box is stored -/
theorem SX.setQ {W : World} (h : SX w0 w H l0 lo g n bR bC gs Q fR fC vl us c) {i j : Nat} (hi : i < n) (hj : j < n) (x : Int) (hW : W.heap = w.heap) (hb : Below w.heap.size w W) : SX w0 (W.setCell ⟨gs i, j, none⟩ (.int .i64 x)) H l0 lo g n bR bC gs (updz Q i j x) fR fC vl us c := by
  obtain ⟨b1, b2, b3, b4, b5⟩ := h.lt
  obtain ⟨c1, c2, c3⟩ := h.na i hi
  have key : ∀ k, k ≠ gs i → (W.setCell ⟨gs i, j, none⟩ (.int .i64 x)).heap[k]? = w.heap[k]? := fun k hk => by rw [heap_setCell_other _ _ _ _ hk, hW]
  have hs : (W.setCell ⟨gs i, j, none⟩ (.int .i64 x)).heap.size = w.heap.size := by simp [hW]
  have hlo := (h.rz.box hi hj).2.2.1
  have hg := b5 i hi
  exact ⟨fun k h1 h2 h3 h4 h5 => by rw [key k (h5 i hi)]; exact h.st k h1 h2 h3 h4 h5, by rw [hs]; exact h.sz, by rw [key l0 (fun e => c1 e.symm)]; exact h.lb, ownsRow_blocks h.li (fun k e => key k (by have := (h.li.lt k e).1; omega)), h.rz.set hi x hW, by rw [key bR (fun e => c2 e.symm)]; exact h.ra, by rw [key bC (fun e => c3 e.symm)]; exact h.ca, h.lt, h.ne, h.na, h.ln, (h.be.trans (hb.mono (by have := h.hh.1; have := h.sz; omega))).setCell (p := ⟨gs i, j, none⟩) hlo _, h.hh⟩
/-- a sum of a row is stored -/
theorem SX.setR {W : World} (h : SX w0 w H l0 lo g n bR bC gs Q fR fC vl us c) {i : Nat} (hi : i < 5) (x : Int) (hW : W.heap = w.heap) (hb : Below w.heap.size w W) : SX w0 (W.setCell ⟨bR, i, none⟩ (.int .i64 x)) H l0 lo g n bR bC gs Q (fun k => if k = i then x else fR k) fC vl us c := by
  obtain ⟨b1, b2, b3, b4, b5⟩ := h.lt
  obtain ⟨c1, c2, c3, c4, c5, c6⟩ := h.ne
  have key : ∀ k, k ≠ bR → (W.setCell ⟨bR, i, none⟩ (.int .i64 x)).heap[k]? = w.heap[k]? := fun k hk => by rw [heap_setCell_other _ _ _ _ hk, hW]
  have hs : (W.setCell ⟨bR, i, none⟩ (.int .i64 x)).heap.size = w.heap.size := by simp [hW]
  refine ⟨fun k h1 h2 h3 h4 h5 => by rw [key k h3]; exact h.st k h1 h2 h3 h4 h5, by rw [hs]; exact h.sz, by rw [key l0 c4]; exact h.lb, ownsRow_blocks h.li (fun k e => key k (by have := (h.li.lt k e).1; omega)), ⟨h.rz.t.keep' (fun k e => key k ?_) (fun a ha k e => key k ?_)⟩, ?_, by rw [key bC (fun e => c6 e.symm)]; exact h.ca, h.lt, h.ne, h.na, h.ln, (h.be.trans (hb.mono (by have := h.hh.1; have := h.sz; omega))).setCell (p := ⟨bR, i, none⟩) h.hh.2.1 _, h.hh⟩
  · cases e; exact c2
  · rw [tz_len] at ha
    rw [rvs_at ha] at e
    cases e
    exact (h.na a ha).2.1
  · rw [heap_setCell_same W bR i (ar5 fR) 38 _ (by rw [hW]; exact h.ra), ar5_set _ hi]
theorem SX.setC {W : World} (h : SX w0 w H l0 lo g n bR bC gs Q fR fC vl us c) {i : Nat} (hi : i < 5) (x : Int) (hW : W.heap = w.heap) (hb : Below w.heap.size w W) : SX w0 (W.setCell ⟨bC, i, none⟩ (.int .i64 x)) H l0 lo g n bR bC gs Q fR (fun k => if k = i then x else fC k) vl us c := by
  obtain ⟨b1, b2, b3, b4, b5⟩ := h.lt
  obtain ⟨c1, c2, c3, c4, c5, c6⟩ := h.ne
  have key : ∀ k, k ≠ bC → (W.setCell ⟨bC, i, none⟩ (.int .i64 x)).heap[k]? = w.heap[k]? := fun k hk => by rw [heap_setCell_other _ _ _ _ hk, hW]
  have hs : (W.setCell ⟨bC, i, none⟩ (.int .i64 x)).heap.size = w.heap.size := by simp [hW]
  refine ⟨fun k h1 h2 h3 h4 h5 => by rw [key k h4]; exact h.st k h1 h2 h3 h4 h5, by rw [hs]; exact h.sz, by rw [key l0 c5]; exact h.lb, ownsRow_blocks h.li (fun k e => key k (by have := (h.li.lt k e).1; omega)), ⟨h.rz.t.keep' (fun k e => key k ?_) (fun a ha k e => key k ?_)⟩, by rw [key bR c6]; exact h.ra, ?_, h.lt, h.ne, h.na, h.ln, (h.be.trans (hb.mono (by have := h.hh.1; have := h.sz; omega))).setCell (p := ⟨bC, i, none⟩) h.hh.2.2 _, h.hh⟩
  · cases e; exact c3
  · rw [tz_len] at ha
    rw [rvs_at ha] at e
    cases e
    exact (h.na a ha).2.2
  · rw [heap_setCell_same W bC i (ar5 fC) 38 _ (by rw [hW]; exact h.ca), ar5_set _ hi]
/-- the list grows by a matrix that was copied since -/
theorem SX.push {w1 w2 : World} {v2 u : Value} (h : SX w0 w H l0 lo g n bR bC gs Q fR fC vl us c) (hb : Below w.heap.size w w1) (ho : w2.ownsRow lo 34 1 v2 (us ++ [u]).length (us ++ [u])) (hb2 : Below lo w1 w2) (hk : KeepB vl v2 w1 w2) :
    SX w0 (w2.setCell ⟨l0, 0, none⟩ v2) H l0 lo g n bR bC gs Q fR fC v2 (us ++ [u]) (c + 1) := by
  have h1 := h.below hb
  obtain ⟨b1, b2, b3, b4, b5⟩ := h.lt
  obtain ⟨c1, c2, c3, c4, c5, c6⟩ := h.ne
  have hsz := h1.sz
  have hks := hk.size
  have hvl : ∀ k, k < lo → vl.ownBlock ≠ some k := fun k hk2 e => by have := (h.li.lt k e).1; omega
  have key : ∀ k, k < lo → k ≠ l0 → (w2.setCell ⟨l0, 0, none⟩ v2).heap[k]? = w1.heap[k]? := fun k a1 a3 => by
    rw [heap_setCell_other _ _ _ _ a3, hk.block k (by omega) (hvl k a1)]
  have hs : (w2.setCell ⟨l0, 0, none⟩ v2).heap.size = w2.heap.size := by simp
  refine ⟨fun k a1 a2 a3 a4 a5 => by rw [key k a1 a2]; exact h1.st k a1 a2 a3 a4 a5, by rw [hs]; omega, ?_, ownsRow_blocks ho (fun k e => heap_setCell_other _ _ _ _ (by have := (ho.lt k e).1; show k ≠ l0; omega)), ⟨h1.rz.t.keep' (fun k e => ?_) (fun a ha k e => ?_)⟩, by rw [key bR b3 (fun e => c4 e.symm)]; exact h1.ra, by rw [key bC b4 (fun e => c5 e.symm)]; exact h1.ca, h.lt, h.ne, h.na, by simp [h.ln], ?_, h.hh⟩
  · have e0 : w2.heap[l0]? = some (.cells #[vl] 24 (0, 0)) := by rw [hk.block l0 (by omega) (hvl l0 b1)]; exact h1.lb
    have := heap_setCell_same w2 l0 0 _ _ v2 e0
    simpa using this
  · cases e; exact key g b2 c1
  · rw [tz_len] at ha
    rw [rvs_at ha] at e
    cases e
    exact key _ (b5 a ha) (h.na a ha).1
  · exact (h1.be.trans (hb2.mono (by have := h.hh.1; omega))).setCell (p := ⟨l0, 0, none⟩) h.hh.1 _
end

end Go.Proofs.YtfdhbnbmobmlpaaDoor
