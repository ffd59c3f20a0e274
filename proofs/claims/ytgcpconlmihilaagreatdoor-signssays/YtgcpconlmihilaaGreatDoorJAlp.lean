/-
  The memory of the closure in signs.All.
  The closure in signs.All: sums so far, and its end.
-/
import Derived.Test.YtgcpconlmihilaaGreatDoorJSrs
namespace Go.Proofs.YtgcpconlmihilaaGreatDoor
open Go.RowKit

theorem Tryz.infoCs : (Tryz.prog.info? 22).map (fun i => (i.zero, i.size, i.bytes)) = some (some (.slice none 0 0), 1, 24) := by kernel_rfl
theorem elem_cs : Elem 29 22 (.slice none 0 0) 24 := ⟨Tryz.underlying29, Tryz.infoCs, rfl⟩
theorem cell_oneS {w : World} {B : Nat} {v : Value} {ty : TypeId} (h : w.heap[B]? = some (.cells #[v] ty (0, 0))) : w.cell? ⟨B, 0, none⟩ = some v ∧ w.frozen? ⟨B, 0, none⟩ = false :=
  ⟨by simp [World.cell?, h], frozen_of_row w _ 0 _ _ h⟩
def ar5 (f : Nat → Int) : Array Value := #[.int .i64 (f 0), .int .i64 (f 1), .int .i64 (f 2), .int .i64 (f 3), .int .i64 (f 4)]
theorem ar5_get (f : Nat → Int) {i : Nat} (h : i < 5) : (ar5 f)[i]? = some (.int .i64 (f i)) := by
  rcases (show i = 0 ∨ i = 1 ∨ i = 2 ∨ i = 3 ∨ i = 4 by omega) with rfl | rfl | rfl | rfl | rfl <;> rfl
theorem ar5_set (f : Nat → Int) {i : Nat} (h : i < 5) (x : Int) : (ar5 f).setIfInBounds i (.int .i64 x) = ar5 (fun k => if k = i then x else f k) := by
  rcases (show i = 0 ∨ i = 1 ∨ i = 2 ∨ i = 3 ∨ i = 4 by omega) with rfl | rfl | rfl | rfl | rfl <;> rfl
theorem ar5_congr {f g : Nat → Int} (h : ∀ i, i < 5 → f i = g i) : ar5 f = ar5 g := by
  unfold ar5
  rw [h 0 (by omega), h 1 (by omega), h 2 (by omega), h 3 (by omega), h 4 (by omega)]

theorem TblV.keep' {w w' : World} {lo : Nat} {v : Value} {vs : List Value} {ls : List (List Int)} (h : TblV w lo v vs ls) (hv : ∀ k, v.ownBlock = some k → w'.heap[k]? = w.heap[k]?) (hr : ∀ i, i < ls.length → ∀ k, (rowv vs i).ownBlock = some k → w'.heap[k]? = w.heap[k]?) : TblV w' lo v vs ls :=
  ⟨ownsRow_blocks h.own hv, h.len, fun i hi => ownsRow_blocks (h.rows i hi) (hr i hi), h.apart, h.off⟩

/-- the closure's memory -/
structure SX (w0 w : World) (H l0 lo g n bR bC : Nat) (gs : Nat → Nat) (Q : Nat → Nat → Int) (fR fC : Nat → Int) (vl : Value) (us : List Value) (c : Nat) : Prop where
  st : ∀ k, k < lo → k ≠ l0 → k ≠ bR → k ≠ bC → (∀ i, i < n → k ≠ gs i) → w.heap[k]? = w0.heap[k]?
  sz : lo ≤ w.heap.size
  lb : w.heap[l0]? = some (.cells #[vl] 29 (0, 0))
  li : w.ownsRow lo 22 1 vl us.length us
  rz : Rez w H g n n gs Q
  ra : w.heap[bR]? = some (.cells (ar5 fR) 54 (0, 0))
  ca : w.heap[bC]? = some (.cells (ar5 fC) 54 (0, 0))
  lt : l0 < lo ∧ g < lo ∧ bR < lo ∧ bC < lo ∧ ∀ i, i < n → gs i < lo
  ne : g ≠ l0 ∧ g ≠ bR ∧ g ≠ bC ∧ l0 ≠ bR ∧ l0 ≠ bC ∧ bR ≠ bC
  na : ∀ i, i < n → gs i ≠ l0 ∧ gs i ≠ bR ∧ gs i ≠ bC
  ln : us.length = c
  be : Below H w0 w
  hh : H ≤ l0 ∧ H ≤ bR ∧ H ≤ bC

section
variable {w0 w w' : World} {H l0 lo g n bR bC : Nat} {gs : Nat → Nat} {Q Q' : Nat → Nat → Int} {fR fC fR' fC' : Nat → Int} {vl : Value} {us : List Value} {c : Nat}
theorem SX.congr (h : SX w0 w H l0 lo g n bR bC gs Q fR fC vl us c) (e1 : ∀ i, i < 5 → fR i = fR' i) (e2 : ∀ i, i < 5 → fC i = fC' i) : SX w0 w H l0 lo g n bR bC gs Q fR' fC' vl us c :=
  ⟨h.st, h.sz, h.lb, h.li, h.rz, by rw [← ar5_congr e1]; exact h.ra, by rw [← ar5_congr e2]; exact h.ca, h.lt, h.ne, h.na, h.ln, h.be, h.hh⟩
theorem SX.below (h : SX w0 w H l0 lo g n bR bC gs Q fR fC vl us c) (hb : Below w.heap.size w w') : SX w0 w' H l0 lo g n bR bC gs Q fR fC vl us c := by
  obtain ⟨b1, b2, b3, b4, b5⟩ := h.lt
  have hs := h.sz
  exact ⟨fun k h1 h2 h3 h4 h5 => by rw [hb.block k (by omega)]; exact h.st k h1 h2 h3 h4 h5, Nat.le_trans h.sz hb.size, by rw [hb.block l0 (by omega)]; exact h.lb, ownsRow_blocks h.li (fun k e => hb.block k (h.li.lt k e).2), h.rz.below hb, by rw [hb.block bR (by omega)]; exact h.ra, by rw [hb.block bC (by omega)]; exact h.ca, h.lt, h.ne, h.na, h.ln, h.be.trans (hb.mono (by have := h.hh.1; omega)), h.hh⟩
/-- a box is stored -/
theorem SX.setQ {W : World} (h : SX w0 w H l0 lo g n bR bC gs Q fR fC vl us c) {i j : Nat} (hi : i < n) (hj : j < n) (x : Int) (hW : W.heap = w.heap) (hb : Below w.heap.size w W) : SX w0 (W.setCell ⟨gs i, j, none⟩ (.int .i64 x)) H l0 lo g n bR bC gs (updz Q i j x) fR fC vl us c := by
  obtain ⟨b1, b2, b3, b4, b5⟩ := h.lt
  obtain ⟨c1, c2, c3⟩ := h.na i hi
  have key : ∀ k, k ≠ gs i → (W.setCell ⟨gs i, j, none⟩ (.int .i64 x)).heap[k]? = w.heap[k]? := fun k hk => by rw [heap_setCell_other _ _ _ _ hk, hW]
  have hs : (W.setCell ⟨gs i, j, none⟩ (.int .i64 x)).heap.size = w.heap.size := by simp [hW]
  have hlo := (h.rz.box hi hj).2.2.1
  have hg := b5 i hi
  exact ⟨fun k h1 h2 h3 h4 h5 => by rw [key k (h5 i hi)]; exact h.st k h1 h2 h3 h4 h5, by rw [hs]; exact h.sz, by rw [key l0 (fun e => c1 e.symm)]; exact h.lb, ownsRow_blocks h.li (fun k e => key k (by have := (h.li.lt k e).1; omega)), h.rz.set hi x hW, by rw [key bR (fun e => c2 e.symm)]; exact h.ra, by rw [key bC (fun e => c3 e.symm)]; exact h.ca, h.lt, h.ne, h.na, h.ln, (h.be.trans (hb.mono (by have := h.hh.1; have := h.sz; omega))).setCell (p := ⟨gs i, j, none⟩) hlo _, h.hh⟩
/-- a sum of a row is stored -/
theorem SX.setR {W : World} (h : SX w0 w H l0 lo g n bR bC gs Q fR fC vl us c) {i : Nat} (hi : i < 5) (x : Int) (hW : W.heap = w.heap) (hb : Below w.heap.size w W) : SX w0 (W.setCell ⟨bR, i, none⟩ (.int .i64 x)) H l0 lo g n bR bC gs Q (fun k => if k = i then x else fR k) fC vl us c := by
  obtain ⟨b1, b2, b3, b4, b5⟩ := h.lt
  obtain ⟨c1, c2, c3, c4, c5, c6⟩ := h.ne
  have key : ∀ k, k ≠ bR → (W.setCell ⟨bR, i, none⟩ (.int .i64 x)).heap[k]? = w.heap[k]? := fun k hk => by rw [heap_setCell_other _ _ _ _ hk, hW]
  have hs : (W.setCell ⟨bR, i, none⟩ (.int .i64 x)).heap.size = w.heap.size := by simp [hW]
  refine ⟨fun k h1 h2 h3 h4 h5 => by rw [key k h3]; exact h.st k h1 h2 h3 h4 h5, by rw [hs]; exact h.sz, by rw [key l0 c4]; exact h.lb, ownsRow_blocks h.li (fun k e => key k (by have := (h.li.lt k e).1; omega)), ⟨h.rz.t.keep' (fun k e => key k ?_) (fun a ha k e => key k ?_)⟩, ?_, by rw [key bC (fun e => c6 e.symm)]; exact h.ca, h.lt, h.ne, h.na, h.ln, (h.be.trans (hb.mono (by have := h.hh.1; have := h.sz; omega))).setCell (p := ⟨bR, i, none⟩) h.hh.2.1 _, h.hh⟩
  · cases e; exact c2
  · rw [tz_len] at ha
    rw [rvs_at ha] at e
    cases e
    exact (h.na a ha).2.1
  · rw [heap_setCell_same W bR i (ar5 fR) 54 _ (by rw [hW]; exact h.ra), ar5_set _ hi]
theorem SX.setC {W : World} (h : SX w0 w H l0 lo g n bR bC gs Q fR fC vl us c) {i : Nat} (hi : i < 5) (x : Int) (hW : W.heap = w.heap) (hb : Below w.heap.size w W) : SX w0 (W.setCell ⟨bC, i, none⟩ (.int .i64 x)) H l0 lo g n bR bC gs Q fR (fun k => if k = i then x else fC k) vl us c := by
  obtain ⟨b1, b2, b3, b4, b5⟩ := h.lt
  obtain ⟨c1, c2, c3, c4, c5, c6⟩ := h.ne
  have key : ∀ k, k ≠ bC → (W.setCell ⟨bC, i, none⟩ (.int .i64 x)).heap[k]? = w.heap[k]? := fun k hk => by rw [heap_setCell_other _ _ _ _ hk, hW]
  have hs : (W.setCell ⟨bC, i, none⟩ (.int .i64 x)).heap.size = w.heap.size := by simp [hW]
  refine ⟨fun k h1 h2 h3 h4 h5 => by rw [key k h4]; exact h.st k h1 h2 h3 h4 h5, by rw [hs]; exact h.sz, by rw [key l0 c5]; exact h.lb, ownsRow_blocks h.li (fun k e => key k (by have := (h.li.lt k e).1; omega)), ⟨h.rz.t.keep' (fun k e => key k ?_) (fun a ha k e => key k ?_)⟩, by rw [key bR c6]; exact h.ra, ?_, h.lt, h.ne, h.na, h.ln, (h.be.trans (hb.mono (by have := h.hh.1; have := h.sz; omega))).setCell (p := ⟨bC, i, none⟩) h.hh.2.2 _, h.hh⟩
  · cases e; exact c3
  · rw [tz_len] at ha
    rw [rvs_at ha] at e
    cases e
    exact (h.na a ha).2.2
  · rw [heap_setCell_same W bC i (ar5 fC) 54 _ (by rw [hW]; exact h.ca), ar5_set _ hi]
/-- the list grows by a matrix that was copied since -/
theorem SX.push {w1 w2 : World} {v2 u : Value} (h : SX w0 w H l0 lo g n bR bC gs Q fR fC vl us c) (hb : Below w.heap.size w w1) (ho : w2.ownsRow lo 22 1 v2 (us ++ [u]).length (us ++ [u])) (hb2 : Below lo w1 w2) (hk : KeepB vl v2 w1 w2) :
    SX w0 (w2.setCell ⟨l0, 0, none⟩ v2) H l0 lo g n bR bC gs Q fR fC v2 (us ++ [u]) (c + 1) := by
  have h1 := h.below hb
  obtain ⟨b1, b2, b3, b4, b5⟩ := h.lt
  obtain ⟨c1, c2, c3, c4, c5, c6⟩ := h.ne
  have hsz := h1.sz
  have hks := hk.size
  have hvl : ∀ k, k < lo → vl.ownBlock ≠ some k := fun k hk2 e => by have := (h.li.lt k e).1; omega
  have key : ∀ k, k < lo → k ≠ l0 → (w2.setCell ⟨l0, 0, none⟩ v2).heap[k]? = w1.heap[k]? := fun k a1 a3 => by
    rw [heap_setCell_other _ _ _ _ a3, hk.block k (by omega) (hvl k a1)]
  have hs : (w2.setCell ⟨l0, 0, none⟩ v2).heap.size = w2.heap.size := by simp
  refine ⟨fun k a1 a2 a3 a4 a5 => by rw [key k a1 a2]; exact h1.st k a1 a2 a3 a4 a5, by rw [hs]; omega, ?_, ownsRow_blocks ho (fun k e => heap_setCell_other _ _ _ _ (by have := (ho.lt k e).1; show k ≠ l0; omega)), ⟨h1.rz.t.keep' (fun k e => ?_) (fun a ha k e => ?_)⟩, by rw [key bR b3 (fun e => c4 e.symm)]; exact h1.ra, by rw [key bC b4 (fun e => c5 e.symm)]; exact h1.ca, h.lt, h.ne, h.na, by simp [h.ln], ?_, h.hh⟩
  · have e0 : w2.heap[l0]? = some (.cells #[vl] 29 (0, 0)) := by rw [hk.block l0 (by omega) (hvl l0 b1)]; exact h1.lb
    have := heap_setCell_same w2 l0 0 _ _ v2 e0
    simpa using this
  · cases e; exact key g b2 c1
  · rw [tz_len] at ha
    rw [rvs_at ha] at e
    cases e
    exact key _ (b5 a ha) (h.na a ha).1
  · exact (h1.be.trans (hb2.mono (by have := h.hh.1; omega))).setCell (p := ⟨l0, 0, none⟩) h.hh.1 _
end

end Go.Proofs.YtgcpconlmihilaaGreatDoor

namespace Go.Proofs.YtgcpconlmihilaaGreatDoor
open Go.RowKit

/-- what rows come to -/
def rwT (n : Nat) (X : List Int) (i : Nat) : Int := sum ((X.drop (i * n)).take n)
theorem place_split {n p : Nat} (h : 1 ≤ n) : n * (p / n) + p % n = p ∧ p % n < n := ⟨Nat.div_add_mod p n, Nat.mod_lt _ h⟩
theorem mul_rowS {n a b : Nat} (h : a < b) : a * n + n ≤ b * n := by
  have := Nat.mul_le_mul_right n (show a + 1 ≤ b from h)
  rw [Nat.succ_mul] at this
  exact this
theorem rwT_cur {n : Nat} {X : List Int} (h : 1 ≤ n) : rwT n X (X.length / n) = rwS n X (X.length / n) := by
  obtain ⟨h1, h2⟩ := place_split (n := n) (p := X.length) h
  unfold rwT rwS
  rw [List.take_of_length_le]
  rw [List.length_drop]
  rw [Nat.mul_comm] at h1
  omega
theorem rwT_snoc {n : Nat} {X : List Int} (h : 1 ≤ n) (z : Int) (a : Nat) : rwT n (X ++ [z]) a = rwT n X a + (if a = X.length / n then z else 0) := by
  obtain ⟨h1, h2⟩ := place_split (n := n) (p := X.length) h
  rw [Nat.mul_comm] at h1
  unfold rwT
  by_cases e : a = X.length / n
  · subst e
    rw [if_pos rfl, List.drop_append_of_le_length (by omega), List.take_of_length_le (by rw [List.length_append, List.length_drop, List.length_singleton]; omega), sum_append, List.take_of_length_le (by rw [List.length_drop]; omega)]
    simp [sum]
  · rw [if_neg e, Int.add_zero]
    by_cases e2 : a < X.length / n
    · have := mul_rowS (n := n) e2
      rw [List.drop_append_of_le_length (by omega), List.take_append_of_le_length (by rw [List.length_drop]; omega)]
    · have := mul_rowS (n := n) (show X.length / n < a by omega)
      rw [List.drop_of_length_le (by rw [List.length_append, List.length_singleton]; omega), List.drop_of_length_le (by omega)]
theorem getD_snoc (X : List Int) (z : Int) (p : Nat) : (X ++ [z]).getD p 0 = X.getD p 0 + (if p = X.length then z else 0) := by
  by_cases h : p < X.length
  · rw [if_neg (by omega), Int.add_zero]
    simp [List.getD, List.getElem?_append_left h]
  · by_cases e : p = X.length
    · subst e; simp [List.getD]
    · rw [if_neg e]
      simp [List.getD, List.getElem?_eq_none (show X.length ≤ p by omega), List.getElem?_eq_none (show (X ++ [z]).length ≤ p by simp; omega)]
theorem clS_snoc {n : Nat} {X : List Int} (h : 1 ≤ n) (z : Int) {j : Nat} (hj : j < n) : ∀ a, clS n (X ++ [z]) a j = clS n X a j + (if X.length / n < a ∧ j = X.length % n then z else 0)
  | 0 => by rw [if_neg (fun q => absurd q.1 (Nat.not_lt_zero _))]; rfl
  | a + 1 => by
    obtain ⟨h1, h2⟩ := place_split (n := n) (p := X.length) h
    rw [Nat.mul_comm] at h1
    show clS n (X ++ [z]) a j + (X ++ [z]).getD (a * n + j) 0 = clS n X a j + X.getD (a * n + j) 0 + _
    rw [clS_snoc h z hj a, getD_snoc]
    have key : a * n + j = X.length ↔ a = X.length / n ∧ j = X.length % n := by
      constructor
      · intro e
        rw [← e, Nat.mul_comm, Nat.mul_add_div (by omega), Nat.mul_add_mod, Nat.div_eq_of_lt hj, Nat.mod_eq_of_lt hj]
        exact ⟨rfl, rfl⟩
      · rintro ⟨e1, e2⟩
        rw [e1, e2]; exact h1
    by_cases e : a * n + j = X.length
    · obtain ⟨e1, e2⟩ := key.1 e
      rw [if_pos e, if_neg (by omega), if_pos ⟨by omega, e2⟩]; omega
    · rw [if_neg e]
      by_cases e3 : X.length / n < a ∧ j = X.length % n
      · rw [if_pos e3, if_pos ⟨by omega, e3.2⟩]; omega
      · rw [if_neg e3, if_neg (fun q => e3 ⟨by
          have : a ≠ X.length / n := fun e4 => e (key.2 ⟨e4, q.2⟩)
          omega, q.2⟩)]; omega
theorem clS_cur {n : Nat} {X : List Int} (h : 1 ≤ n) : ∀ d, clS n X (X.length / n + d) (X.length % n) = clS n X (X.length / n) (X.length % n)
  | 0 => rfl
  | d + 1 => by
    obtain ⟨h1, h2⟩ := place_split (n := n) (p := X.length) h
    rw [Nat.mul_comm] at h1
    show clS n X (X.length / n + d) (X.length % n) + X.getD ((X.length / n + d) * n + X.length % n) 0 = _
    rw [clS_cur h d]
    have : X.length ≤ (X.length / n + d) * n + X.length % n := by rw [Nat.add_mul]; omega
    simp [List.getD, List.getElem?_eq_none this]
theorem sum_bd {l : List Int} (h : ∀ z ∈ l, -1 ≤ z ∧ z ≤ 1) : -(l.length : Int) ≤ sum l ∧ sum l ≤ l.length := by
  induction l with
  | nil => simp [sum]
  | cons z l ih =>
    have h1 := ih (fun y hy => h y (by simp [hy]))
    have h2 := h z (by simp)
    simp only [sum, List.length_cons]
    omega
theorem rwT_bd {n : Nat} {X : List Int} (h : ∀ z ∈ X, -1 ≤ z ∧ z ≤ 1) (i : Nat) : -(n : Int) ≤ rwT n X i ∧ rwT n X i ≤ n := by
  have h1 := sum_bd (l := (X.drop (i * n)).take n) (fun z hz => h z (List.mem_of_mem_drop (List.mem_of_mem_take hz)))
  rw [List.length_take] at h1
  unfold rwT
  omega
theorem clS_bd {n : Nat} {X : List Int} (h : ∀ z ∈ X, -1 ≤ z ∧ z ≤ 1) (j : Nat) : ∀ a : Nat, -(a : Int) ≤ clS n X a j ∧ clS n X a j ≤ a
  | 0 => by simp [clS]
  | a + 1 => by
    have h1 := clS_bd (n := n) h j a
    have h2 : -1 ≤ X.getD (a * n + j) 0 ∧ X.getD (a * n + j) 0 ≤ 1 := by
      by_cases hp : a * n + j < X.length
      · exact h _ (getD_mem hp)
      · simp [List.getD, List.getElem?_eq_none (Nat.le_of_not_lt hp)]
    show -((a + 1 : Nat) : Int) ≤ clS n X a j + X.getD (a * n + j) 0 ∧ clS n X a j + X.getD (a * n + j) 0 ≤ ((a + 1 : Nat) : Int)
    omega

abbrev bxS (g : Nat) : Value := .pointer (some ⟨g, 0, none⟩)
abbrev ptS (bN l0 bS bR bC bF : Nat) : Value := .func (.func 24) #[] #[bxS bN, bxS l0, bxS bS, bxS bR, bxS bC, bxS bF]
/-- what does not change while the closure runs -/
structure SE (w0 : World) (l0 lo g n bN bS bR bC bF : Nat) (gs : Nat → Nat) : Prop where
  cs : ∀ W : World, (∀ k, k < lo → k ≠ l0 → k ≠ bR → k ≠ bC → (∀ i, i < n → k ≠ gs i) → W.heap[k]? = w0.heap[k]?) → W.cell? ⟨bN, 0, none⟩ = some (.int .i64 (n : Int)) ∧ W.cell? ⟨bS, 0, none⟩ = some (.slice (some ⟨g, 0, none⟩) n n) ∧ W.cell? ⟨bF, 0, none⟩ = some (ptS bN l0 bS bR bC bF)
  n1 : 1 ≤ n
  n5 : n ≤ 5

theorem own_shapeS {w : World} {lo : Nat} {e : TypeId} {v : Value} {us : List Value} (h : w.ownsRow lo e 1 v us.length us) : ∃ a c, v = .slice a us.length c := by
  rcases h.2 with ⟨hv, hn⟩ | ⟨g, cap, cur, hv, _⟩
  · exact ⟨none, 0, by rw [hv, hn]⟩
  · exact ⟨_, _, hv⟩

theorem step_scop {w : World} {x : Value} {P : Value → World → Prop} {ops : Array Oper} {o : Oper} {a : Act} {K : Act → World → Prop} {Q : Exit → Act → World → Prop} {EE : Prop} (hgd : o.guard = none) (y : Operand)
    (ho : o.op = .call { callee := .value (.func 25), args := #[y], argTypes := #[22] }) (hx : a.eval y = x) (hc : Calls Tryz.prog 25 #[x] w fun e w' => ∃ v, e = .returned v ∧ P v w') (h : ∀ v w', P v w' → K (a.put o.dst v) w') :
    if Region.wanted o (yielded ops a.tmps) = true then Oper.wp Tryz.prog o a w K Q else EE := by
  have hw : Region.wanted o (yielded ops a.tmps) = true := by simp [Region.wanted, hgd]
  rw [if_pos hw]
  unfold Oper.wp
  simp [execOp, ho, resolve, invoke, hx]
  simp [Act.eval, Deferred.ofValue, callFunc, Tryz.func25]
  refine hc.mono ?_
  rintro e w' ⟨v, rfl, hP⟩
  exact h v w' hP

section
variable {w0 : World} {H l0 lo g n bN bS bR bC bF : Nat} {gs : Nat → Nat}

set_option maxHeartbeats 8000000 in
set_option maxRecDepth 100000 in
theorem PutS_leaf {w : World} {Q : Nat → Nat → Int} {fR fC : Nat → Int} {vl : Value} {us : List Value} {c p : Nat} (E : SE w0 l0 lo g n bN bS bR bC bF gs) (hX : SX w0 w H l0 lo g n bR bC gs Q fR fC vl us c) (hc : c ≤ 1000000) (hp : p = n * n) (hQ : ∀ i, i < n → ∀ j, j < n → -1 ≤ Q i j ∧ Q i j ≤ 1) :
    Calls Tryz.prog 24 #[.int .i64 (p : Int), bxS bN, bxS l0, bxS bS, bxS bR, bxS bC, bxS bF] w fun e w' => e = .returned (.tuple #[]) ∧ ∃ vl' us', SX w0 w' H l0 lo g n bR bC gs Q fR fC vl' us' (c + 1) := by
  obtain ⟨av, cv, hvl⟩ := own_shapeS hX.li
  obtain ⟨m, HM⟩ : ∃ m, Hid (m = us.length) := ⟨_, rfl⟩
  rw [← HM.out] at hvl
  have hm : m ≤ 1000000 := by rw [HM.out, hX.ln]; exact hc
  subst hvl
  have c0 := (cell_oneS hX.lb).1
  obtain ⟨s1, s2, s3⟩ := E.cs w hX.st
  have n1 := E.n1; have n5 := E.n5
  have hT : Table w (some ⟨g, 0, none⟩) (tz n n Q) := by
    obtain ⟨at', nt, ct, et, hT, HNt⟩ := hX.rz.tbl.table (tz_wf (by omega) (fun i hi j hj => by have := hQ i hi j hj; omega))
    simp only [Value.slice.injEq] at et
    rw [et.1]; exact hT
  have HX : Hid (SX w0 w H l0 lo g n bR bC gs Q fR fC (.slice av m cv) us c) := hX
  have HE0 : Hid (SE w0 l0 lo g n bN bS bR bC bF gs) := E
  have HC : Hid (∀ W, Below w.heap.size w W → Calls Tryz.prog 25 #[.slice (some ⟨g, 0, none⟩) n n] W fun e w' => ∃ v, e = .returned v ∧ ∃ a1 m1 k1, v = .slice a1 m1 k1 ∧ w'.cell? ⟨l0, 0, none⟩ = some (.slice av m cv) ∧ w'.cell? ⟨bS, 0, none⟩ = some (.slice (some ⟨g, 0, none⟩) n n) ∧ (w'.alloc (.cells #[.slice a1 m1 k1] 22)).cell? ⟨l0, 0, none⟩ = some (.slice av m cv) ∧ Hid (Below w.heap.size w w')) := fun W hW => by
    refine (sgcopied_at (some ⟨g, 0, none⟩) n n n Q W (hT.below hW) rfl n1 (by omega)).mono ?_
    rintro e w' ⟨v, rfl, ht, hb⟩
    have hb2 := hW.trans (hb.mono hW.size)
    have hx := HX.out.below hb2
    obtain ⟨a1, m1, k1, e1, _, _⟩ := ht.table (tz_wf (by omega) (fun i hi j hj => by have := hQ i hi j hj; omega))
    subst e1
    have hl0 : l0 < w'.heap.size := Nat.lt_of_lt_of_le hx.lt.1 hx.sz
    exact ⟨_, rfl, a1, m1, k1, rfl, (cell_oneS hx.lb).1, (HE0.out.cs w' hx.st).2.1, by rw [World.cell?_of_block (Below.heap_alloc w' _ l0 hl0)]; exact (cell_oneS hx.lb).1, hb2⟩
  have HE : Hid (∀ w1 v1 v2 w2, Below w.heap.size w w1 → w2.ownsRow lo 22 1 v2 (us ++ [v1]).length (us ++ [v1]) → Below lo w1 w2 → KeepB (.slice av m cv) v2 w1 w2 → w2.cell? ⟨l0, 0, none⟩ = some (.slice av m cv) ∧ w2.frozen? ⟨l0, 0, none⟩ = false ∧ Hid (SX w0 (w2.setCell ⟨l0, 0, none⟩ v2) H l0 lo g n bR bC gs Q fR fC v2 (us ++ [v1]) (c + 1)) ∧ ∃ a2 m2 k2, v2 = .slice a2 m2 k2) := fun w1 v1 v2 w2 h1 h2 h3 h4 => by
    have hx := HX.out.below h1
    have hb0 : (Value.slice av m cv).ownBlock ≠ some l0 := fun e => by have := (hx.li.lt l0 e).1; have := hx.lt.1; omega
    have e0 : w2.heap[l0]? = some (.cells #[.slice av m cv] 29 (0, 0)) := by rw [h4.block l0 (Nat.lt_of_lt_of_le hx.lt.1 hx.sz) hb0]; exact hx.lb
    refine ⟨(cell_oneS e0).1, (cell_oneS e0).2, HX.out.push h1 h2 h3 h4, ?_⟩
    obtain ⟨a2, k2, q⟩ := own_shapeS h2
    exact ⟨_, _, _, q⟩
  have HLi : Hid (∀ w1, Below w.heap.size w w1 → w1.ownsRow lo 22 1 (.slice av m cv) us.length us) := fun w1 h1 => (HX.out.below h1).li
  have HSz : Hid (∀ w1, Below w.heap.size w w1 → lo ≤ w1.heap.size) := fun w1 h1 => (HX.out.below h1).sz
  have HUl : Hid (us.length ≤ 1000000) := by show _ ≤ _; rw [HX.out.ln]; exact hc
  have hpp : p ≤ 25 := by rw [hp]; exact Nat.mul_le_mul n5 n5
  have e1 : (n : Int) * (n : Int) = (p : Int) := by rw [hp, Int.natCast_mul]
  have hqq : ((p : Int) == (p : Int)) = true := by simp
  clear hX hT hc E hQ s3 hp
  go_enter Tryz.func24, Tryz.ntmps24
  go_upto_region 1 with fail
  go_region_law (first | (refine step_scop (x := .slice (some ⟨g, 0, none⟩) n n) rfl (.tmp 17) rfl (by first | (simp [Act.eval]; done) | (simp [Act.eval, Act.put]; done)) (HC.out _ (by first | exact Below.refl _ _ | exact below_drewN (Below.refl _ _) 1)) ?_; rintro v1 w1 ⟨a1, m1, k1, rfl, g0, g1, g5, g2⟩) | (refine step_one elem_cs (x := .slice a1 m1 k1) rfl (.tmp 16) (.tmp 19) rfl (by first | (simp [Act.eval]; done) | (simp [Act.eval, Act.put]; done)) (by first | (simp [Act.eval]; done) | (simp [Act.eval, Act.put]; done)) rfl (HLi.out w1 g2.out) rfl (by have := HUl.out; unfold maxLen; omega) (by have := HUl.out; omega) (HSz.out w1 g2.out) ?_; intro v2 w2 hO2 hb2 hk2; obtain ⟨e0, e1, e2, a2, m2, k2, rfl⟩ := HE.out w1 _ v2 w2 g2.out hO2 hb2 hk2; clear hO2 hb2 hk2))
  all_goals go_wp2
  all_goals (first | go_end0 | (refine bodyPost_ret (results_none rfl _ _ _) rfl ?_))
  all_goals exact ⟨rfl, _, _, e2.out⟩
end

end Go.Proofs.YtgcpconlmihilaaGreatDoor
