/-
  The contracts of looking, and how its memory changes.
-/
import Derived.Test.YtapchcamjeafmaaDoorQLok
namespace Go.Proofs.YtapchcamjeafmaaDoor
open Go.RowKit

theorem Lk.cell {Φ : Type} {R : World → (Nat → Prop) → Φ → Prop} {Fx : Nat → Prop} {lo G T n : Nat} {sv ev fv : Value} {w : World} {cl : Nat → Bool} {vs : List Value} {tx : List (List UInt8)} {st : Nat} {φ : Φ} (h : Lk R Fx lo G T n sv ev fv w cl vs tx st φ) (j : Nat) (hj : j < 69) : w.cell? ⟨G, j, none⟩ = some (lkF sv ev cl (.slice (some ⟨T, 0, none⟩) n n) st fv j) := by
  rw [cell_of_row w G j _ _ _ h.blk, lkC_get _ _ _ _ _ _ _ hj]
theorem Lk.frozen {Φ : Type} {R : World → (Nat → Prop) → Φ → Prop} {Fx : Nat → Prop} {lo G T n : Nat} {sv ev fv : Value} {w : World} {cl : Nat → Bool} {vs : List Value} {tx : List (List UInt8)} {st : Nat} {φ : Φ} (h : Lk R Fx lo G T n sv ev fv w cl vs tx st φ) (j : Nat) : w.frozen? ⟨G, j, none⟩ = false := frozen_of_row w G j _ _ h.blk
/-- All but the memory is as it was. -/
def SmO (a b : World) : Prop := b.os = a.os ∧ b.tape = a.tape ∧ b.output = a.output
theorem SmO.refl (a : World) : SmO a a := ⟨rfl, rfl, rfl⟩
theorem SmO.trans {a b c : World} (h : SmO a b) (k : SmO b c) : SmO a c := ⟨k.1.trans h.1, k.2.1.trans h.2.1, k.2.2.trans h.2.2⟩
theorem SmO.of {B : Nat} {a b : World} (h : Below B a b) : SmO a b := ⟨h.os, h.tape, h.output⟩
/-- What looking leaves as it was: all but the blocks that it writes, and those of what was found. -/
structure Frm (XF : Nat → Prop) (G T : Nat) (w : World) (vs : List Value) (w' : World) (vs' : List Value) : Prop where
  size : w.heap.size ≤ w'.heap.size
  block : ∀ k, k < w.heap.size → ¬ Bk G T vs k → ¬ XF k → w'.heap[k]? = w.heap[k]?
  sub : ∀ k, Bk G T vs' k → Bk G T vs k ∨ w.heap.size ≤ k
  smo : SmO w w'
theorem Frm.trans {XF : Nat → Prop} {G T : Nat} {a b c : World} {u v x : List Value} (h1 : Frm XF G T a u b v) (h2 : Frm XF G T b v c x) : Frm XF G T a u c x := by
  refine ⟨Nat.le_trans h1.size h2.size, fun k hk hB hX => ?_, fun k hk => ?_, h1.smo.trans h2.smo⟩
  · rw [h2.block k (Nat.lt_of_lt_of_le hk h1.size) (fun q => ?_) hX]
    · exact h1.block k hk hB hX
    · rcases h1.sub k q with q1 | q1
      · exact hB q1
      · omega
  · rcases h2.sub k hk with q | q
    · exact h1.sub k q
    · exact Or.inr (Nat.le_trans h1.size q)
theorem Lk.notB {Φ : Type} {R : World → (Nat → Prop) → Φ → Prop} {Fx : Nat → Prop} {lo G T n : Nat} {sv ev fv : Value} {w : World} {cl : Nat → Bool} {vs : List Value} {tx : List (List UInt8)} {st : Nat} {φ : Φ} (h : Lk R Fx lo G T n sv ev fv w cl vs tx st φ) {k : Nat} (h1 : k ≠ G) (h2 : k ≠ T) (h3 : k < lo ∨ w.heap.size ≤ k) : ¬ Bk G T vs k := by
  rintro (e | e | ⟨i, hi, e⟩)
  · exact h1 e
  · exact h2 e
  · have := (h.tab.rows i (by rw [← h.tab.len]; exact hi)).lt e
    rcases h3 with h3 | h3 <;> omega
theorem Frm.fx {Φ : Type} {R : World → (Nat → Prop) → Φ → Prop} {Fx XF : Nat → Prop} {lo G T n : Nat} {sv ev fv : Value} {w w' : World} {cl : Nat → Bool} {vs vs' : List Value} {tx : List (List UInt8)} {st : Nat} {φ : Φ} (h : Lk R Fx lo G T n sv ev fv w cl vs tx st φ) (hx : ∀ q, Fx q → ¬ XF q) (hf : Frm XF G T w vs w' vs') : FrF Fx w w' :=
  ⟨hf.size, fun k hk => by
    obtain ⟨h1, h2, h3⟩ := h.fix k hk
    exact hf.block k (Nat.lt_of_lt_of_le h1 h.los) (h.notB h2 h3 (Or.inl h1)) (hx k hk)⟩
/-- More memory. -/
theorem Lk.below {Φ : Type} {R : World → (Nat → Prop) → Φ → Prop} (hR : StaR R) {Fx : Nat → Prop} {lo G T n : Nat} {sv ev fv : Value} {w w' : World} {cl : Nat → Bool} {vs : List Value} {tx : List (List UInt8)} {st : Nat} {φ : Φ} (h : Lk R Fx lo G T n sv ev fv w cl vs tx st φ) (hb : Below w.heap.size w w') : Lk R Fx lo G T n sv ev fv w' cl vs tx st φ ∧ ∀ XF, Frm XF G T w vs w' vs := by
  have hlo := h.los
  refine ⟨⟨by rw [hb.block G (Nat.lt_of_lt_of_le h.glo hlo)]; exact h.blk, h.tab.same fun k hk => ?_, h.num, h.ne, h.glo, Nat.le_trans hlo hb.size, hR w w' _ _ φ h.rep hb.size (fun k hk _ => hb.block k hk) (fun k hk => Or.inl hk), h.fix⟩, fun XF => ⟨hb.size, fun k hk _ _ => hb.block k hk, fun k hk => Or.inl hk, SmO.of hb⟩⟩
  rcases hk with rfl | ⟨i, hi, e⟩
  · exact hb.block _ (Nat.lt_of_lt_of_le h.tab.low hlo)
  · exact hb.block k ((h.tab.rows i (by rw [← h.tab.len]; exact hi)).lt e).2
/-- The look's own block is written. -/
theorem Lk.store {Φ : Type} {R : World → (Nat → Prop) → Φ → Prop} (hR : StaR R) {Fx : Nat → Prop} {lo G T n : Nat} {sv ev fv : Value} {w : World} {cl cl' : Nat → Bool} {vs : List Value} {tx : List (List UInt8)} {st st' : Nat} {φ : Φ} (h : Lk R Fx lo G T n sv ev fv w cl vs tx st φ) (j : Nat) (x : Value) (he : (lkC sv ev cl (.slice (some ⟨T, 0, none⟩) n n) st fv).setIfInBounds j x = lkC sv ev cl' (.slice (some ⟨T, 0, none⟩) n n) st' fv) : Lk R Fx lo G T n sv ev fv (w.setCell ⟨G, j, none⟩ x) cl' vs tx st' φ ∧ ∀ XF, Frm XF G T w vs (w.setCell ⟨G, j, none⟩ x) vs := by
  have hlo := h.los
  have hsz : (w.setCell ⟨G, j, none⟩ x).heap.size = w.heap.size := by simp
  have hne : ∀ k, k ≠ G → (w.setCell ⟨G, j, none⟩ x).heap[k]? = w.heap[k]? := fun k hk => heap_setCell_other _ _ _ _ hk
  refine ⟨⟨by rw [heap_setCell_same w G j _ 63 _ h.blk, he], h.tab.same fun k hk => hne k ?_, h.num, h.ne, h.glo, by rw [hsz]; exact hlo, hR w _ _ _ φ h.rep (by rw [hsz]; exact Nat.le_refl _) (fun k _ hB => hne k fun e => hB (Or.inl e)) (fun k hk => Or.inl hk), h.fix⟩, fun XF => ⟨by rw [hsz]; exact Nat.le_refl _, fun k _ hB _ => hne k fun e => hB (Or.inl e), fun k hk => Or.inl hk, ⟨rfl, rfl, rfl⟩⟩⟩
  rcases hk with rfl | ⟨i, hi, e⟩
  · exact fun q => h.ne q.symm
  · intro q; subst q
    have := ((h.tab.rows i (by rw [← h.tab.len]; exact hi)).lt e).1
    have := h.glo; omega
/-- Text i is written. -/
theorem Lk.setRow {Φ : Type} {R : World → (Nat → Prop) → Φ → Prop} (hR : StaR R) {Fx : Nat → Prop} {lo G T n : Nat} {sv ev fv : Value} {w w' : World} {cl : Nat → Bool} {vs : List Value} {tx : List (List UInt8)} {st : Nat} {φ : Φ} (h : Lk R Fx lo G T n sv ev fv w cl vs tx st φ) {i : Nat} (hi : i < n) {u : Value} {us : List UInt8} (hu : OwU w' lo u us) (hk : KeepB (rwU vs i) u w w') (hso : SmO w w') : Lk R Fx lo G T n sv ev fv (w'.setCell ⟨T, i, none⟩ u) cl (vs.set i u) (tx.set i us) st φ ∧ ∀ XF, Frm XF G T w vs (w'.setCell ⟨T, i, none⟩ u) (vs.set i u) := by
  have hlo := h.los
  have hil : i < tx.length := by rw [h.num]; exact hi
  have hiv : i < vs.length := by rw [h.tab.len]; exact hil
  have hsz : (w'.setCell ⟨T, i, none⟩ u).heap.size = w'.heap.size := by simp
  have hrow : ∀ k, (rwU vs i).ownBlock = some k → lo ≤ k := fun k e => ((h.tab.rows i hil).lt e).1
  have hlow : ∀ k, k < lo → k ≠ T → (w'.setCell ⟨T, i, none⟩ u).heap[k]? = w.heap[k]? := fun k hk1 hk2 => by
    rw [heap_setCell_other _ _ _ _ hk2]
    exact hk.block k (by omega) (fun e => by have := hrow k e; omega)
  have hblk : ∀ k, k < w.heap.size → ¬ Bk G T vs k → (w'.setCell ⟨T, i, none⟩ u).heap[k]? = w.heap[k]? := fun k hk1 hB => by
    rw [heap_setCell_other _ _ _ _ (fun e => hB (Or.inr (Or.inl e)))]
    exact hk.block k hk1 (fun e => hB (Or.inr (Or.inr ⟨i, hiv, e⟩)))
  have hsub : ∀ k, Bk G T (vs.set i u) k → Bk G T vs k ∨ w.heap.size ≤ k := fun k hB => by
    rcases hB with e | e | ⟨j, hj, e⟩
    · exact Or.inl (Or.inl e)
    · exact Or.inl (Or.inr (Or.inl e))
    · rw [List.length_set] at hj
      rw [rwU_set _ _ _ _ hj] at e
      by_cases hji : j = i
      · rw [if_pos hji] at e
        rcases hk.lies k e with q | q
        · exact Or.inl (Or.inr (Or.inr ⟨i, hiv, q⟩))
        · exact Or.inr q
      · rw [if_neg hji] at e
        exact Or.inl (Or.inr (Or.inr ⟨j, hj, e⟩))
  exact ⟨⟨by rw [hlow G h.glo h.ne]; exact h.blk, h.tab.setRow hlo hil hu hk, by rw [List.length_set]; exact h.num, h.ne, h.glo, by rw [hsz]; exact Nat.le_trans hlo hk.size, hR w _ _ _ φ h.rep (by rw [hsz]; exact hk.size) hblk hsub, h.fix⟩, fun XF => ⟨by rw [hsz]; exact hk.size, fun k hk1 hB _ => hblk k hk1 hB, hsub, hso.trans ⟨rfl, rfl, rfl⟩⟩⟩
theorem Lk.congr {Φ : Type} {R : World → (Nat → Prop) → Φ → Prop} {Fx : Nat → Prop} {lo G T n : Nat} {sv ev fv : Value} {w : World} {cl cl' : Nat → Bool} {vs : List Value} {tx : List (List UInt8)} {st : Nat} {φ : Φ} (h : Lk R Fx lo G T n sv ev fv w cl vs tx st φ) (he : ∀ k, k < 64 → cl k = cl' k) : Lk R Fx lo G T n sv ev fv w cl' vs tx st φ :=
  ⟨by rw [← lkC_congr _ _ _ _ _ he]; exact h.blk, h.tab, h.num, h.ne, h.glo, h.los, h.rep, h.fix⟩

/-- What is the same all the while. -/
structure Env where
  Fx : Nat → Prop
  XF : Nat → Prop
  lo : Nat
  G : Nat
  T : Nat
  sv : Value
  ev : Value
  fv : Value
  S : List (Nat × Nat)
  E : List (Nat × Nat)
def Env.ok (V : Env) : Prop := (∀ q, V.Fx q → ¬ V.XF q) ∧ (∀ q, V.XF q → q < V.lo ∧ q ≠ V.G ∧ q ≠ V.T) ∧ V.S.length = V.E.length ∧ V.S.length ≤ 4 ∧ (∀ i, i < V.S.length → (ptD V.S i).1 < 8 ∧ (ptD V.S i).2 < 8 ∧ (ptD V.E i).1 < 8 ∧ (ptD V.E i).2 < 8)
def InV {Φ : Type} (V : Env) (R : World → (Nat → Prop) → Φ → Prop) (w : World) (cl : Nat → Bool) (vs : List Value) (tx : List (List UInt8)) (st : Nat) (φ : Φ) : Prop := Lk R V.Fx V.lo V.G V.T V.S.length V.sv V.ev V.fv w cl vs tx st φ ∧ PSh w V.Fx V.sv V.S ∧ PSh w V.Fx V.ev V.E
def AnsV {Φ : Type} (V : Env) (R : World → (Nat → Prop) → Φ → Prop) (lv : Φ → Prop) (r : Bool × Nat × Φ) (w : World) (vs : List Value) (cl : Nat → Bool) (tx : List (List UInt8)) (e : Ending) (w' : World) : Prop := e = .returned (.bool r.1) ∧ ∃ vs', Hid (InV V R w' cl vs' tx r.2.1 r.2.2) ∧ Hid (Frm V.XF V.G V.T w vs w' vs') ∧ Hid (r.1 = true → lv r.2.2)
def ptV (p : Nat × Nat) : Value := .agg #[.int .i64 (p.1 : Int), .int .i64 (p.2 : Int)]
def EntC {Φ : Type} (V : Env) (R : World → (Nat → Prop) → Φ → Prop) (lv : Φ → Prop) (fnd : Φ → List (List UInt8) → Bool × Φ) (f : Nat) : Prop := ∀ (i : Nat) (p : Nat × Nat) (w : World) (cl : Nat → Bool) (vs : List Value) (tx : List (List UInt8)) (st : Nat) (φ : Φ), InV V R w cl vs tx st φ → lv φ → i < V.S.length → p.1 < 8 → p.2 < 8 → st ≤ 1000000 → fuN V.S V.E i p ≤ f → (∀ j, (tx.getD j []).length + f ≤ 100) →
  Calls Tryd.prog 29 #[.pointer (some ⟨V.G, 0, none⟩), .int .i64 (i : Int), ptV p] w (AnsV V R lv (goF V.S V.E fnd f i p cl tx st φ) w vs cl tx)
def LevC {Φ : Type} (V : Env) (R : World → (Nat → Prop) → Φ → Prop) (lv : Φ → Prop) (fnd : Φ → List (List UInt8) → Bool × Φ) (f : Nat) : Prop := ∀ (i : Nat) (p : Nat × Nat) (w : World) (cl : Nat → Bool) (vs : List Value) (tx : List (List UInt8)) (st : Nat) (φ : Φ), InV V R w cl vs tx st φ → lv φ → i < V.S.length → p.1 < 8 → p.2 < 8 → st ≤ 1000000 → fuN V.S V.E i p ≤ f + 1 → (∀ j, (tx.getD j []).length + f + 1 ≤ 100) →
  Calls Tryd.prog 36 #[.pointer (some ⟨V.G, 0, none⟩), .int .i64 (i : Int), ptV p] w (AnsV V R lv (lvF V.S V.E fnd f i p cl tx st φ) w vs cl tx)
def StpC {Φ : Type} (V : Env) (R : World → (Nat → Prop) → Φ → Prop) (lv : Φ → Prop) (fnd : Φ → List (List UInt8) → Bool × Φ) (f : Nat) : Prop := ∀ (i : Nat) (b : UInt8) (p : Nat × Nat) (w : World) (cl : Nat → Bool) (vs : List Value) (tx : List (List UInt8)) (st : Nat) (φ : Φ), InV V R w cl vs tx st φ → lv φ → i < V.S.length → p.1 < 8 → p.2 < 8 → st ≤ 1000000 → fuN V.S V.E i p ≤ f → (∀ j, (tx.getD j []).length + f + 1 ≤ 100) →
  Calls Tryd.prog 39 #[.pointer (some ⟨V.G, 0, none⟩), .int .i64 (i : Int), .int .u8 (b.toNat : Int), ptV p] w (AnsV V R lv (goF V.S V.E fnd f i p cl (txA tx i b) st φ) w vs cl tx)
def BegC {Φ : Type} (V : Env) (R : World → (Nat → Prop) → Φ → Prop) (lv : Φ → Prop) (fnd : Φ → List (List UInt8) → Bool × Φ) (f : Nat) : Prop := ∀ (i : Nat) (w : World) (cl : Nat → Bool) (vs : List Value) (tx : List (List UInt8)) (st : Nat) (φ : Φ), InV V R w cl vs tx st φ → lv φ → i < V.S.length → st ≤ 1000000 → fuS V.S V.E i ≤ f → (∀ j, (tx.getD j []).length + f ≤ 100) →
  Calls Tryd.prog 23 #[.pointer (some ⟨V.G, 0, none⟩), .int .i64 (i : Int)] w (AnsV V R lv (goF V.S V.E fnd f i (ptD V.S i) cl tx st φ) w vs cl tx)
def EndC {Φ : Type} (V : Env) (R : World → (Nat → Prop) → Φ → Prop) (lv : Φ → Prop) (fnd : Φ → List (List UInt8) → Bool × Φ) : Prop := ∀ (w : World) (cl : Nat → Bool) (vs : List Value) (tx : List (List UInt8)) (st : Nat) (φ : Φ), InV V R w cl vs tx st φ → lv φ →
  Calls Tryd.prog 23 #[.pointer (some ⟨V.G, 0, none⟩), .int .i64 (V.S.length : Int)] w (AnsV V R lv ((fnd φ tx).1, st, (fnd φ tx).2) w vs cl tx)
theorem InV.below {Φ : Type} {V : Env} (hV : V.ok) {R : World → (Nat → Prop) → Φ → Prop} (hR : StaR R) {w w' : World} {cl : Nat → Bool} {vs : List Value} {tx : List (List UInt8)} {st : Nat} {φ : Φ} (h : InV V R w cl vs tx st φ) (hb : Below w.heap.size w w') : InV V R w' cl vs tx st φ ∧ Frm V.XF V.G V.T w vs w' vs := by
  obtain ⟨h1, h2⟩ := h.1.below hR hb
  exact ⟨⟨h1, h.2.1.frame (Frm.fx h.1 hV.1 (h2 V.XF)), h.2.2.frame (Frm.fx h.1 hV.1 (h2 V.XF))⟩, h2 V.XF⟩
theorem InV.of {Φ : Type} {V : Env} (hV : V.ok) {R : World → (Nat → Prop) → Φ → Prop} {w w' : World} {cl cl' : Nat → Bool} {vs vs' : List Value} {tx tx' : List (List UInt8)} {st st' : Nat} {φ φ' : Φ} (h : InV V R w cl vs tx st φ) (h1 : Lk R V.Fx V.lo V.G V.T V.S.length V.sv V.ev V.fv w' cl' vs' tx' st' φ') (h2 : Frm V.XF V.G V.T w vs w' vs') : InV V R w' cl' vs' tx' st' φ' := ⟨h1, h.2.1.frame (Frm.fx h.1 hV.1 h2), h.2.2.frame (Frm.fx h.1 hV.1 h2)⟩
/-- A block that is none of the look's stays. -/
theorem Frm.keep {Φ : Type} {V : Env} (hV : V.ok) {R : World → (Nat → Prop) → Φ → Prop} {w w1 w' : World} {cl : Nat → Bool} {vs vs' : List Value} {tx : List (List UInt8)} {st : Nat} {φ : Φ} (h : InV V R w cl vs tx st φ) (hf : Frm V.XF V.G V.T w1 vs w' vs') {k : Nat} (h1 : w.heap.size ≤ k) (h2 : k < w1.heap.size) : w'.heap[k]? = w1.heap[k]? := by
  have hlo := h.1.los
  have hg := h.1.glo
  have ht := h.1.tab.low
  exact hf.block k h2 (h.1.notB (by omega) (by omega) (Or.inr h1)) (fun q => by have := (hV.2.1 k q).1; omega)

end Go.Proofs.YtapchcamjeafmaaDoor
