/-
  The contracts of rule.number's closure, of the search behind it, of eachFilling where nothing is to be looked for.
-/
import Derived.Test.YtncokoimbpkapaaRvG
namespace Go.Proofs.Ytncokoimbpkapaa
open Go.RowKit

/-- All right fillings, as they are found. -/
def rgt (al bl cl : List Nat) : List (List (List Nat)) :=
  srch bl.length (bOf bl) (fun r => cl.getD r 0) cl.length (bxs (fun r => al.getD r 0) (fun r => cl.getD r 0) cl.length) (fun _ _ => 0) (fun _ => 0)
theorem sumU_zero : ∀ k m, sumU (fun _ => 0) m k = 0 := by
  intro k
  induction k with
  | zero => intro m; rfl
  | succ k ih => intro m; simp [sumU, ih]
theorem rgt_len {al bl cl : List Nat} (T : Tri al bl cl) (h : cl.sum ≤ 16) : (rgt al bl cl).length ≤ 2821109907456 := by
  have h1 := T.boxes
  have h2 := T.sum
  refine Nat.le_trans (srch_len _ _ _ _ _ _ _ (fun _ _ => Nat.zero_le _) (fun _ _ _ => Nat.le_refl _) (fun _ => by rw [sumU_zero, h1]; omega)) ?_
  rw [h1]
  exact Nat.le_trans (Nat.pow_le_pow_right (by omega) (show bl.sum ≤ 16 by omega)) (by decide)
theorem bOf_le {bl : List Nat} (h : bl.sum ≤ 1000) (x : Nat) : bOf bl x ≤ 1000 := by
  unfold bOf
  cases x with
  | zero => simp
  | succ x =>
    have : ∀ (l : List Nat) i, l.getD i 0 ≤ l.sum := by
      intro l
      induction l with
      | nil => intro i; simp
      | cons a l ih =>
        intro i
        cases i with
        | zero => simp
        | succ i => have := ih i; simp only [List.sum_cons]; simp [List.getD] at this ⊢; omega
    exact Nat.le_trans (this bl x) h
/-- How many were found so far. -/
def FN (fb : Nat) (D : Nat → Prop) (acc : List (List (List Nat))) (w : World) : Prop := w.heap[fb]? = some (.cells #[.int .i64 (acc.length : Int)] 3 (0, 0)) ∧ ¬ D fb
theorem FN.takes (fb : Nat) : Takes (FN fb) := by
  refine ⟨fun D acc w w' h hk _ => ⟨?_, h.2⟩, fun D acc w o h => ⟨?_, ?_⟩, fun D D' acc w hs h => ⟨h.1, fun hd => h.2 (hs _ hd)⟩⟩
  · rw [hk fb (Array.getElem?_eq_some_iff.1 h.1).1 h.2]; exact h.1
  · rw [Below.heap_alloc _ _ _ (Array.getElem?_eq_some_iff.1 h.1).1]; exact h.1
  · have := (Array.getElem?_eq_some_iff.1 h.1).1
    exact fun hd => hd.elim h.2 (fun e => by omega)
set_option maxHeartbeats 1000000 in
theorem number1_at (fb : Nat) (vr : Value) (D : Nat → Prop) (acc : List (List (List Nat))) (t : List (List Nat)) (w : World) (hF : FN fb D acc w) (hl : acc.length + 1 ≤ 2821109907456) :
    Calls Try.prog 27 #[vr, ptr fb] w fun e w' => e = .returned (.tuple #[]) ∧ FN fb D (acc ++ [t]) w' ∧ (∀ k, D k → k < w.heap.size → w'.heap[k]? = w.heap[k]?) ∧ Below fb w w' := by
  obtain ⟨n, HN⟩ : ∃ n, Hid (n = acc.length) := ⟨_, rfl⟩
  have c0 : w.cell? ⟨fb, 0, none⟩ = some (.int .i64 (n : Int)) := by rw [HN.out]; exact cell_of_one hF.1
  have f0 : w.frozen? ⟨fb, 0, none⟩ = false := free_of_one hF.1
  have hn : n + 1 ≤ 2821109907456 := by rw [HN.out]; exact hl
  have HF : Hid (FN fb D acc w) := hF
  clear hF hl
  go_enter Try.func27, Try.ntmps27
  go_wp2
  go_end0
  refine ⟨rfl, ⟨?_, HF.out.2⟩, fun k hd _ => heap_setCell_other _ _ _ _ (show k ≠ fb from fun e => HF.out.2 (by rw [← e]; exact hd)), (Below.refl _ _).setCell (p := ⟨fb, 0, none⟩) (Nat.le_refl _) _⟩
  have := heap_setCell_same w fb 0 _ _ (.int .i64 ((n : Int) + 1)) HF.out.1
  rw [this]
  rw [HN.out]
  simp

theorem cl_le {cl : List Nat} (h : cl.sum ≤ 1000) (x : Nat) : cl.getD x 0 ≤ 1000 := by
  have := bOf_le h (x + 1)
  exact this
/-- From the search laid to all that is found: numbers. -/
theorem num_from {w wx : World} {al bl cl : List Nat} (T : Tri al bl cl) (h16 : cl.sum ≤ 16) (hm : cl.length ≤ 1000) (hn : bl.length ≤ 1000) (fb q R U Wb cw : Nat) (vb : Value) (vs : List Value) (hfb : fb < w.heap.size) (hw : w.heap[fb]? = some (.cells #[.int .i64 0] 3 (0, 0)))
    (h : BS w wx w.heap.size q R U (bl.length + 1) Wb cw vb (.func (.func 27) #[] #[ptr fb]) vs (bxs (fun r => al.getD r 0) (fun r => cl.getD r 0) cl.length) bl.length cl.length (castT (tabN (fun r => cl.getD r 0) cl.length fun _ _ => 0)) bl) :
    Calls Try.prog 30 #[.pointer (some ⟨q, 0, none⟩), .int .i64 0] wx fun e w' => e = .returned (.tuple #[]) ∧ (w'.heap[fb]? = some (.cells #[.int .i64 ((rgt al bl cl).length : Int)] 3 (0, 0)) ∧ Below fb w w') := by
  have hsum := T.sum
  have hbx := T.boxes
  have hF0 : FN fb (fun k => w.heap.size ≤ k) [] wx := ⟨by rw [h.bel.block fb hfb]; exact hw, by omega⟩
  have key := from_num (FN.takes fb) 2821109907456 w.heap.size wx.heap.size q U (bl.length + 1) Wb cw fb vb (.slice (some ⟨R, 0, none⟩) cl.length cl.length) vs _ bl.length cl.length (bOf bl) (fun r => cl.getD r 0)
    (fun D acc t w h1 _ _ _ _ _ h2 => number1_at fb _ D acc t w h1 h2)
    (fun p hp => by obtain ⟨r, j⟩ := p; have := mem_bxs.1 hp; exact ⟨this.1, this.2.2⟩) T.cd hn hm (cl_le (by omega)) (bOf_le (by omega)) (by rw [hbx]; omega) (by omega) h.bel.size
    _ 0 (fun _ _ => 0) (fun _ => 0) [] (fun k => w.heap.size ≤ k) wx (List.drop_zero) (Nat.zero_le _) (ord_bxs _ _ _) h.done hF0 (fun k h1 _ => h1) (by have := rgt_len T h16; unfold rgt at this; simpa using this)
  refine key.mono ?_
  rintro e w' ⟨rfl, g', _, _, h3, _, h5⟩
  refine ⟨rfl, ?_, (h.bel.mono (by omega)).trans h5⟩
  have := h3.1
  rw [List.nil_append] at this
  exact this

end Go.Proofs.Ytncokoimbpkapaa
