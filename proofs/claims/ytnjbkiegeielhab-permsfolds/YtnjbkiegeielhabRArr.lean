/-
  An array of 41 bools in a block; cycles that were seen.
-/
import Derived.Test.YtnjbkiegeielhabRUnr
import Derived.Laws.Tables
namespace Go.Proofs.Ytnjbkiegeielhab
open Go.RowKit

def cellsB (f : Nat → Bool) : Array Value := ((List.range 41).map fun j => Value.bool (f j)).toArray
theorem cellsB_get (f : Nat → Bool) (j : Nat) (hj : j < 41) : (cellsB f)[j]? = some (.bool (f j)) := by
  simp [cellsB, hj]
def updB (f : Nat → Bool) (j : Nat) (x : Bool) : Nat → Bool := fun i => if i = j then x else f i
theorem cellsB_congr {f g : Nat → Bool} (h : ∀ j, j < 41 → f j = g j) : cellsB f = cellsB g := by
  unfold cellsB
  congr 1
  apply List.map_congr_left
  intro j hj
  rw [h j (List.mem_range.1 hj)]
theorem cellsB_set (f : Nat → Bool) (j : Nat) (x : Bool) : (cellsB f).setIfInBounds j (.bool x) = cellsB (updB f j x) := by
  apply Array.ext_getElem?
  intro i
  by_cases hi : i < 41
  · rw [cellsB_get _ _ hi]
    by_cases e : i = j
    · subst e
      rw [Array.getElem?_setIfInBounds_self_of_lt (by simpa [cellsB] using hi)]
      simp [updB]
    · rw [Array.getElem?_setIfInBounds_ne (by omega), cellsB_get _ _ hi]
      simp [updB, e]
  · rw [Array.getElem?_eq_none (by simp [cellsB]; omega), Array.getElem?_eq_none (by simp [cellsB]; omega)]

/-- Block g holds the bools f. -/
def ArrB (w : World) (g : Nat) (f : Nat → Bool) : Prop := w.heap[g]? = some (.cells (cellsB f) 0 (0, 0))
theorem ArrB.cell {w : World} {g : Nat} {f : Nat → Bool} (h : ArrB w g f) {j : Nat} (hj : j < 41) : w.cell? ⟨g, j, none⟩ = some (.bool (f j)) := by
  rw [cell_of_row w g j _ _ _ h, cellsB_get _ _ hj]
theorem ArrB.frozen {w : World} {g : Nat} {f : Nat → Bool} (h : ArrB w g f) (j : Nat) : w.frozen? ⟨g, j, none⟩ = false := frozen_of_row w g j _ _ h
theorem ArrB.store {w : World} {g : Nat} {f : Nat → Bool} (h : ArrB w g f) (j : Nat) (x : Bool) : ArrB (w.setCell ⟨g, j, none⟩ (.bool x)) g (updB f j x) := by
  unfold ArrB
  rw [heap_setCell_same w g j _ 0 _ h, cellsB_set]
theorem ArrB.congr {w : World} {g : Nat} {f f' : Nat → Bool} (h : ArrB w g f) (he : ∀ j, j < 41 → f j = f' j) : ArrB w g f' := by
  unfold ArrB; rw [← cellsB_congr he]; exact h

/-- How many are not seen. -/
def isF : Option Value → Bool
  | some (.bool false) => true
  | _ => false
def unseen (w : World) (g : Nat) : Nat := (List.range 41).countP fun j => isF (w.cell? ⟨g, j, none⟩)
theorem ArrB.unseen {w : World} {g : Nat} {f : Nat → Bool} (h : ArrB w g f) : unseen w g = (List.range 41).countP fun j => !f j := by
  show (List.range 41).countP (fun j => isF (w.cell? ⟨g, j, none⟩)) = _
  apply List.countP_congr
  intro j hj
  rw [h.cell (List.mem_range.1 hj)]
  cases f j <;> simp [isF]
theorem countP_flip {f f' : Nat → Bool} (k : Nat) : ∀ (l : List Nat), l.Nodup → k ∈ l → f k = false → f' k = true → (∀ j ∈ l, j ≠ k → f' j = f j) → l.countP (fun j => !f' j) + 1 = l.countP (fun j => !f j) := by
  intro l
  induction l with
  | nil => intro _ h; simp at h
  | cons x l ih =>
    intro hn hk h1 h2 ho
    rw [List.nodup_cons] at hn
    rw [List.countP_cons, List.countP_cons]
    by_cases e : x = k
    · subst e
      have : l.countP (fun j => !f' j) = l.countP (fun j => !f j) := by
        apply List.countP_congr
        intro j hj
        rw [ho j (by simp [hj]) (by intro e; subst e; exact hn.1 hj)]
      rw [this, h1, h2]; simp
    · have hkl : k ∈ l := by
        rcases List.mem_cons.1 hk with h | h
        · exact absurd h.symm e
        · exact h
      have := ih hn.2 hkl h1 h2 (fun j hj => ho j (by simp [hj]))
      rw [ho x (by simp) e]; omega
theorem unseen_less {w w' : World} {g : Nat} {f f' : Nat → Bool} (h : ArrB w g f) (h' : ArrB w' g f') {k : Nat} (hk : k < 41) (h1 : f k = false) (h2 : f' k = true) (ho : ∀ j, j ≠ k → f' j = f j) : unseen w' g < unseen w g := by
  rw [h.unseen, h'.unseen]
  have := countP_flip k (List.range 41) List.nodup_range (List.mem_range.2 hk) h1 h2 (fun j _ => ho j)
  omega

/-- Seen or not is the same all along a cycle. -/
def Shut (p : List Int) (f : Nat → Bool) : Prop := ∀ x : Int, 1 ≤ x → x ≤ p.length → f (app p x).toNat = f x.toNat
theorem Shut.iter {p : List Int} {f : Nat → Bool} (hp : IsPerm p) (h : Shut p f) {x : Int} (h1 : 1 ≤ x) (h2 : x ≤ p.length) : ∀ j, f (iter p x j).toNat = f x.toNat := by
  intro j
  induction j with
  | zero => rfl
  | succ j ih =>
    have b := iter_bounds hp h1 h2 j
    rw [← ih]; exact h _ b.1 b.2

/-- With the first j numbers of i's cycle. -/
def seenTo (p : List Int) (f : Nat → Bool) (i : Int) (j : Nat) : Nat → Bool := fun x => f x || decide ((x : Int) ∈ path p i j)

theorem seenTo_zero (p : List Int) (f : Nat → Bool) (i : Int) (x : Nat) : f x = seenTo p f i 0 x := by simp [seenTo, path]
theorem seenTo_step {p : List Int} {f : Nat → Bool} {i : Int} {j k : Nat} (hk : iter p i j = (k : Int)) (x : Nat) : updB (seenTo p f i j) k true x = seenTo p f i (j + 1) x := by
  unfold updB seenTo
  rw [path_succ, hk]
  by_cases e : x = k
  · subst e; simp
  · rw [if_neg e]
    have : ¬ (x : Int) = (k : Int) := by omega
    simp only [List.mem_append, List.mem_singleton, this, or_false]
theorem seenTo_new {p : List Int} (hp : IsPerm p) {f : Nat → Bool} (hf : Shut p f) {i : Int} {m j k : Nat} (h1 : 1 ≤ i) (h2 : i ≤ p.length) (ht : Turns p i m) (hj : j < m) (h0 : f i.toNat = false) (hk : iter p i j = (k : Int)) : seenTo p f i j k = false := by
  unfold seenTo
  have e1 : f k = false := by
    have := hf.iter hp h1 h2 j
    rw [hk, h0] at this
    simpa using this
  rw [e1, Bool.false_or, decide_eq_false_iff_not]
  intro hm
  obtain ⟨t, ht1, ht2⟩ := mem_path.1 hm
  have e2 : iter p i t = iter p i (t + (j - t)) := by rw [show t + (j - t) = j by omega, hk, ht2]
  have := iter_back hp h1 h2 t (j - t) e2
  exact ht.2.2.2 (j - t) (by omega) (by omega) this.symm
theorem seenTo_end {p : List Int} {f : Nat → Bool} {i : Int} {m k : Nat} (ht : Turns p i m) (hk : iter p i m = (k : Int)) : seenTo p f i m k = true := by
  unfold seenTo
  have : (k : Int) ∈ path p i m := by
    rw [← hk, ht.2.2.1]
    exact mem_path.2 ⟨0, by have := ht.1; omega, rfl⟩
  simp [this]

theorem same_cycle {p : List Int} {n i : Int} {m l : Nat} (ht : Turns p n m) (hl : Turns p i l) (hi : i ∈ path p n m) (x : Int) : x ∈ path p i l ↔ x ∈ path p n m := by
  constructor
  · intro hx
    obtain ⟨j, _, rfl⟩ := mem_path.1 hx
    obtain ⟨a, _, ha⟩ := mem_path.1 hi
    rw [← ha, ← iter_add]; exact ht.iter_mem _
  · intro hx
    obtain ⟨t, hte⟩ := ht.symm hi
    obtain ⟨j, _, rfl⟩ := mem_path.1 hx
    rw [← hte, ← iter_add]; exact hl.iter_mem _

theorem shut_seen {p : List Int} (hp : IsPerm p) {f : Nat → Bool} (hf : Shut p f) {i : Int} {m : Nat} (h1 : 1 ≤ i) (h2 : i ≤ p.length) (ht : Turns p i m) : Shut p (seenTo p f i m) := by
  intro x hx1 hx2
  unfold seenTo
  have b := hp.app_bounds hx1 hx2
  rw [hf x hx1 hx2]
  congr 1
  rw [show (((app p x).toNat : Nat) : Int) = app p x by omega, show ((x.toNat : Nat) : Int) = x by omega]
  apply decide_eq_decide.2
  constructor
  · intro h
    obtain ⟨j, hj, he⟩ := mem_path.1 h
    -- x is the one ahead
    cases j with
    | zero =>
      have e1 : iter p i m = app p x := by rw [ht.2.2.1]; exact he
      obtain ⟨k, hk⟩ : ∃ k, m = k + 1 := ⟨m - 1, by have := ht.1; omega⟩
      rw [hk] at e1
      have b2 := iter_bounds hp h1 h2 k
      have := hp.app_inj b2.1 b2.2 hx1 hx2 e1
      exact mem_path.2 ⟨k, by omega, this⟩
    | succ j =>
      have b2 := iter_bounds hp h1 h2 j
      have := hp.app_inj b2.1 b2.2 hx1 hx2 he
      exact mem_path.2 ⟨j, by omega, this⟩
  · intro h
    obtain ⟨j, _, he⟩ := mem_path.1 h
    rw [← he]; exact ht.iter_mem (j + 1)

/-- Heads not yet seen. -/
def heads (bs : List (List Int)) (f : Nat → Bool) : Nat := bs.countP (fun b => !f (b.headD 0).toNat)
theorem heads_less {p : List Int} (hp : IsPerm p) {bs : List (List Int)} (h : Blocks p bs) {f : Nat → Bool} (hf : Shut p f) {i : Int} {m : Nat} (h1 : 1 ≤ i) (h2 : i ≤ p.length) (ht : Turns p i m) (h0 : f i.toNat = false) :
    heads bs (seenTo p f i m) + 1 = heads bs f := by
  obtain ⟨b0, hb0, hi⟩ := h.all i h1 h2
  have hB0 := h.each b0 hb0
  obtain ⟨n, l, hl, e0, hn1, hn2⟩ := hB0.n
  have hsame := same_cycle hl ht (e0 ▸ hi)
  have hh0 : b0.headD 0 = n := by rw [e0, path_head hl.1]
  unfold heads
  refine count_less bs _ _ b0 h.rise hb0 ?_ ?_ ?_
  · -- the head of i's own block is not seen
    rw [hh0]
    obtain ⟨j, _, hj⟩ := mem_path.1 (e0 ▸ hi)
    have := hf.iter hp hn1 hn2 j
    rw [hj, h0] at this
    simp [← this]
  · rw [hh0]
    have : (((n.toNat : Nat) : Int)) ∈ path p i m := by
      rw [show ((n.toNat : Nat) : Int) = n by omega]
      exact (hsame n).2 (mem_path.2 ⟨0, by have := hl.1; omega, rfl⟩)
    show (!(f n.toNat || decide (((n.toNat : Nat) : Int) ∈ path p i m))) = false
    rw [decide_eq_true this]; simp
  · intro b hb hne
    have hB := h.each b hb
    have bb := hB.bounds hp hB.head_mem
    have : ¬ (((b.headD 0).toNat : Nat) : Int) ∈ path p i m := by
      rw [show (((b.headD 0).toNat : Nat) : Int) = b.headD 0 by omega]
      intro hm
      have := (hsame _).1 hm
      rw [← e0] at this
      exact hne (hB.meet hB0 hB.head_mem this)
    show (!(f (b.headD 0).toNat || decide ((((b.headD 0).toNat : Nat) : Int) ∈ path p i m))) = _
    rw [decide_eq_false this]; simp
theorem heads_start (bs : List (List Int)) : heads bs (fun _ => false) = bs.length := by simp [heads]
theorem heads_end {p : List Int} (hp : IsPerm p) {bs : List (List Int)} (h : Blocks p bs) {f : Nat → Bool} (hf : ∀ x : Nat, 1 ≤ x → x ≤ p.length → f x = true) : heads bs f = 0 := by
  unfold heads
  rw [List.countP_eq_zero]
  intro b hb
  have hB := h.each b hb
  have bb := hB.bounds hp hB.head_mem
  rw [hf _ (by omega) (by omega)]; simp

end Go.Proofs.Ytnjbkiegeielhab
