/-
  Plain mathematics: the tables of characters of sizes up to 9, and that they are upright: by the kernel.
-/
import Derived.Test.YtheebpjkjclgbaaHChr
import Derived.Test.YtheebpjkjclgbaaCGpt
namespace Go.Proofs.Ytheebpjkjclgbaa

/-- Positive parts that do not rise, the first at most that. -/
def dch : Nat → List Int → Prop
  | _, [] => True
  | most, z :: q => 1 ≤ z ∧ z ≤ most ∧ dch z.toNat q
theorem dch_of : ∀ (q : List Int) (most : Nat), PtGoes 1 0 q → (∀ z ∈ q, z ≤ most) → dch most q
  | [], _, _, _ => trivial
  | z :: q, most, h, hm => by
    have h0 := (h 0 (by simp)).1
    have hg : PtGoes 1 0 q := fun j hj => by
      have h1 := h (j + 1) (by simp; omega)
      refine ⟨by simpa [List.getD] using h1.1, fun h0 => ?_⟩
      have h2 := h1.2 (by omega)
      obtain ⟨i, rfl⟩ : ∃ i, j = i + 1 := ⟨j - 1, by omega⟩
      simpa [List.getD] using h2
    have hle : ∀ j, j < q.length → q.getD j 0 ≤ z := fun j => by
      induction j with
      | zero =>
        intro hj
        have h2 := (h 1 (by simp; omega)).2 (by omega)
        simpa [List.getD] using h2
      | succ j ih =>
        intro hj
        have h2 := (hg (j + 1) hj).2 (by omega)
        have h3 := ih (by omega)
        rw [Nat.add_sub_cancel] at h2
        omega
    have hz : 1 ≤ z := by simpa [List.getD] using h0
    refine ⟨hz, hm z (by simp), dch_of q z.toNat hg fun y hy => ?_⟩
    obtain ⟨j, hj, rfl⟩ := List.mem_iff_getElem.1 hy
    have := hle j hj
    rw [List.getD, List.getElem?_eq_getElem hj, Option.getD_some] at this
    omega
theorem mem_genF : ∀ (q : List Int) (f left most : Nat), left < f → dch most q → sum q = left → q ∈ genF f left most
  | [], f, left, most, hf, _, hs => by
    have hz : left = 0 := by simp only [sum] at hs; omega
    subst hz
    obtain ⟨g, rfl⟩ : ∃ g, f = g + 1 := ⟨f - 1, by omega⟩
    rw [genF_zero]; simp
  | z :: q, f, left, most, hf, hd, hs => by
    obtain ⟨h1, h2, h3⟩ := hd
    rw [sum] at hs
    have hq : 0 ≤ sum q := by
      have : ∀ (q : List Int) (m : Nat), dch m q → 0 ≤ sum q := by
        intro q
        induction q with
        | nil => intro m _; exact Int.le_refl _
        | cons y q ih => intro m hm; have := ih _ hm.2.2; have := hm.1; rw [sum]; omega
      exact this q _ h3
    obtain ⟨g, rfl⟩ : ∃ g, f = g + 1 := ⟨f - 1, by omega⟩
    rw [genF_pos (by omega)]
    unfold lpF
    rw [List.mem_flatMap]
    refine ⟨z.toNat - 1, by rw [List.mem_reverse, List.mem_range]; omega, List.mem_map.2 ⟨q, ?_, by congr 1; omega⟩⟩
    rw [show z.toNat - 1 + 1 = z.toNat by omega]
    exact mem_genF q g (left - z.toNat) z.toNat (by omega) h3 (by omega)
theorem mem_genA {q : List Int} (h : IsPt q) {n : Nat} (hn : szN q = n) (h20 : n ≤ 20) : q ∈ genA n := by
  have hs : sum q = (n : Int) := by rw [sum_sZ q (fun z hz => by have := h.range z hz; omega), szN_sum (Nat.le_refl _), hn]
  have hle : ∀ z ∈ q, z ≤ (n : Int) := fun z hz => by
    have key : ∀ l : List Int, (∀ z ∈ l, 1 ≤ z) → (0 ≤ sum l) ∧ ∀ z ∈ l, z ≤ sum l := by
      intro l
      induction l with
      | nil => intro _; exact ⟨Int.le_refl _, fun z hz => by cases hz⟩
      | cons a l ih =>
        intro hl
        have h3 := ih fun z hz => hl z (by simp [hz])
        have h4 := hl a (by simp)
        refine ⟨by rw [sum]; omega, fun z hz => ?_⟩
        rw [sum]
        rcases List.mem_cons.1 hz with rfl | q
        · omega
        · have := h3.2 z q; omega
    rw [← hs]; exact (key q fun z hz => (h.range z hz).1).2 z hz
  exact mem_genF q 21 n n (by omega) (dch_of q n h.goes hle) hs

/-- The tables. -/
def chT : List (List (List Int)) := [[[1]],
  [[1]],
  [[1, 1], [-1, 1]],
  [[1, 1, 1], [-1, 0, 2], [1, -1, 1]],
  [[1, 1, 1, 1, 1], [-1, 0, -1, 1, 3], [0, -1, 2, 0, 2], [1, 0, -1, -1, 3], [-1, 1, 1, -1, 1]],
  [[1, 1, 1, 1, 1, 1, 1], [-1, 0, -1, 1, 0, 2, 4], [0, -1, 1, -1, 1, 1, 5], [1, 0, 0, 0, -2, 0, 6], [0, 1, -1, -1, 1, -1, 5], [-1, 0, 1, 1, 0, -2, 4], [1, -1, -1, 1, 1, -1, 1]],
  [[1, 1, 1, 1, 1, 1, 1, 1, 1, 1, 1], [-1, 0, -1, 1, -1, 0, 2, -1, 1, 3, 5], [0, -1, 1, -1, 0, 0, 0, 3, 1, 3, 9], [1, 0, 0, 0, 1, -1, 1, -2, -2, 2, 10], [0, 0, -1, -1, 2, 1, -1, -3, 1, 1, 5], [0, 1, 0, 0, -2, 0, -2, 0, 0, 0, 16], [-1, 0, 0, 0, 1, 1, 1, 2, -2, -2, 10], [0, 0, -1, 1, 2, -1, -1, 3, 1, -1, 5], [0, -1, 1, 1, 0, 0, 0, -3, 1, -3, 9], [1, 0, -1, -1, -1, 0, 2, 1, 1, -3, 5], [-1, 1, 1, -1, 1, -1, 1, -1, 1, -1, 1]],
  [[1, 1, 1, 1, 1, 1, 1, 1, 1, 1, 1, 1, 1, 1, 1], [-1, 0, -1, 1, -1, 0, 2, 0, -1, 1, 3, 0, 2, 4, 6], [0, -1, 1, -1, 0, 0, 0, -1, 2, 0, 2, 2, 2, 6, 14], [1, 0, 0, 0, 1, -1, 1, 0, -1, -1, 3, -3, -1, 5, 15], [0, 0, -1, -1, 1, 0, -2, 2, -1, 1, -1, 0, 2, 4, 14], [0, 1, 0, 0, -1, 1, -1, -1, -1, -1, -1, 1, -1, 5, 35], [-1, 0, 0, 0, 0, 0, 0, 2, 2, 0, 2, 0, -4, 0, 20], [0, 0, 1, 1, -1, -1, -1, 0, 1, 1, -3, -3, 1, 1, 21], [0, 0, -1, 1, 1, -1, 1, 0, 1, -1, -3, 3, 1, -1, 21], [0, -1, 0, 0, 1, 1, 1, -1, -1, 1, -1, -1, -1, -5, 35], [1, 0, 0, 0, -1, -1, -1, 0, -1, 1, 3, 3, -1, -5, 15], [0, 0, 1, -1, -1, 0, 2, 2, -1, -1, -1, 0, 2, -4, 14], [0, 1, -1, -1, 0, 0, 0, -1, 2, 0, 2, -2, 2, -6, 14], [-1, 0, 1, 1, 1, 0, -2, 0, -1, -1, 3, 0, 2, -4, 6], [1, -1, -1, 1, -1, 1, -1, 1, 1, -1, 1, -1, 1, -1, 1]],
  [[1, 1, 1, 1, 1, 1, 1, 1, 1, 1, 1, 1, 1, 1, 1, 1, 1, 1, 1, 1, 1, 1], [-1, 0, -1, 1, -1, 0, 2, -1, 0, -1, 1, 3, -1, 1, 0, 2, 4, -1, 1, 3, 5, 7], [0, -1, 1, -1, 0, 0, 0, 0, -1, 2, 0, 2, 1, -1, 1, 1, 5, 4, 2, 4, 10, 20], [1, 0, 0, 0, 1, -1, 1, 1, 0, -1, -1, 3, 0, 0, -2, 0, 6, -3, -3, 1, 9, 21], [0, 0, -1, -1, 1, 0, -2, 0, 1, -2, 0, -2, 1, 1, 1, 1, 1, -4, 2, 4, 10, 28], [0, 1, 0, 0, -1, 1, -1, 0, 0, 0, 0, 0, -2, -2, 0, -2, 4, 0, 0, 0, 16, 64], [-1, 0, 0, 0, 0, 0, 0, -1, 1, 1, -1, 1, 2, 2, 1, -1, 5, 3, -3, -5, 5, 35], [0, 0, 0, 0, -1, -1, -1, 2, 1, 2, 0, -2, -2, 2, -1, 1, -1, 6, 0, 2, 4, 14], [0, 0, 1, 1, 0, 0, 0, -2, -1, 0, 0, -4, 1, 1, -1, 1, -5, -2, -2, 2, 10, 70], [0, 0, -1, 1, 1, -1, 1, 0, 0, 0, 0, 0, 1, -1, 0, -2, -4, 8, 4, 0, 4, 56], [0, -1, 0, 0, 0, 0, 0, 2, 0, 0, 2, 0, 0, 0, 0, 0, 0, -6, 0, -6, 0, 90], [1, 0, 0, 0, 0, 0, 0, -1, -1, -1, -1, -1, -2, 2, 1, 1, 5, 3, 3, -5, -5, 35], [0, 0, 0, 0, -1, 0, 2, 2, 0, 0, -2, 0, 0, 0, 2, 0, -6, -6, 0, 2, 0, 42], [0, 0, -1, -1, 1, 1, 1, 0, 0, 0, 0, 0, -1, -1, 0, 2, -4, 8, -4, 0, -4, 56], [0, 0, 1, -1, 0, 0, 0, -2, 1, 0, 0, 4, -1, 1, -1, -1, -5, -2, 2, 2, -10, 70], [0, 1, 0, 0, -1, -1, -1, 0, 0, 0, 0, 0, 2, -2, 0, 2, 4, 0, 0, 0, -16, 64], [-1, 0, 0, 0, 1, 1, 1, 1, 0, 1, -1, -3, 0, 0, -2, 0, 6, -3, 3, 1, -9, 21], [0, 0, 0, 0, -1, 1, -1, 2, -1, -2, 0, 2, 2, 2, -1, -1, -1, 6, 0, 2, -4, 14], [0, 0, -1, 1, 1, 0, -2, 0, -1, 2, 0, 2, -1, 1, 1, -1, 1, -4, -2, 4, -10, 28], [0, -1, 1, 1, 0, 0, 0, 0, 1, -2, 0, -2, -1, -1, 1, -1, 5, 4, -2, 4, -10, 20], [1, 0, -1, -1, -1, 0, 2, -1, 0, 1, 1, -3, 1, 1, 0, -2, 4, -1, -1, 3, -5, 7], [-1, 1, 1, -1, 1, -1, 1, 1, -1, -1, 1, -1, -1, 1, 1, -1, 1, 1, -1, 1, -1, 1]],
  [[1, 1, 1, 1, 1, 1, 1, 1, 1, 1, 1, 1, 1, 1, 1, 1, 1, 1, 1, 1, 1, 1, 1, 1, 1, 1, 1, 1, 1, 1], [-1, 0, -1, 1, -1, 0, 2, -1, 0, -1, 1, 3, 0, -1, 1, 0, 2, 4, -1, 0, 2, -1, 1, 3, 5, 0, 2, 4, 6, 8], [0, -1, 1, -1, 0, 0, 0, 0, -1, 2, 0, 2, -1, 1, -1, 1, 1, 5, 0, 0, 0, 3, 1, 3, 9, 3, 3, 7, 15, 27], [1, 0, 0, 0, 1, -1, 1, 1, 0, -1, -1, 3, 0, 0, 0, -2, 0, 6, 1, -1, 1, -2, -2, 2, 10, -4, -2, 4, 14, 28], [0, 0, -1, -1, 1, 0, -2, 0, 1, -2, 0, -2, 0, 0, 0, 0, 0, 0, 3, 2, 0, -2, 2, 2, 6, 0, 4, 8, 20, 48], [0, 1, 0, 0, -1, 1, -1, 0, 0, 0, 0, 0, 1, -1, -1, 1, -1, 5, -3, -1, -3, -1, -1, -1, 15, 1, -1, 5, 35, 105], [-1, 0, 0, 0, 0, 0, 0, -1, 1, 1, -1, 1, 0, 1, 1, 0, -2, 4, 2, 2, 2, 3, -1, -1, 11, 0, -6, -4, 14, 56], [0, 0, 0, 0, -1, -1, -1, 1, 0, 1, -1, -3, 2, 0, 2, 0, 0, -4, -3, -1, 3, 2, 0, 2, 0, 2, 2, 6, 14, 42], [0, 0, 1, 1, 0, 0, 0, -1, 0, 1, 1, -3, -2, 0, 0, -2, 0, -6, 0, 0, 0, 0, 0, 0, 0, -6, 0, 6, 36, 162], [0, 0, -1, 1, 1, -1, 1, 0, 0, 0, 0, 0, 0, 0, 0, 0, 0, 0, 3, -1, -3, 4, 0, -4, 0, 8, 4, 0, 20, 120], [0, -1, 0, 0, 0, 0, 0, 1, -1, -1, 1, -1, 1, 1, 1, 1, 1, 1, 0, 0, 0, -3, 1, -3, 9, -3, -3, -11, 21, 189], [1, 0, 0, 0, 0, 0, 0, 0, 0, 0, 0, 0, -2, -2, 0, 0, -2, 0, -2, 0, 4, 0, 2, 0, 10, 6, 0, -10, 0, 70], [0, 0, 0, 0, 1, 1, 1, -1, -1, -1, -1, -1, 0, 0, 0, 2, 0, -6, 3, -1, 3, -2, -2, 2, -6, 4, -2, 4, 14, 84], [0, 0, 0, 0, -1, 0, 2, 1, 0, -1, -1, 3, 0, 1, -1, 0, -2, -4, -3, 2, 0, -1, 1, -1, -15, 0, 2, 4, 14, 168], [0, 0, -1, -1, 0, 0, 0, 1, 1, 1, 1, 1, 0, -1, -1, 0, 2, -4, 0, 0, 0, 3, -1, 3, -9, 0, -6, -4, 6, 216], [0, 0, 1, -1, 0, 0, 0, -1, 1, 1, -1, 1, 0, -1, 1, 0, 2, 4, 0, 0, 0, -3, -1, -3, -9, 0, 6, -4, -6, 216], [0, 1, 0, 0, 0, 0, 0, -1, -1, -1, -1, -1, 1, 1, -1, -1, 1, -1, 0, 0, 0, 3, 1, 3, 9, -3, 3, -11, -21, 189], [-1, 0, 0, 0, 0, 0, 0, 1, 1, 1, 1, 1, 0, 1, -1, 0, -2, -4, 2, -2, 2, -3, -1, 1, 11, 0, 6, -4, -14, 56], [0, 0, 0, 0, 0, 0, 0, 0, -1, 2, 0, 2, 2, -2, 0, 0, -2, 0, 6, 0, 0, 0, 2, 0, -6, -6, 0, 2, 0, 42], [0, 0, 0, 0, 1, 0, -2, -1, 0, -1, 1, 3, 0, 1, 1, 0, -2, 4, -3, -2, 0, 1, 1, 1, -15, 0, -2, 4, -14, 168], [0, 0, 1, 1, -1, -1, -1, 0, 0, 0, 0, 0, 0, 0, 0, 0, 0, 0, 3, 1, -3, -4, 0, 4, 0, 8, -4, 0, -20, 120], [0, 0, 0, 0, -1, 1, -1, 1, -1, -1, 1, -1, 0, 0, 0, -2, 0, 6, 3, 1, 3, 2, -2, -2, -6, 4, 2, 4, -14, 84], [0, 0, -1, 1, 0, 0, 0, 1, 0, 1, -1, -3, -2, 0, 0, 2, 0, 6, 0, 0, 0, 0, 0, 0, 0, -6, 0, 6, -36, 162], [0, -1, 0, 0, 1, 1, 1, 0, 0, 0, 0, 0, 1, -1, 1, -1, -1, -5, -3, 1, -3, 1, -1, 1, 15, 1, 1, 5, -35, 105], [1, 0, 0, 0, -1, -1, -1, -1, 0, -1, 1, 3, 0, 0, 0, 2, 0, -6, 1, 1, 1, 2, -2, -2, 10, -4, 2, 4, -14, 28], [0, 0, 0, 0, 1, -1, 1, -1, 0, 1, 1, -3, 2, 0, -2, 0, 0, 4, -3, 1, 3, -2, 0, -2, 0, 2, -2, 6, -14, 42], [0, 0, 1, -1, -1, 0, 2, 0, 1, -2, 0, -2, 0, 0, 0, 0, 0, 0, 3, -2, 0, 2, 2, -2, 6, 0, -4, 8, -20, 48], [0, 1, -1, -1, 0, 0, 0, 0, -1, 2, 0, 2, -1, 1, 1, -1, 1, -5, 0, 0, 0, -3, 1, -3, 9, 3, -3, 7, -15, 27], [-1, 0, 1, 1, 1, 0, -2, 1, 0, -1, -1, 3, 0, -1, -1, 0, 2, -4, -1, 0, 2, 1, 1, -3, 5, 0, -2, 4, -6, 8], [1, -1, -1, 1, -1, 1, -1, -1, 1, 1, -1, 1, 1, 1, -1, -1, 1, -1, 1, -1, 1, -1, 1, -1, 1, 1, -1, 1, -1, 1]]]
def look (n ip ic : Nat) : Int := ((chT.getD n []).getD ip []).getD ic 0
def ixP (n : Nat) (q : List Int) : Nat := (genA n).findIdx fun p => p == q
def natL (c : List Int) : List Nat := c.map Int.toNat
def stepT (n : Nat) (p : List Int) : List Int → Int
  | [] => 1
  | k :: c => ((stpL p k.toNat).map fun s => sg s.2 * look (n - k.toNat) (ixP (n - k.toNat) s.1) (ixP (n - k.toNat) c)).sum
def chkT (n : Nat) : Bool := (genA n).all fun p => (genA n).all fun c => look n (ixP n p) (ixP n c) == stepT n p c
theorem chkT_all : ∀ n, n < 10 → chkT n = true := by decide +kernel

/-- What is left lies in the list of its size. -/
def chkM (n : Nat) : Bool := (genA n).all fun p => (List.range n).all fun k => (stpL p (k + 1)).all fun s => (genA (n - (k + 1))).contains s.1
def chkC (n : Nat) : Bool := (genA n).all fun c => match c with | [] => true | k :: c' => decide (1 ≤ k) && decide (k ≤ n) && (genA (n - k.toNat)).contains c'
theorem chkM_all : ∀ n, n < 10 → chkM n = true := by decide +kernel
theorem chkC_all : ∀ n, n < 13 → chkC n = true := by decide +kernel
theorem chi_look : ∀ (c p : List Int) (n : Nat), n < 10 → p ∈ genA n → c ∈ genA n → chi (natL c) p = look n (ixP n p) (ixP n c)
  | [], p, n, hn, hp, hc => by
    have h := chkT_all n hn
    unfold chkT at h
    rw [List.all_eq_true] at h
    have h1 := h p hp
    rw [List.all_eq_true] at h1
    have h2 := beq_iff_eq.1 (h1 [] hc)
    rw [h2]; rfl
  | k :: c, p, n, hn, hp, hc => by
    have h := chkT_all n hn
    unfold chkT at h
    rw [List.all_eq_true] at h
    have h1 := h p hp
    rw [List.all_eq_true] at h1
    have h2 := beq_iff_eq.1 (h1 (k :: c) hc)
    have hC := chkC_all n (by omega)
    unfold chkC at hC
    rw [List.all_eq_true] at hC
    have h3 := hC (k :: c) hc
    simp only [Bool.and_eq_true, decide_eq_true_eq, List.contains_iff_mem] at h3
    obtain ⟨⟨k1, k2⟩, hc'⟩ := h3
    have hM := chkM_all n hn
    unfold chkM at hM
    rw [List.all_eq_true] at hM
    have h4 := hM p hp
    rw [List.all_eq_true] at h4
    have h5 := h4 (k.toNat - 1) (by rw [List.mem_range]; omega)
    rw [show k.toNat - 1 + 1 = k.toNat by omega, List.all_eq_true] at h5
    rw [h2]
    show ((stpL p k.toNat).map fun s => sg s.2 * chi (natL c) s.1).sum = _
    unfold stepT
    congr 1
    refine List.map_congr_left fun s hs => ?_
    have h6 := h5 s hs
    rw [List.contains_iff_mem] at h6
    rw [chi_look c s.1 (n - k.toNat) (by omega) h6 hc']
theorem ixP_lt {n : Nat} {p : List Int} (h : p ∈ genA n) : ixP n p < (genA n).length := List.findIdx_lt_length_of_exists ⟨p, h, by simp⟩
theorem ixP_at {n : Nat} {p : List Int} (h : p ∈ genA n) : (genA n).getD (ixP n p) [] = p := by
  have h1 := List.findIdx_getElem (xs := genA n) (p := fun q => q == p) (w := ixP_lt h)
  have h2 : (genA n)[ixP n p]'(ixP_lt h) = p := beq_iff_eq.1 h1
  rw [List.getD, List.getElem?_eq_getElem (ixP_lt h), Option.getD_some, h2]
theorem ixP_inj {n : Nat} {p q : List Int} (hp : p ∈ genA n) (hq : q ∈ genA n) : ixP n p = ixP n q ↔ p = q := by
  constructor
  · intro h; rw [← ixP_at hp, h, ixP_at hq]
  · intro h; rw [h]
theorem ixP_self : ∀ n, n < 10 → ∀ k, k < (genA n).length → ixP n ((genA n).getD k []) = k := by decide +kernel

/-- How many orders make the same permutation, part by part. -/
def smL : Int → Nat → Nat → List Int → Nat
  | _, _, same, [] => same
  | prev, alike, same, z :: q => smL z (if z = prev then alike + 1 else 1) (same * (z.toNat * (if z = prev then alike + 1 else 1))) q
def smA (c : List Int) : Nat := smL 0 0 1 c
theorem smL_ge : ∀ (q : List Int) (prev : Int) (alike same : Nat), (∀ z ∈ q, 1 ≤ z) → same ≤ smL prev alike same q
  | [], _, _, same, _ => Nat.le_refl _
  | z :: q, prev, alike, same, h => by
    rw [smL]
    refine Nat.le_trans ?_ (smL_ge q z _ _ fun y hy => h y (by simp [hy]))
    have h1 := h z (by simp)
    refine Nat.le_mul_of_pos_right _ (Nat.mul_pos (by omega) (by split <;> omega))
theorem smA_few : ∀ n, n < 13 → (genA n).all (fun c => decide (0 < smA c) && decide (smA c ≤ 479001600)) = true := by decide +kernel
/-- The number of permutations. -/
def fcT : Nat → Nat
  | 0 => 1
  | n + 1 => fcT n * (n + 1)
def clN (n : Nat) (c : List Int) : Nat := fcT n / smA c
def rowT (n ip iq k : Nat) : Int := look n ip k * look n iq k * (clN n ((genA n).getD k []) : Int)
def colT (n im iq k : Nat) : Int := look n k im * look n k iq
def chkR (n : Nat) : Bool := (List.range (genA n).length).all fun ip => (List.range (genA n).length).all fun iq => sZ (rowT n ip iq) (genA n).length == if ip = iq then (fcT n : Int) else 0
def chkL (n : Nat) : Bool := (List.range (genA n).length).all fun ip => (List.range (genA n).length).all fun iq => sZ (colT n ip iq) (genA n).length == if ip = iq then ((fcT n / clN n ((genA n).getD ip []) : Nat) : Int) else 0
theorem chkR_all : ∀ n, n < 10 → chkR n = true := by decide +kernel
theorem chkL_all : ∀ n, n < 10 → chkL n = true := by decide +kernel
theorem look_small : ∀ n, n < 10 → ((chT.getD n []).all fun r => r.all fun z => decide (z.natAbs ≤ 1000)) = true := by decide +kernel
theorem clN_small : ∀ n, n < 13 → ((genA n).all fun c => decide (0 < clN n c) && decide (clN n c ≤ 479001600)) = true := by decide +kernel
theorem getD_memX {α : Type} {l : List α} {k : Nat} (d : α) (h : k < l.length) : l.getD k d ∈ l := by simp [List.getD, h]
theorem look_bd {n : Nat} (hn : n < 10) (ip ic : Nat) : (look n ip ic).natAbs ≤ 1000 := by
  have h := look_small n hn
  rw [List.all_eq_true] at h
  unfold look
  by_cases h1 : ip < (chT.getD n []).length
  · have h2 := h ((chT.getD n []).getD ip []) (getD_memX [] h1)
    rw [List.all_eq_true] at h2
    by_cases h3 : ic < ((chT.getD n []).getD ip []).length
    · have h4 := h2 (((chT.getD n []).getD ip []).getD ic 0) (getD_memX 0 h3)
      exact of_decide_eq_true h4
    · rw [List.getD, List.getElem?_eq_none (by omega)]; simp
  · rw [show (chT.getD n []).getD ip [] = [] by rw [List.getD, List.getElem?_eq_none (by omega)]; rfl]; simp
theorem rows_up {n : Nat} (hn : n < 10) {p q : List Int} (hp : p ∈ genA n) (hq : q ∈ genA n) : sZ (rowT n (ixP n p) (ixP n q)) (genA n).length = if p = q then (fcT n : Int) else 0 := by
  have h := chkR_all n hn
  unfold chkR at h
  rw [List.all_eq_true] at h
  have h1 := h (ixP n p) (List.mem_range.2 (ixP_lt hp))
  rw [List.all_eq_true] at h1
  have h2 := beq_iff_eq.1 (h1 (ixP n q) (List.mem_range.2 (ixP_lt hq)))
  rw [h2]
  by_cases e : p = q
  · rw [if_pos e, if_pos ((ixP_inj hp hq).2 e)]
  · rw [if_neg e, if_neg (fun z => e ((ixP_inj hp hq).1 z))]
theorem cols_up {n : Nat} (hn : n < 10) {p q : List Int} (hp : p ∈ genA n) (hq : q ∈ genA n) : sZ (colT n (ixP n p) (ixP n q)) (genA n).length = if p = q then ((fcT n / clN n p : Nat) : Int) else 0 := by
  have h := chkL_all n hn
  unfold chkL at h
  rw [List.all_eq_true] at h
  have h1 := h (ixP n p) (List.mem_range.2 (ixP_lt hp))
  rw [List.all_eq_true] at h1
  have h2 := beq_iff_eq.1 (h1 (ixP n q) (List.mem_range.2 (ixP_lt hq)))
  rw [h2]
  by_cases e : p = q
  · rw [if_pos e, if_pos ((ixP_inj hp hq).2 e), ixP_at hp]
  · rw [if_neg e, if_neg (fun z => e ((ixP_inj hp hq).1 z))]

end Go.Proofs.Ytheebpjkjclgbaa
