/-
  The open cells of a text: how many, the first of them, and one block covered after the other; ferref.Put on such a text.
-/
import Derived.Test.YtcnmndbckjmliaaDoorNHq
import Derived.Test.YtcnmndbckjmliaaDoorNRPu
namespace Go.Proofs.YtcnmndbckjmliaaDoor
open Go.RowKit

theorem index_first (L : List UInt8) (c : UInt8) (q : Nat) (h : L[q]? = some c) (hb : ∀ j, j < q → L[j]? ≠ some c) : Lib.indexByte L c = (q : Int) := by
  have hq : q < L.length := (List.getElem?_eq_some_iff.1 h).1
  have e : L = L.take q ++ c :: L.drop (q + 1) := by
    have h2 : L[q] = c := (List.getElem?_eq_some_iff.1 h).2
    rw [← h2, ← List.drop_eq_getElem_cons hq, List.take_append_drop]
  have hn : c ∉ L.take q := fun hm => by
    obtain ⟨j, hj, hx⟩ := List.mem_iff_getElem.1 hm
    rw [List.length_take] at hj
    rw [List.getElem_take] at hx
    exact hb j (by omega) (by rw [List.getElem?_eq_getElem (by omega), hx])
  have h3 := index_atz (L.take q) c (L.drop (q + 1)) hn
  rw [← e, List.length_take, Nat.min_eq_left (by omega)] at h3
  exact h3
/-- The first open cell. -/
theorem tx_first35 (r c : Nat) (g : Nat → UInt8) (y x : Nat) (hy : y < r + 1) (hx : x < c) (hc : c ≤ 8) (h : g (y * 8 + x) = 35) (hb : ∀ p, p < y * 8 + x → g p ≠ 35) : Lib.indexByte (tx (r + 1) c g) 35 = ((y * (c + 1) + x : Nat) : Int) := by
  refine index_first _ _ _ (by rw [tx_get r c g y x hy hx, h]) fun j hj => ?_
  obtain ⟨i, hi⟩ : ∃ i, i = j / (c + 1) := ⟨_, rfl⟩
  obtain ⟨k, hk⟩ : ∃ k, k = j % (c + 1) := ⟨_, rfl⟩
  have hjk : j = i * (c + 1) + k := by rw [hi, hk, Nat.mul_comm]; exact (Nat.div_add_mod j (c + 1)).symm
  have hkl : k < c + 1 := by rw [hk]; exact Nat.mod_lt _ (by omega)
  have hiy : i ≤ y := by
    rcases Nat.lt_or_ge y i with q | q
    · have : (y + 1) * (c + 1) ≤ i * (c + 1) := Nat.mul_le_mul_right _ q
      rw [Nat.succ_mul] at this
      omega
    · exact q
  by_cases hkc : k < c
  · rw [hjk, tx_get r c g i k (by omega) hkc]
    have : i * 8 + k < y * 8 + x := by
      by_cases e : i = y
      · subst e; omega
      · omega
    exact fun q => hb _ this (Option.some.inj q)
  · have hkc' : k = c := by omega
    have : i < y := by
      by_cases e : i = y
      · subst e; omega
      · omega
    rw [hjk, hkc', tx_end r c g i (by omega)]
    decide

theorem countP_beyond (p : Nat → Bool) (c : Nat) : ∀ m, (∀ k, c ≤ k → k < c + m → p k = false) → (List.range (c + m)).countP p = (List.range c).countP p
  | 0, _ => rfl
  | m + 1, h => by
    rw [show c + (m + 1) = (c + m) + 1 by omega, List.range_succ, List.countP_append, countP_beyond p c m (fun k h1 h2 => h k h1 (by omega))]
    simp [h (c + m) (by omega) (by omega)]
theorem sum_beyond (f : Nat → Nat) (c : Nat) : ∀ m, (∀ k, c ≤ k → k < c + m → f k = 0) → ((List.range (c + m)).map f).sum = ((List.range c).map f).sum
  | 0, _ => rfl
  | m + 1, h => by
    rw [show c + (m + 1) = (c + m) + 1 by omega, List.range_succ, List.map_append, List.sum_append, sum_beyond f c m (fun k h1 h2 => h k h1 (by omega))]
    simp [h (c + m) (by omega) (by omega)]
theorem range64 (p : Nat → Bool) : (List.range 64).countP p = ((List.range 8).map fun i => (List.range 8).countP fun j => p (i * 8 + j)).sum := by
  have e : List.range 64 = (List.range 8).flatMap fun i => (List.range 8).map fun j => i * 8 + j := by decide
  rw [e, List.countP_flatMap]
  congr 1
theorem rwo_count (c : Nat) (g : Nat → UInt8) (i : Nat) : (rwo c g i).count 35 = (List.range c).countP fun j => g (i * 8 + j) == 35 := by
  unfold rwo List.count
  rw [List.countP_map]; rfl
theorem tx_rows (c : Nat) (g : Nat → UInt8) : ∀ r, (tx (r + 1) c g).count 35 = ((List.range (r + 1)).map fun i => (rwo c g i).count 35).sum
  | 0 => by rw [tx_first]; simp
  | r + 1 => by
    rw [tx_snoc, List.count_append, List.count_cons_of_ne (by decide), tx_rows c g r, List.range_succ (n := r + 1), List.map_append, List.sum_append]
    simp
/-- How many cells of a text are open. -/
theorem tx_count (r c : Nat) (g : Nat → UInt8) (hr : r + 1 ≤ 8) (hc : c ≤ 8) (h : ∀ k, k < 64 → ¬ (k / 8 < r + 1 ∧ k % 8 < c) → g k ≠ 35) : (tx (r + 1) c g).count 35 = (List.range 64).countP fun k => g k == 35 := by
  rw [tx_rows, range64]
  obtain ⟨m, hm⟩ : ∃ m, 8 = c + m := ⟨8 - c, by omega⟩
  obtain ⟨m2, hm2⟩ : ∃ m2, 8 = (r + 1) + m2 := ⟨8 - (r + 1), by omega⟩
  have e1 : ∀ i, i < r + 1 → (rwo c g i).count 35 = (List.range 8).countP fun j => g (i * 8 + j) == 35 := fun i hi => by
    have e8 := countP_beyond (fun j => g (i * 8 + j) == 35) c m fun k h1 h2 => beq_false_of_ne (h _ (by omega) (by omega))
    rw [← hm] at e8
    rw [rwo_count, e8]
  rw [List.map_congr_left fun i hi => e1 i (List.mem_range.1 hi)]
  have e2 := sum_beyond (fun i => (List.range 8).countP fun j => g (i * 8 + j) == 35) (r + 1) m2 fun k h1 h2 => by
    show List.countP _ _ = 0
    rw [List.countP_eq_zero]
    intro j hj
    have := List.mem_range.1 hj
    simpa using h (k * 8 + j) (by omega) (by omega)
  rw [← hm2] at e2
  exact e2.symm

theorem inB_four : ∀ a, a < 55 → (List.range 64).countP (inB a) = 4 := by decide +kernel
theorem ord_count : ∀ (ks : List Nat) (h : Nat → Bool), OrdB h ks → (List.range 64).countP h = 4 * ks.length
  | [], h, o => by
    rw [List.countP_eq_zero.2 fun k hk => by rw [o k (List.mem_range.1 hk)]; simp]
    rfl
  | a :: ks, h, ⟨⟨o1, o2, o3, o4⟩, o5, o6, o7, o8⟩ => by
    have ih := ord_count ks _ o8
    have e := List.countP_eq_countP_filter_add (List.range 64) h (inB a)
    rw [List.countP_filter, List.countP_filter] at e
    have e1 : (List.range 64).countP (fun k => h k && inB a k) = 4 := by
      rw [← inB_four a o6]
      apply List.countP_congr
      intro k _
      constructor
      · intro q; simp only [Bool.and_eq_true] at q; exact q.2
      · intro q
        have hk : h k = true := by
          unfold inB at q
          simp only [Bool.or_eq_true, beq_iff_eq] at q
          rcases q with ((q | q) | q) | q <;> subst q <;> assumption
        simp only [hk, q, Bool.and_self]
    rw [e, e1, ih, List.length_cons]; omega

theorem cv_open (g : Nat → UInt8) (i j : Nat) (up : Bool) (hj : j < 7) (k : Nat) : (cvF g i j up k == 35) = ((g k == 35) && !inB (i * 8 + j) k) := by
  by_cases e : inB (i * 8 + j) k = true
  · rw [e, Bool.not_true, Bool.and_false]
    unfold inB at e
    simp only [Bool.or_eq_true, beq_iff_eq] at e
    apply beq_false_of_ne
    rcases e with ((e | e) | e) | e <;> subst e
    · rw [cv_corner2 g i j up (by omega)]; cases up <;> decide
    · rw [show i * 8 + j + 1 = i * 8 + (j + 1) by omega, cv01 g i j up (by omega)]; cases up <;> decide
    · rw [show i * 8 + j + 8 = (i + 1) * 8 + j by omega, cv10 g i j up (by omega)]; cases up <;> decide
    · rw [show i * 8 + j + 9 = (i + 1) * 8 + (j + 1) by omega, cv11 g i j up (by omega)]; cases up <;> decide
  · have e2 : inB (i * 8 + j) k = false := by simpa using e
    rw [e2, Bool.not_false, Bool.and_true, cv_out (by omega)]
    intro q
    have := (inB_iff (i * 8 + j) k).2 (by rw [show (i * 8 + j) / 8 = i by omega, show (i * 8 + j) % 8 = j by omega]; exact q)
    exact e this
theorem cv_letters {g : Nat → UInt8} {i j : Nat} (hj : j < 7) (up : Bool) {k : Nat} (h : g k ∈ shL) : cvF g i j up k ∈ shL := by
  by_cases e : inC i j k
  · rcases e with e | e | e | e <;> subst e
    · rw [cv_corner2 g i j up (by omega)]; cases up <;> decide
    · rw [cv01 g i j up (by omega)]; cases up <;> decide
    · rw [cv10 g i j up (by omega)]; cases up <;> decide
    · rw [cv11 g i j up (by omega)]; cases up <;> decide
  · rw [cv_out (by omega) e]; exact h

/-- A text of a diamond that is being shuffled, and the blocks that are still open. -/
structure ShO (d : Nat) (g : Nat → UInt8) (ks : List Nat) : Prop where
  ord : OrdB (fun k => g k == 35) ks
  let' : ∀ i, i < d → ∀ j, j < d → g (i * 8 + j) ∈ shL
  out : ∀ k, k < 64 → ¬ (k / 8 < d ∧ k % 8 < d) → g k ≠ 35
theorem ShO.cnt {r : Nat} {g : Nat → UInt8} {ks : List Nat} (h : ShO (r + 1) g ks) (hr : r + 1 ≤ 8) : (tx (r + 1) (r + 1) g).count 35 = 4 * ks.length := by
  rw [tx_count r (r + 1) g hr hr h.out]
  exact ord_count ks _ h.ord
/-- The next block. -/
theorem ShO.next {r : Nat} {g : Nat → UInt8} {a : Nat} {ks : List Nat} (h : ShO (r + 1) g (a :: ks)) (hr : r + 1 ≤ 8) (up : Bool) :
    a / 8 < r ∧ a % 8 < r ∧ Lib.indexByte (tx (r + 1) (r + 1) g) 35 = ((a / 8 * (r + 1 + 1) + a % 8 : Nat) : Int) ∧ ShO (r + 1) (cvF g (a / 8) (a % 8) up) ks := by
  obtain ⟨⟨o1, o2, o3, o4⟩, o5, o6, o7, o8⟩ := h.ord
  simp only [beq_iff_eq] at o1 o4
  have ha : a / 8 * 8 + a % 8 = a := by omega
  have hin : a / 8 < r ∧ a % 8 < r := by
    by_cases z : (a + 9) / 8 < r + 1 ∧ (a + 9) % 8 < r + 1
    · omega
    · exact absurd o4 (h.out _ (by omega) z)
  refine ⟨hin.1, hin.2, tx_first35 r (r + 1) g _ _ (by omega) (by omega) hr (by rw [ha]; exact o1) (fun p hp => ?_), ?_, fun i hi j hj => cv_letters o5 up (h.let' i hi j hj), fun k hk q => ?_⟩
  · rw [ha] at hp
    have := o7 p hp
    simpa using this
  · refine OrdB.congr ks _ _ (fun k _ => ?_) o8
    rw [cv_open g (a / 8) (a % 8) up o5 k, ha]
  · intro e
    have e2 := cv_open g (a / 8) (a % 8) up o5 k
    rw [e, beq_false_of_ne (h.out k hk q)] at e2
    exact absurd e2 (by simp)

theorem no47s : (47 : UInt8) ∉ shL := by decide
/-- ferref.Put of a block. -/
theorem PutG (t q : ByteArray) (g : Nat → UInt8) (i j r : Nat) (up : Bool) (w : World) (ht : t = ⟨(tx (r + 1) (r + 1) g).toArray⟩) (hq : q = if up = true then ⟨#[117, 117, 100, 100]⟩ else ⟨#[108, 114, 108, 114]⟩) (hr : r + 1 ≤ 8) (hg : ∀ i, i < r + 1 → ∀ j, j < r + 1 → g (i * 8 + j) ∈ shL) (hi : i < r) (hj : j < r) :
    Calls Tryd.prog 24 #[.string t, .int .i64 (j : Int), .int .i64 (i : Int), .string q] w fun e w' => e = .returned (.string ⟨(tx (r + 1) (r + 1) (cvF g i j up)).toArray⟩) ∧ Hid (Below w.heap.size w w') := by
  subst ht
  have hz : Shz shL (r + 1) (r + 1) (pz (tx (r + 1) (r + 1) g)) := by
    rw [pz_tx (lt := shL) (by omega) hg no47s]
    exact shz_rwz (by omega) (by omega) (by omega) (by omega) hg
  cases up with
  | true =>
    rw [if_pos rfl] at hq
    subst hq
    have h := Put_at ⟨(tx (r + 1) (r + 1) g).toArray⟩ r (r + 1) j i ⟨#[117, 117, 100, 100]⟩ 117 117 100 100 w shL hz (by omega) (by omega) rfl
    rw [← put_stand, ← put_tx r (r + 1) _ j i (by omega) (by omega) hr]
    exact h
  | false =>
    rw [if_neg (by decide)] at hq
    subst hq
    have h := Put_at ⟨(tx (r + 1) (r + 1) g).toArray⟩ r (r + 1) j i ⟨#[108, 114, 108, 114]⟩ 108 114 108 114 w shL hz (by omega) (by omega) rfl
    rw [← put_lie, ← put_tx r (r + 1) _ j i (by omega) (by omega) hr]
    exact h

end Go.Proofs.YtcnmndbckjmliaaDoor
