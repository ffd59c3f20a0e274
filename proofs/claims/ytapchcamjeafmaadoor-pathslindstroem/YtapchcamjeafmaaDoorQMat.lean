/-
  The determinant as the program reckons it, along the first row: it is the sum over all orders.
-/
import Derived.Test.YtapchcamjeafmaaDoorQLgx
namespace Go.Proofs.YtapchcamjeafmaaDoor

/-- A row without its place j. -/
def woR (j : Nat) (r : List Int) : List Int := r.take j ++ r.drop (j + 1)
def sgI (j : Nat) : Int := if j % 2 = 1 then -1 else 1
theorem sgI_succ (j : Nat) : sgI (j + 1) = - sgI j := by
  unfold sgI
  rcases Nat.mod_two_eq_zero_or_one j with h | h
  · rw [if_pos (by omega), if_neg (by omega)]
  · rw [if_neg (by omega), if_pos h]; rfl
def dtN : Nat → List (List Int) → Int
  | 0, _ => 1
  | n + 1, rows => ((List.range (n + 1)).map fun j => sgI j * (rows.getD 0 []).getD j 0 * dtN n (rows.tail.map (woR j))).sum
/-- The sum so far. -/
def dtS (n : Nat) (rows : List (List Int)) (j : Nat) : Int := ((List.range j).map fun j => sgI j * (rows.getD 0 []).getD j 0 * dtN n (rows.tail.map (woR j))).sum
theorem dtS_succ (n : Nat) (rows : List (List Int)) (j : Nat) : dtS n rows (j + 1) = dtS n rows j + sgI j * (rows.getD 0 []).getD j 0 * dtN n (rows.tail.map (woR j)) := by
  unfold dtS
  rw [List.range_succ, List.map_append, List.sum_append]; simp
theorem dtN_S (n : Nat) (rows : List (List Int)) : dtN (n + 1) rows = dtS n rows (n + 1) := rfl
def bnN : Nat → Nat
  | 0 => 1
  | n + 1 => (n + 1) * (16384 * bnN n)
/-- Rows of one length, of numbers of paths. -/
def Sqr (m n : Nat) (rows : List (List Int)) : Prop := rows.length = m ∧ ∀ r ∈ rows, r.length = n ∧ ∀ z ∈ r, 0 ≤ z ∧ z ≤ 16384
theorem wo_len {j : Nat} {r : List Int} (h : j < r.length) : (woR j r).length = r.length - 1 := by
  unfold woR; simp; omega
theorem wo_mem {j : Nat} {r : List Int} {z : Int} (h : z ∈ woR j r) : z ∈ r := by
  unfold woR at h
  rcases List.mem_append.1 h with h | h
  · exact List.mem_of_mem_take h
  · exact List.mem_of_mem_drop h
theorem Sqr.wo {m n : Nat} {rows : List (List Int)} (h : Sqr (m + 1) (n + 1) rows) {j : Nat} (hj : j < n + 1) : Sqr m n (rows.tail.map (woR j)) := by
  refine ⟨by rw [List.length_map, List.length_tail, h.1]; rfl, fun r hr => ?_⟩
  obtain ⟨q, hq, rfl⟩ := List.mem_map.1 hr
  have h2 := h.2 q (List.mem_of_mem_tail hq)
  exact ⟨by rw [wo_len (by omega), h2.1]; rfl, fun z hz => h2.2 z (wo_mem hz)⟩
theorem Sqr.at {m n : Nat} {rows : List (List Int)} (h : Sqr m n rows) {i : Nat} (hi : i < m) : (rows.getD i []).length = n ∧ ∀ z ∈ rows.getD i [], 0 ≤ z ∧ z ≤ 16384 := by
  have hm : rows.getD i [] ∈ rows := by
    have : i < rows.length := by rw [h.1]; exact hi
    simp [List.getD, List.getElem?_eq_getElem this]
  exact h.2 _ hm
theorem Sqr.val {m n : Nat} {rows : List (List Int)} (h : Sqr m n rows) {i j : Nat} (hi : i < m) (hj : j < n) : 0 ≤ (rows.getD i []).getD j 0 ∧ (rows.getD i []).getD j 0 ≤ 16384 := by
  have h2 := h.at hi
  refine h2.2 _ ?_
  generalize rows.getD i [] = r at h2
  have h3 : j < r.length := by rw [h2.1]; exact hj
  rw [List.getD, List.getElem?_eq_getElem h3]
  exact List.getElem_mem _
theorem abs_mul (a b : Int) (A B : Nat) (ha : a.natAbs ≤ A) (hb : b.natAbs ≤ B) : (a * b).natAbs ≤ A * B := by
  rw [Int.natAbs_mul]; exact Nat.mul_le_mul ha hb
theorem sgI_abs (j : Nat) : (sgI j).natAbs ≤ 1 := by
  unfold sgI; split <;> decide
theorem dtN_bd : ∀ (n : Nat) (rows : List (List Int)), Sqr n n rows → (dtN n rows).natAbs ≤ bnN n
  | 0, _, _ => Nat.le_refl 1
  | n + 1, rows, h => by
    have key : ∀ j, j ≤ n + 1 → (dtS n rows j).natAbs ≤ j * (16384 * bnN n) := by
      intro j
      induction j with
      | zero => intro _; simp [dtS]
      | succ j ih =>
        intro hj
        rw [dtS_succ]
        have h1 := ih (by omega)
        have h2 := dtN_bd n _ (h.wo (j := j) (by omega))
        have hv := h.val (i := 0) (j := j) (by omega) (by omega)
        have h3 := abs_mul _ _ 1 16384 (sgI_abs j) (by omega : ((rows.getD 0 []).getD j 0).natAbs ≤ 16384)
        have h4 := abs_mul _ _ (1 * 16384) (bnN n) h3 h2
        have h5 := Int.natAbs_add_le (dtS n rows j) (sgI j * (rows.getD 0 []).getD j 0 * dtN n (rows.tail.map (woR j)))
        rw [Nat.one_mul] at h4
        rw [Nat.add_mul, Nat.one_mul]
        omega
    rw [dtN_S]
    exact key (n + 1) (Nat.le_refl _)
theorem dtS_bd (n : Nat) (rows : List (List Int)) (h : Sqr (n + 1) (n + 1) rows) : ∀ j, j ≤ n + 1 → (dtS n rows j).natAbs ≤ j * (16384 * bnN n) := by
  intro j
  induction j with
  | zero => intro _; simp [dtS]
  | succ j ih =>
    intro hj
    rw [dtS_succ]
    have h1 := ih (by omega)
    have h2 := dtN_bd n _ (h.wo (j := j) (by omega))
    have hv := h.val (i := 0) (j := j) (by omega) (by omega)
    have h3 := abs_mul _ _ 1 16384 (sgI_abs j) (by omega : ((rows.getD 0 []).getD j 0).natAbs ≤ 16384)
    have h4 := abs_mul _ _ (1 * 16384) (bnN n) h3 h2
    have h5 := Int.natAbs_add_le (dtS n rows j) (sgI j * (rows.getD 0 []).getD j 0 * dtN n (rows.tail.map (woR j)))
    rw [Nat.one_mul] at h4
    rw [Nat.add_mul, Nat.one_mul]
    omega
theorem bnN_le {n : Nat} (h : n ≤ 4) : bnN n ≤ 1729382256910270464 := by
  match n, h with
  | 0, _ => decide
  | 1, _ => decide
  | 2, _ => decide
  | 3, _ => decide
  | 4, _ => decide
/-- It is the sum over all orders. -/
theorem dt_lbn (A : List (Nat → Int)) (h : A.length ≤ 4) : dtN A.length (A.map fun f => (List.range A.length).map f) = lbn A := by
  match A, h with
  | [], _ => rfl
  | [a], _ =>
    show dtN 1 [[a 0]] = lbn [a]
    have e : lbn [a] = 1 * (a 0 * 1) + 0 := by
      show ((ordL 1).map fun p => p.2 * prW [a] p.1).sum = _
      rfl
    rw [e]
    show (1 : Int) * a 0 * 1 + 0 = _
    simp only [Int.mul_one, Int.one_mul]
  | [a, b], _ =>
    show dtN 2 [[a 0, a 1], [b 0, b 1]] = _
    rw [lbn2]
    show (1 : Int) * a 0 * (1 * b 1 * 1 + 0) + (-1 * a 1 * (1 * b 0 * 1 + 0) + 0) = _
    simp only [Int.mul_one, Int.one_mul, Int.add_zero, Int.neg_mul]
    omega
  | [a, b, c], _ =>
    show dtN 3 [[a 0, a 1, a 2], [b 0, b 1, b 2], [c 0, c 1, c 2]] = _
    rw [lbn3]
    have d2 (x y z t : Int) : dtN 2 [[x, y], [z, t]] = x * t - y * z := by
      show (1 : Int) * x * (1 * t * 1 + 0) + (-1 * y * (1 * z * 1 + 0) + 0) = _
      simp only [Int.mul_one, Int.one_mul, Int.add_zero, Int.neg_mul]
      omega
    show (1 : Int) * a 0 * dtN 2 [[b 1, b 2], [c 1, c 2]] + (-1 * a 1 * dtN 2 [[b 0, b 2], [c 0, c 2]] + (1 * a 2 * dtN 2 [[b 0, b 1], [c 0, c 1]] + 0)) = _
    rw [d2, d2, d2]
    simp only [Int.one_mul, Int.add_zero, Int.neg_mul, Int.mul_sub]
    omega
  | [a, b, c, d], _ =>
    show dtN 4 [[a 0, a 1, a 2, a 3], [b 0, b 1, b 2, b 3], [c 0, c 1, c 2, c 3], [d 0, d 1, d 2, d 3]] = _
    rw [lbn4]
    have d2 (x y z t : Int) : dtN 2 [[x, y], [z, t]] = x * t - y * z := by
      show (1 : Int) * x * (1 * t * 1 + 0) + (-1 * y * (1 * z * 1 + 0) + 0) = _
      simp only [Int.mul_one, Int.one_mul, Int.add_zero, Int.neg_mul]
      omega
    have d3 (a0 a1 a2 b0 b1 b2 c0 c1 c2 : Int) : dtN 3 [[a0, a1, a2], [b0, b1, b2], [c0, c1, c2]] = a0 * (b1 * c2 - b2 * c1) - a1 * (b0 * c2 - b2 * c0) + a2 * (b0 * c1 - b1 * c0) := by
      show (1 : Int) * a0 * dtN 2 [[b1, b2], [c1, c2]] + (-1 * a1 * dtN 2 [[b0, b2], [c0, c2]] + (1 * a2 * dtN 2 [[b0, b1], [c0, c1]] + 0)) = _
      rw [d2, d2, d2]
      simp only [Int.one_mul, Int.add_zero, Int.neg_mul]
      omega
    show (1 : Int) * a 0 * dtN 3 [[b 1, b 2, b 3], [c 1, c 2, c 3], [d 1, d 2, d 3]] + (-1 * a 1 * dtN 3 [[b 0, b 2, b 3], [c 0, c 2, c 3], [d 0, d 2, d 3]] + (1 * a 2 * dtN 3 [[b 0, b 1, b 3], [c 0, c 1, c 3], [d 0, d 1, d 3]] + (-1 * a 3 * dtN 3 [[b 0, b 1, b 2], [c 0, c 1, c 2], [d 0, d 1, d 2]] + 0))) = _
    rw [d3, d3, d3, d3]
    simp only [Int.one_mul, Int.add_zero, Int.neg_mul, Int.mul_sub, Int.mul_add]
    omega
  | _ :: _ :: _ :: _ :: _ :: _, h => exact absurd h (by simp)
end Go.Proofs.YtapchcamjeafmaaDoor
