/-
  The loops of ferref.Rights, plain: a table that grows row by row; lists that grow table by table.
-/
import Derived.Test.YtncokoimbpkapaaRuF
namespace Go.Proofs.Ytncokoimbpkapaa
open Go.RowKit

/-- Row r, grown. -/
def gRow (t : List (List Nat)) (x : Nat) (q : List Nat) (r : Nat) : List Nat := nrow t r ++ List.replicate (q.getD r 0 - len2 t r) x
/-- The first r rows are grown. -/
def gtR (t : List (List Nat)) (x : Nat) (q : List Nat) (r : Nat) : List (List Nat) := (List.range (max t.length r)).map fun j => if j < r then gRow t x q j else nrow t j
/-- Row r is there to be grown. -/
def gtB (t : List (List Nat)) (x : Nat) (q : List Nat) (r : Nat) : List (List Nat) := (List.range (max t.length (r + 1))).map fun j => if j < r then gRow t x q j else nrow t j
theorem gtR_len (t : List (List Nat)) (x : Nat) (q : List Nat) (r : Nat) : (gtR t x q r).length = max t.length r := by simp [gtR]
theorem gtB_len (t : List (List Nat)) (x : Nat) (q : List Nat) (r : Nat) : (gtB t x q r).length = max t.length (r + 1) := by simp [gtB]
theorem gtR_zero (t : List (List Nat)) (x : Nat) (q : List Nat) : gtR t x q 0 = t := by
  refine List.ext_getElem (by simp [gtR]) (fun i h1 h2 => ?_)
  simp [gtR, nrow, List.getD, h2]
theorem gtB_lt {t : List (List Nat)} {x : Nat} {q : List Nat} {r : Nat} (h : r < t.length) : gtB t x q r = gtR t x q r := by
  unfold gtB gtR
  rw [show max t.length (r + 1) = max t.length r by omega]
theorem gtB_ge {t : List (List Nat)} {x : Nat} {q : List Nat} {r : Nat} (h : t.length ≤ r) : gtB t x q r = gtR t x q r ++ [[]] := by
  unfold gtB gtR
  rw [show max t.length (r + 1) = r + 1 by omega, show max t.length r = r by omega, List.range_succ, List.map_append]
  congr 1
  simp [nrow, List.getD, List.getElem?_eq_none h]
theorem gtB_row {t : List (List Nat)} {x : Nat} {q : List Nat} {r : Nat} : (gtB t x q r).getD r [] = nrow t r := by
  unfold gtB
  have : r < max t.length (r + 1) := by omega
  simp [List.getD, this]
theorem gtB_set {t : List (List Nat)} {x : Nat} {q : List Nat} {r : Nat} : (gtB t x q r).set r (gRow t x q r) = gtR t x q (r + 1) := by
  refine List.ext_getElem (by simp [gtB, gtR]) (fun i h1 h2 => ?_)
  rw [List.getElem_set]
  simp only [gtB, gtR, List.getElem_map, List.getElem_range]
  by_cases e : r = i
  · subst e; simp
  · rw [if_neg e]
    by_cases e2 : i < r
    · rw [if_pos e2, if_pos (by omega)]
    · rw [if_neg e2, if_neg (by omega)]
theorem gtR_end {t : List (List Nat)} {x : Nat} {q : List Nat} (h : t.length ≤ q.length) : gtR t x q q.length = growT t x q := by
  unfold gtR growT
  rw [show max t.length q.length = q.length by omega]
  exact List.map_congr_left fun r hr => by rw [if_pos (List.mem_range.1 hr)]; rfl
theorem strip_rows {a b c : Nat → Nat} {m x k : Nat} {t : List (List Nat)} {q : List Nat} (h : PF a b c m x t) (hs : Strip (len2 t) c m k q) : t.length ≤ q.length := by
  rcases Nat.lt_or_ge q.length t.length with e | e
  · have h1 := h.ne _ e
    have h2 := hs.lo q.length
    rw [getD_out (Nat.le_refl _)] at h2
    omega
  · exact e

/-- Does it come into the next list? -/
def okT (x : Nat) (t : List (List Nat)) : Bool := decide (x = 1) || lat x 0 (rwd t)
/-- What comes of table t, with the first k strips. -/
def nxK (x : Nat) (t : List (List Nat)) (l : List (List Nat)) (k : Nat) : List (List (List Nat)) := ((l.take k).map (growT t x)).filter (okT x)
theorem nxK_zero (x : Nat) (t : List (List Nat)) (l : List (List Nat)) : nxK x t l 0 = [] := by simp [nxK]
theorem nxK_succ {x : Nat} {t : List (List Nat)} {l : List (List Nat)} {k : Nat} (h : k < l.length) : nxK x t l (k + 1) = nxK x t l k ++ (if okT x (growT t x (l.getD k [])) then [growT t x (l.getD k [])] else []) := by
  unfold nxK
  rw [List.take_succ_eq_append_getElem h, List.map_append, List.filter_append, show l.getD k [] = l[k] by simp [List.getD, h]]
  congr 1
  rw [List.map_cons, List.map_nil, List.filter_cons, List.filter_nil]
/-- What comes of the first i tables. -/
def nxI (c : Nat → Nat) (m b x : Nat) (now : List (List (List Nat))) (i : Nat) : List (List (List Nat)) := (now.take i).flatMap fun t => nxK x t (gwn (len2 t) c m b) (gwn (len2 t) c m b).length
theorem nxI_zero (c : Nat → Nat) (m b x : Nat) (now : List (List (List Nat))) : nxI c m b x now 0 = [] := by simp [nxI]
theorem nxI_succ {c : Nat → Nat} {m b x : Nat} {now : List (List (List Nat))} {i : Nat} (h : i < now.length) : nxI c m b x now (i + 1) = nxI c m b x now i ++ nxK x (now.getD i []) (gwn (len2 (now.getD i [])) c m b) (gwn (len2 (now.getD i [])) c m b).length := by
  unfold nxI
  rw [List.take_succ_eq_append_getElem h, List.flatMap_append, show now.getD i [] = now[i] by simp [List.getD, h]]
  simp
theorem refL_step (al : List Nat) (b c : Nat → Nat) (m x : Nat) : refL al b c m (x + 1) = nxI c m (b (x + 1)) (x + 1) (refL al b c m x) (refL al b c m x).length := by
  rw [refL]
  unfold nxI nxK
  rw [List.take_length]
  congr 1
  funext t
  rw [List.take_length]
  rfl
theorem nxK_le (x : Nat) (t : List (List Nat)) (l : List (List Nat)) (k : Nat) : (nxK x t l k).length ≤ k := by
  unfold nxK
  refine Nat.le_trans (List.length_filter_le _ _) ?_
  rw [List.length_map, List.length_take]; omega
theorem nxI_mono (c : Nat → Nat) (m b x : Nat) (now : List (List (List Nat))) {i j : Nat} (h : i ≤ j) : (nxI c m b x now i).length ≤ (nxI c m b x now j).length := by
  obtain ⟨d, rfl⟩ : ∃ d, j = i + d := ⟨j - i, by omega⟩
  unfold nxI
  rw [List.take_add, List.flatMap_append, List.length_append]
  omega
theorem nxK_mono (x : Nat) (t : List (List Nat)) (l : List (List Nat)) {i j : Nat} (h : i ≤ j) : (nxK x t l i).length ≤ (nxK x t l j).length := by
  obtain ⟨d, rfl⟩ : ∃ d, j = i + d := ⟨j - i, by omega⟩
  unfold nxK
  rw [List.take_add, List.map_append, List.filter_append, List.length_append]
  omega

end Go.Proofs.Ytncokoimbpkapaa
