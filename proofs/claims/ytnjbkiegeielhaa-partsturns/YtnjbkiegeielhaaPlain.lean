/-
  Plain facts on lists of numbers: sums, partitions, runs, what Franklin makes of a partition.
-/
import Derived.Test.YtnjbkiegeielhaaOwn
import Derived.WalkSmall
namespace Go.Proofs.Ytnjbkiegeielhaa
open Go.RowKit

theorem room_eq (zs : List Int) : ∀ r : Int, (∀ z ∈ zs, 0 ≤ z) → 0 ≤ r → room r zs = if sum zs ≤ r then r - sum zs else -1 := by
  induction zs with
  | nil => intro r _ h; simp [room, sum, h]
  | cons n l ih =>
    intro r hz h
    have h0 := hz n (by simp)
    have hl : 0 ≤ sum l := by
      clear ih h0 h
      have hz' : ∀ z ∈ l, 0 ≤ z := fun z hzz => hz z (by simp [hzz])
      clear hz
      induction l with
      | nil => simp [sum]
      | cons m l ih2 => have := hz' m (by simp); have := ih2 (fun z h => hz' z (by simp [h])); simp [sum]; omega
    rw [room, sum]
    by_cases hrn : r < n
    · rw [if_pos hrn, if_neg (by omega)]
    · rw [if_neg hrn, ih (r - n) (fun z hzz => hz z (by simp [hzz])) (by omega)]
      by_cases hs : sum l ≤ r - n
      · rw [if_pos hs, if_pos (by omega)]; omega
      · rw [if_neg hs, if_neg (by omega)]

theorem Goes.mem {m d : Int} {zs : List Int} (h : Goes m d zs) {z : Int} (hz : z ∈ zs) : m ≤ z := by
  obtain ⟨j, hj, rfl⟩ := List.getElem_of_mem hz
  have := (h j hj).1
  simpa [List.getD, List.getElem?_eq_getElem hj] using this

theorem sum_ge {zs : List Int} {m : Int} (h : ∀ z ∈ zs, m ≤ z) : m * zs.length ≤ sum zs := by
  induction zs with
  | nil => simp [sum]
  | cons n l ih =>
    have := ih (fun z hz => h z (by simp [hz]))
    have := h n (by simp)
    simp only [sum, List.length_cons]
    have e : m * ((l.length + 1 : Nat) : Int) = m * l.length + m := by rw [Int.natCast_add, Int.mul_add]; simp
    rw [e]; omega

theorem mem_le_sum {zs : List Int} (h : ∀ z ∈ zs, 0 ≤ z) : ∀ z ∈ zs, z ≤ sum zs := by
  induction zs with
  | nil => intro z hz; cases hz
  | cons n l ih =>
    have h1 : 0 ≤ sum l := by have := sum_ge (zs := l) (m := 0) (fun z hz => h z (by simp [hz])); omega
    intro z hz
    rcases List.mem_cons.1 hz with rfl | hz
    · simp [sum]; omega
    · have := ih (fun z hz => h z (by simp [hz])) z hz; have := h n (by simp); simp [sum]; omega

/-- A partition: the numbers from 1 on, none above the one ahead, together at most 40. -/
def IsPart (zs : List Int) : Prop := Goes 1 0 zs ∧ sum zs ≤ 40

theorem chk_ok {zs : List Int} : chk zs = 0 ↔ IsPart zs := by
  unfold chk IsPart
  by_cases hg : Goes 1 0 zs
  · rw [if_pos (goesB_pos hg)]
    have h0 : ∀ z ∈ zs, 0 ≤ z := fun z hz => by have := hg.mem hz; omega
    rw [room_eq zs 40 h0 (by omega)]
    by_cases hs : sum zs ≤ 40
    · rw [if_pos hs, if_neg (by omega)]; simp [hg, hs]
    · rw [if_neg hs]; simp [hs]
  · rw [goesB_neg hg]; simp [hg]

theorem IsPart.range {zs : List Int} (h : IsPart zs) : ∀ z ∈ zs, 1 ≤ z ∧ z ≤ 40 := fun z hz =>
  ⟨h.1.mem hz, by have := mem_le_sum (zs := zs) (fun z hz => by have := h.1.mem hz; omega) z hz; have := h.2; omega⟩
theorem IsPart.len {zs : List Int} (h : IsPart zs) : zs.length ≤ 40 := by
  have := sum_ge (zs := zs) (m := 1) (fun z hz => h.1.mem hz); have := h.2; omega

theorem getD_mem {zs : List Int} {j : Nat} (hj : j < zs.length) : zs.getD j 0 ∈ zs := by simp [List.getD, List.getElem?_eq_getElem hj]

/-- d more at each of the first k places. -/
def bump (k : Nat) (d : Int) (zs : List Int) : List Int := (zs.take k).map (· + d) ++ zs.drop k
theorem bump_zero (d : Int) (zs : List Int) : bump 0 d zs = zs := by simp [bump]
theorem bump_length (k : Nat) (d : Int) (zs : List Int) : (bump k d zs).length = zs.length := by simp [bump]; omega
theorem bump_getD (k : Nat) (d : Int) (zs : List Int) (j : Nat) (hj : j < zs.length) : (bump k d zs).getD j 0 = zs.getD j 0 + if j < k then d else 0 := by
  unfold bump
  by_cases h : j < k
  · rw [if_pos h]
    simp only [List.getD]
    rw [List.getElem?_append_left (by simp; omega)]
    simp [h, List.getElem?_eq_getElem hj]
  · rw [if_neg h]
    simp only [List.getD]
    rw [List.getElem?_append_right (by simp; omega)]
    simp only [List.length_map, List.length_take, List.getElem?_drop]
    rw [show k + (j - min k zs.length) = j by omega]; simp
theorem ext_getD {a b : List Int} (hl : a.length = b.length) (h : ∀ j, j < a.length → a.getD j 0 = b.getD j 0) : a = b := by
  refine List.ext_getElem hl (fun j h1 h2 => ?_)
  simpa [List.getD, List.getElem?_eq_getElem h1, List.getElem?_eq_getElem h2] using h j h1
theorem set_getD (zs : List Int) (k : Nat) (x : Int) (j : Nat) (hj : j < zs.length) : (zs.set k x).getD j 0 = if j = k then x else zs.getD j 0 := by
  simp only [List.getD, List.getElem?_set]
  by_cases h : k = j
  · subst h; simp [hj]
  · rw [if_neg h, if_neg (fun e => h e.symm)]
theorem bump_succ (k : Nat) (d : Int) (zs : List Int) (hk : k < zs.length) : bump (k + 1) d zs = (bump k d zs).set k (zs.getD k 0 + d) := by
  refine ext_getD (by simp [bump_length]) (fun j hj => ?_)
  rw [bump_length] at hj
  rw [bump_getD _ _ _ _ hj, set_getD _ _ _ _ (by rw [bump_length]; exact hj), bump_getD _ _ _ _ hj]
  by_cases h1 : j = k
  · subst h1; simp
  · by_cases h2 : j < k
    · rw [if_pos (by omega), if_neg h1, if_pos h2]
    · rw [if_neg (by omega), if_neg h1, if_neg h2]

/-- What Franklin makes of a partition without two parts that are the same. -/
def lastOf (zs : List Int) : Int := zs.getD (zs.length - 1) 0
def frankDown (zs : List Int) : Prop := lastOf zs ≤ runN zs ∧ ¬ (runN zs = zs.length ∧ lastOf zs = zs.length)
def frankUp (zs : List Int) : Prop := (runN zs : Int) < lastOf zs ∧ ¬ (runN zs = zs.length ∧ lastOf zs = zs.length + 1)
def downOf (zs : List Int) : List Int := bump (lastOf zs).toNat 1 (zs.take (zs.length - 1))
def upOf (zs : List Int) : List Int := bump (runN zs) (-1) zs ++ [(runN zs : Int)]

theorem runL_le (z : Int) (zs : List Int) : runL z zs ≤ zs.length := by
  induction zs generalizing z with
  | nil => simp [runL]
  | cons x l ih => rw [runL]; split; have := ih (z - 1); simp; omega; simp
theorem runN_le (zs : List Int) : runN zs ≤ zs.length := runL_le _ _
theorem runL_pos (x : Int) (l : List Int) : 1 ≤ runL x (x :: l) := by rw [runL, if_pos rfl]; omega
theorem runN_pos {zs : List Int} (h : 0 < zs.length) : 1 ≤ runN zs := by
  cases zs with
  | nil => simp at h
  | cons x l => unfold runN; simp only [List.getD_cons_zero]; exact runL_pos x l
theorem runL_at (z : Int) (zs : List Int) : ∀ i, i < runL z zs → zs.getD i 0 = z - i := by
  induction zs generalizing z with
  | nil => intro i hi; simp [runL] at hi
  | cons x l ih =>
    intro i hi
    rw [runL] at hi
    split at hi
    · cases i with
      | zero => simp; omega
      | succ i => have := ih (z - 1) i (by omega); simp only [List.getD_cons_succ]; rw [this]; omega
    · omega
theorem runL_end (z : Int) (zs : List Int) : runL z zs < zs.length → zs.getD (runL z zs) 0 ≠ z - runL z zs := by
  induction zs generalizing z with
  | nil => intro h; simp [runL] at h
  | cons x l ih =>
    intro hi
    rw [runL] at *
    split
    · rename_i hx
      rw [if_pos hx] at hi
      have := ih (z - 1) (by simp at hi; exact hi)
      simp only [List.getD_cons_succ]; intro e; apply this; rw [e]; omega
    · rename_i hx; simpa using hx

theorem Owns.at {w : World} {base g cap n : Nat} {zs : List Int} (h : Owns w base (.slice (some ⟨g, 0, none⟩) n cap) zs) (hn : n = zs.length) :
    base ≤ g ∧ (∀ j, w.frozen? ⟨g, j, none⟩ = false) ∧ ∀ j, j < zs.length → w.cell? ⟨g, j, none⟩ = some (.int .i64 (zs.getD j 0)) := by
  subst hn
  refine ⟨(h.block rfl).1, fun j => World.ownsRow.frozenAt h j, fun j hj => ?_⟩
  rw [World.ownsRow.cellAt h j (by omega)]
  simp [List.getD, List.getElem?_eq_getElem hj]

/-- One round of 'q[i] += d'. -/
theorem bump_step {w : World} {base g cap n k : Nat} {d x : Int} {zs : List Int} (h : Owns w base (.slice (some ⟨g, 0, none⟩) n cap) (bump k d zs)) (hn : n = zs.length) (hk : k < zs.length) (hx : x = zs.getD k 0) :
    Owns (w.setCell ⟨g, k, none⟩ (.int .i64 (x + d))) base (.slice (some ⟨g, 0, none⟩) n cap) (bump (k + 1) d zs) := by
  rw [bump_succ k d zs hk, hx]
  exact h.store (by rw [bump_length]; exact hn) k _

theorem copied_at (a : Option Addr) (n cap : Nat) (zs : List Int) (w : World) (hs : Shows w a zs) (hn : n = zs.length) :
    Calls Try.prog 38 #[.slice a n cap] w fun e w' => ∃ v, e = .returned v ∧ Owns w' w.heap.size v zs ∧ Below w.heap.size w w' := by
  subst hn; exact copied_any a cap zs w hs

theorem Shows.take {w : World} {a : Option Addr} {zs : List Int} (h : Shows w a zs) (n : Nat) : Shows w a (zs.take n) := by
  refine ⟨by have := h.len; simp; omega, fun z hz => h.wf z (List.mem_of_mem_take hz), fun hne => ?_⟩
  obtain ⟨b, off, ha, hb, hc⟩ := h.cells (fun e => hne (by rw [e]; simp))
  refine ⟨b, off, ha, hb, fun j hj => ?_⟩
  rw [List.length_take] at hj
  rw [hc j (by omega)]
  simp [List.getD, show j < n by omega]

#print axioms chk_ok
end Go.Proofs.Ytnjbkiegeielhaa
