/-
  ferref.FromText: what it has read so far, in plain words.
-/
import Derived.Test.YtgcagoalnhgljacDoorXTx
import Derived.Test.YtgcagoalnhgljacDoorVChk
namespace Go.Proofs.YtgcagoalnhgljacDoor
open Go.RowKit

def feed : Nat → List (List Int) → List Int → List UInt8 → List (List Int)
  | _, pre, cur, [] => pre ++ [cur]
  | d, pre, cur, c :: l => if nextB c d = true then (if d = 0 then feed 1 pre (cur ++ [(c.toNat : Int) - 48]) l else feed (d + 1) pre (cur.dropLast ++ [10 * cur.getLastD 0 + (c.toNat : Int) - 48]) l) else if c.toNat = 47 then feed 0 (pre ++ [cur]) [] l else feed 0 pre cur l

theorem next_dg0 {a : Nat} (h1 : 1 ≤ a) (h : a < 10) : nextB (dg a) 0 = true := by
  unfold nextB; rw [if_pos rfl, dg_toNat h]; simp; omega
theorem next_dg1 {a : Nat} (h : a < 10) : nextB (dg a) 1 = true := by
  unfold nextB; rw [if_neg (by omega), if_pos rfl, dg_toNat h]; simp; omega
theorem next_no {c : UInt8} {d : Nat} (h : c.toNat < 48) : nextB c d = false := by
  unfold nextB
  split
  · simp; omega
  · split
    · simp; omega
    · rfl

theorem feed_letter {z : Int} (hz : Lt z) (pre : List (List Int)) (cur : List Int) (t : List UInt8) : ∃ d, 0 < d ∧ feed 0 pre cur (ltxt z ++ t) = feed d pre (cur ++ [z]) t := by
  rcases ltxt_cases hz with ⟨a, h1, h2, e, ht⟩ | ⟨a, b, h1, h2, h3, e, ht⟩
  · refine ⟨1, by omega, ?_⟩
    rw [ht, List.singleton_append, feed, if_pos (next_dg0 h1 h2), if_pos rfl, dg_toNat h2, e]
    congr 3
    omega
  · refine ⟨2, by omega, ?_⟩
    rw [ht]
    show feed 0 pre cur (dg a :: dg b :: t) = _
    rw [feed, if_pos (next_dg0 h1 h2), if_pos rfl, feed, if_pos (next_dg1 h3), if_neg (by omega), dg_toNat h2, dg_toNat h3, e]
    have e1 : (cur ++ [((48 + a : Nat) : Int) - 48]).dropLast = cur := by simp
    have e2 : (cur ++ [((48 + a : Nat) : Int) - 48]).getLastD 0 = (a : Int) := by simp; omega
    rw [e1, e2]
    congr 3
    omega

theorem feed_tail : ∀ (rows : List (List Int)), RowsOk rows → ∀ (r : List Int), (∀ z ∈ r, Lt z) → ∀ d pre cur, feed d pre cur (Tl r rows) = pre ++ (cur ++ r) :: rows := by
  intro rows
  induction rows with
  | nil =>
    intro _ r
    induction r with
    | nil => intro _ d pre cur; rw [Tl_nil, feed, List.append_nil]
    | cons y r ih =>
      intro hr d pre cur
      obtain ⟨d', _, e⟩ := feed_letter (hr y (by simp)) pre cur (Tl r [])
      rw [Tl_cons, feed, if_neg (by rw [next_no (by decide)]; simp), if_neg (by decide), e, ih (fun z hz => hr z (by simp [hz]))]
      simp
  | cons q rows ihr =>
    intro hok r
    induction r with
    | nil =>
      intro _ d pre cur
      have hq := hok q (by simp)
      cases q with
      | nil => exact absurd rfl hq.1
      | cons z q =>
        obtain ⟨d', _, e⟩ := feed_letter (hq.2 z (by simp)) (pre ++ [cur]) [] (Tl q rows)
        rw [Tl_row, feed, if_neg (by rw [next_no (by decide)]; simp), if_pos (by decide), e, ihr (fun x hx => hok x (by simp [hx])) q (fun y hy => hq.2 y (by simp [hy]))]
        simp
    | cons y r ih =>
      intro hr d pre cur
      obtain ⟨d', _, e⟩ := feed_letter (hr y (by simp)) pre cur (Tl r (q :: rows))
      rw [Tl_cons, feed, if_neg (by rw [next_no (by decide)]; simp), if_neg (by decide), e, ih (fun z hz => hr z (by simp [hz]))]
      simp

theorem feed_text {ls : List (List Int)} (h0 : ls ≠ []) (h : RowsOk ls) : feed 0 [] [] (ttxt ls) = ls := by
  cases ls with
  | nil => exact absurd rfl h0
  | cons q rows =>
    have hq := h q (by simp)
    cases q with
    | nil => exact absurd rfl hq.1
    | cons z r =>
      obtain ⟨d, _, e⟩ := feed_letter (hq.2 z (by simp)) [] [] (Tl r rows)
      rw [ttxt_cons, e, feed_tail rows (fun x hx => h x (by simp [hx])) r (fun y hy => hq.2 y (by simp [hy]))]
      simp

/-- The state of the reader ahead of byte k. -/
structure Fed (L : List UInt8) (k d : Nat) (pre : List (List Int)) (cur : List Int) : Prop where
  wrong : wrongAt 0 0 L = wrongAt d k (L.drop k)
  read : feed 0 [] [] L = feed d pre cur (L.drop k)
  one : d = 1 → ∃ cs, ∃ y : Nat, cur = cs ++ [(y : Int)] ∧ 1 ≤ y ∧ y ≤ 9
  rows : pre.length ≤ k
  boxes : (pre ++ [cur]).flatten.length ≤ k
  letters : ∀ r ∈ pre ++ [cur], ∀ z ∈ r, 0 ≤ z ∧ z ≤ 99

theorem Fed.start (L : List UInt8) : Fed L 0 0 [] [] := ⟨by simp, by simp, fun h => (by cases h), by simp, by simp, fun r hr z hz => by simp at hr; subst hr; simp at hz⟩
theorem Fed.first {L : List UInt8} {k : Nat} {pre : List (List Int)} {cur : List Int} {c : UInt8} (h : Fed L k 0 pre cur) (hd : L.drop k = c :: L.drop (k + 1)) (a : Nat) (h1 : 1 ≤ a) (h9 : a ≤ 9) (hc : c.toNat = a + 48) : Fed L (k + 1) 1 pre (cur ++ [(a : Int)]) := by
  have hn : nextB c 0 = true := by unfold nextB; rw [if_pos rfl]; simp; omega
  refine ⟨?_, ?_, fun _ => ⟨cur, a, rfl, h1, h9⟩, by have := h.rows; omega, ?_, fun r hr z hz => ?_⟩
  · rw [h.wrong, hd, wrongAt, if_pos hn]
  · rw [h.read, hd, feed, if_pos hn, if_pos rfl, hc]
    congr 3
    omega
  · have := h.boxes; simp at this ⊢; omega
  · rw [List.mem_append, List.mem_singleton] at hr
    rcases hr with hr | rfl
    · exact h.letters r (by simp [hr]) z hz
    · rw [List.mem_append, List.mem_singleton] at hz
      rcases hz with hz | rfl
      · exact h.letters cur (by simp) z hz
      · omega
theorem Fed.second {L : List UInt8} {k : Nat} {pre : List (List Int)} {cs : List Int} {y : Nat} {c : UInt8} (h : Fed L k 1 pre (cs ++ [(y : Int)])) (hy : 1 ≤ y ∧ y ≤ 9) (hd : L.drop k = c :: L.drop (k + 1)) (x : Nat) (h1 : 48 ≤ x) (h9 : x ≤ 57) (hc : c.toNat = x) : Fed L (k + 1) 2 pre (cs ++ [10 * (y : Int) + (x : Int) - 48]) := by
  have hn : nextB c 1 = true := by unfold nextB; rw [if_neg (by omega), if_pos rfl]; simp; omega
  refine ⟨?_, ?_, fun e => (by cases e), by have := h.rows; omega, ?_, fun r hr z hz => ?_⟩
  · rw [h.wrong, hd, wrongAt, if_pos hn]
  · rw [h.read, hd, feed, if_pos hn, if_neg (by omega), hc]
    simp
  · have := h.boxes; simp at this ⊢; omega
  · rw [List.mem_append, List.mem_singleton] at hr
    rcases hr with hr | rfl
    · exact h.letters r (by simp [hr]) z hz
    · rw [List.mem_append, List.mem_singleton] at hz
      rcases hz with hz | rfl
      · exact h.letters (cs ++ [(y : Int)]) (by simp) z (by simp [hz])
      · omega
theorem Fed.blank {L : List UInt8} {k d : Nat} {pre : List (List Int)} {cur : List Int} {c : UInt8} (h : Fed L k d pre cur) (h0 : 0 < d) (hd : L.drop k = c :: L.drop (k + 1)) (hc : c.toNat = 32) : Fed L (k + 1) 0 pre cur := by
  have hn : ¬ nextB c d = true := by rw [next_no (by omega)]; simp
  refine ⟨?_, ?_, fun e => (by cases e), by have := h.rows; omega, by have := h.boxes; omega, h.letters⟩
  · rw [h.wrong, hd, wrongAt, if_neg hn, if_pos ⟨h0, by unfold sepB; simp [hc]⟩]
  · rw [h.read, hd, feed, if_neg hn, if_neg (by omega)]
theorem Fed.slash {L : List UInt8} {k d : Nat} {pre : List (List Int)} {cur : List Int} {c : UInt8} (h : Fed L k d pre cur) (h0 : 0 < d) (hd : L.drop k = c :: L.drop (k + 1)) (hc : c.toNat = 47) : Fed L (k + 1) 0 (pre ++ [cur]) [] := by
  have hn : ¬ nextB c d = true := by rw [next_no (by omega)]; simp
  refine ⟨?_, ?_, fun e => (by cases e), by have := h.rows; simp; omega, by have := h.boxes; simp at this ⊢; omega, fun r hr z hz => ?_⟩
  · rw [h.wrong, hd, wrongAt, if_neg hn, if_pos ⟨h0, by unfold sepB; simp [hc]⟩]
  · rw [h.read, hd, feed, if_neg hn, if_pos hc]
  · rw [List.mem_append, List.mem_singleton] at hr
    rcases hr with hr | rfl
    · exact h.letters r hr z hz
    · simp at hz
theorem Fed.bad {L : List UInt8} {k d : Nat} {pre : List (List Int)} {cur : List Int} {c : UInt8} (h : Fed L k d pre cur) (hd : L.drop k = c :: L.drop (k + 1)) (hn : nextB c d = false) (hs : ¬ (0 < d ∧ sepB c = true)) : wrongAt 0 0 L = (k : Int) := by
  rw [h.wrong, hd, wrongAt, if_neg (by rw [hn]; simp), if_neg hs]
theorem Fed.short {L : List UInt8} {k : Nat} {pre : List (List Int)} {cur : List Int} (h : Fed L k 0 pre cur) (hk : k = L.length) (h0 : 0 < k) : wrongAt 0 0 L = (k : Int) := by
  rw [h.wrong, List.drop_of_length_le (by omega), wrongAt, if_pos ⟨rfl, h0⟩]
theorem Fed.done {L : List UInt8} {k d : Nat} {pre : List (List Int)} {cur : List Int} (h : Fed L k d pre cur) (hk : k = L.length) (h0 : 0 < d) : wrongAt 0 0 L = -1 ∧ feed 0 [] [] L = pre ++ [cur] := by
  rw [h.wrong, h.read, List.drop_of_length_le (by omega), wrongAt, if_neg (by omega), feed]
  exact ⟨rfl, rfl⟩

theorem readR_wrong {L : List UInt8} {c p : Int} {q : List (List Int)} {k : Nat} (h : ReadR L c p q) (hw : wrongAt 0 0 L = (k : Int)) : c = 4 ∧ p = (k : Int) ∧ q = [] := by
  rcases h with ⟨_, h1, h2, h3⟩ | ⟨h, _⟩ | ⟨ls, h0, h1, h2, _⟩
  · exact ⟨h1, by rw [h2, hw], h3⟩
  · omega
  · have : wrongAt 0 0 L = -1 := by rw [h2]; exact (wrongAt_ok _ 0 0 (Or.inr (ttxt_pos h0 h1))).2 (ok_of_text h0 h1)
    omega
theorem readR_empty {L : List UInt8} {c p : Int} {q : List (List Int)} (h : ReadR L c p q) (hw : L = []) : c = 0 ∧ p = 0 ∧ q = [] := by
  subst hw
  rcases h with ⟨h, _⟩ | ⟨_, _, h⟩ | ⟨ls, h0, h1, h2, _⟩
  · exact absurd rfl h
  · exact h
  · have := ttxt_pos h0 h1; rw [← h2] at this; simp at this
theorem readR_rows {L : List UInt8} {c p : Int} {q ls : List (List Int)} (h : ReadR L c p q) (hw : wrongAt 0 0 L = -1) (hne : L ≠ []) (hf : feed 0 [] [] L = ls) : tchk ls = c ∧ ((c = 0 ∧ p = 0 ∧ q = ls) ∨ (c ≠ 0 ∧ p = -1 ∧ q = [])) := by
  rcases h with ⟨h, _⟩ | ⟨_, h, _⟩ | ⟨ls', h0, h1, h2, h3⟩
  · exact absurd hw h
  · exact absurd h hne
  · have e : ls' = ls := by rw [← hf, h2, feed_text h0 h1]
    subst e
    rcases h3 with ⟨a, rfl, rfl, rfl⟩ | ⟨a, rfl, rfl, rfl⟩
    · exact ⟨a, Or.inl ⟨rfl, rfl, rfl⟩⟩
    · exact ⟨rfl, Or.inr ⟨a, rfl, rfl⟩⟩

theorem set_last {α : Type} (pre : List α) (a b : α) : (pre ++ [a]).set pre.length b = pre ++ [b] := by
  induction pre with
  | nil => rfl
  | cons x pre ih => simp [ih]
theorem getD_last (pre : List (List Int)) (a : List Int) : (pre ++ [a]).getD pre.length [] = a := by simp [List.getD]
theorem fault_cells {w wr : World} (hb : Below (w.heap.size + 1) (w.alloc (.cells #[.int .i64 0, .int .i64 0] 27)) wr) :
    wr.cell? ⟨w.heap.size, 0, none⟩ = some (.int .i64 0) ∧ wr.cell? ⟨w.heap.size, 1, none⟩ = some (.int .i64 0) ∧ wr.frozen? ⟨w.heap.size, 0, none⟩ = false ∧ wr.frozen? ⟨w.heap.size, 1, none⟩ = false ∧ Below w.heap.size w wr := by
  have hrow : wr.heap[w.heap.size]? = some (.cells #[.int .i64 0, .int .i64 0] 27 (0, 0)) := by
    rw [hb.block w.heap.size (by omega)]
    show (w.heap.push (.cells #[.int .i64 0, .int .i64 0] 27 (0, 0)))[w.heap.size]? = _
    simp
  refine ⟨?_, ?_, frozen_of_row wr _ 0 _ _ hrow, frozen_of_row wr _ 1 _ _ hrow, ((Below.refl _ _).alloc (Nat.le_refl _) _).trans (hb.mono (by omega))⟩
  · rw [hb.cell (p := ⟨w.heap.size, 0, none⟩) (by simp), World.cell?_alloc_at _ _ _ _ rfl]; rfl
  · rw [hb.cell (p := ⟨w.heap.size, 1, none⟩) (by simp), World.cell?_alloc_at _ _ _ _ rfl]; rfl
/-- '[][]int{nil}' in a new block. -/
theorem tbl_one {w : World} {lo : Nat} (hl : lo ≤ w.heap.size) : Tbl (w.alloc (.cells #[.slice none 0 0] 38)) lo (.slice (some ⟨w.heap.size, 0, none⟩) 1 1) [[]] := by
  refine ⟨[.slice none 0 0], ⟨rfl, Or.inr ⟨w.heap.size, 1, #[.slice none 0 0], rfl, hl, ?_, Nat.le_refl _, by unfold maxLen; omega, rfl, rfl⟩⟩, rfl, fun i hi => ?_, fun i j hi hj hij => ?_, fun i hi => ?_⟩
  · show (w.heap.push (.cells #[.slice none 0 0] 38 (0, 0)))[w.heap.size]? = _
    simp
  · obtain rfl : i = 0 := by simpa using hi
    exact World.ownsRow_nil _ _ _ _
  · simp at hi hj; omega
  · obtain rfl : i = 0 := by simpa using hi
    exact (apart_nil _).symm
theorem Fed.small {L : List UInt8} {k d : Nat} {pre : List (List Int)} {cur : List Int} (h : Fed L k d pre cur) (hk : k ≤ 1048576) : ∀ l ∈ pre ++ [cur], l.length ≤ 17592186044416 ∧ ∀ z ∈ l, -9223372036854775808 ≤ z ∧ z ≤ 9223372036854775807 := fun l hl => by
  refine ⟨?_, fun z hz => by have := h.letters l hl z hz; omega⟩
  obtain ⟨a, ha, rfl⟩ := mem_row hl
  have := row_le_flat ha
  have := h.boxes
  omega

end Go.Proofs.YtgcagoalnhgljacDoor
