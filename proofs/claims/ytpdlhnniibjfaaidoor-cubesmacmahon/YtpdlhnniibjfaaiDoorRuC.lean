/-
  Right fillings letter by letter: tables, words and what stays of them: plain.
-/
import Derived.Test.YtpdlhnniibjfaaiDoorRuB
namespace Go.Proofs.YtpdlhnniibjfaaiDoor

def nrow (t : List (List Nat)) (r : Nat) : List Nat := t.getD r []
def at2 (t : List (List Nat)) (r j : Nat) : Nat := (nrow t r).getD j 0
def len2 (t : List (List Nat)) (r : Nat) : Nat := (nrow t r).length
/-- The letters, nrow by nrow, each from right to left. -/
def rwd (t : List (List Nat)) : List Nat := t.flatMap List.reverse
/-- Never more x than x - 1, k more of x - 1 so far. -/
def lat (x : Nat) : Nat → List Nat → Bool
  | _, [] => true
  | k, y :: w => if y + 1 = x then lat x (k + 1) w else if y = x then (decide (k ≠ 0) && lat x (k - 1) w) else lat x k w

theorem lat_filter (x : Nat) (p : Nat → Bool) (hp : p x = true) (hp2 : ∀ y, y + 1 = x → p y = true) : ∀ (w : List Nat) (k : Nat), lat x k (w.filter p) = lat x k w := by
  intro w
  induction w with
  | nil => intro k; rfl
  | cons y w ih =>
    intro k
    by_cases h1 : y + 1 = x
    · rw [List.filter_cons_of_pos (hp2 y h1)]
      simp only [lat, if_pos h1]; exact ih _
    · by_cases h2 : y = x
      · subst h2
        rw [List.filter_cons_of_pos hp]
        simp only [lat, if_neg h1, if_true]; rw [ih]
      · by_cases h3 : p y = true
        · rw [List.filter_cons_of_pos h3]
          simp only [lat, if_neg h1, if_neg h2]; exact ih _
        · rw [List.filter_cons_of_neg h3]
          simp only [lat, if_neg h1, if_neg h2]; exact ih _
theorem count_filter_pos {p : Nat → Bool} {y : Nat} (h : p y = true) (w : List Nat) : (w.filter p).count y = w.count y := List.count_filter h

theorem tab_ext : ∀ {t t' : List (List Nat)}, (∀ r, r < t.length → 0 < len2 t r) → (∀ r, r < t'.length → 0 < len2 t' r) → (∀ r, nrow t r = nrow t' r) → t = t' := by
  intro t t' h1 h2 h
  have hl : t.length = t'.length := by
    rcases Nat.lt_trichotomy t.length t'.length with e | e | e
    · have := h2 t.length e
      unfold len2 at this
      rw [← h] at this
      unfold nrow at this
      rw [List.getD, List.getElem?_eq_none (Nat.le_refl _)] at this
      simp at this
    · exact e
    · have := h1 t'.length e
      unfold len2 at this
      rw [h] at this
      unfold nrow at this
      rw [List.getD, List.getElem?_eq_none (Nat.le_refl _)] at this
      simp at this
  refine List.ext_getElem hl fun r h3 h4 => ?_
  have := h r
  unfold nrow at this
  simpa [List.getD, h3, h4] using this

theorem rwd_rows (t : List (List Nat)) {K : Nat} (h : t.length ≤ K) : rwd t = (List.range K).flatMap fun r => (nrow t r).reverse := by
  induction t generalizing K with
  | nil =>
    unfold rwd nrow
    simp
  | cons a t ih =>
    obtain ⟨K, rfl⟩ : ∃ K', K = K' + 1 := ⟨K - 1, by simp at h; omega⟩
    rw [List.range_succ_eq_map, List.flatMap_cons, List.flatMap_map]
    have := ih (K := K) (by simpa using h)
    unfold rwd nrow at *
    rw [List.flatMap_cons, this]
    simp
theorem row_map {f : Nat → List Nat} {K r : Nat} : nrow ((List.range K).map f) r = if r < K then f r else [] := by
  unfold nrow
  by_cases h : r < K
  · simp [List.getD, h]
  · rw [if_neg h, List.getD, List.getElem?_eq_none (by simp; omega)]; rfl

/-- The rows of t, made as long as q says, by x. -/
def growT (t : List (List Nat)) (x : Nat) (q : List Nat) : List (List Nat) := (List.range q.length).map fun r => nrow t r ++ List.replicate (q.getD r 0 - len2 t r) x
theorem grow_row {t : List (List Nat)} {x : Nat} {q : List Nat} (h : ∀ r, len2 t r ≤ q.getD r 0) (r : Nat) : nrow (growT t x q) r = nrow t r ++ List.replicate (q.getD r 0 - len2 t r) x := by
  unfold growT
  rw [row_map]
  by_cases e : r < q.length
  · rw [if_pos e]
  · rw [if_neg e]
    have h0 : q.getD r 0 = 0 := by rw [List.getD, List.getElem?_eq_none (by omega)]; rfl
    have := h r
    rw [h0] at this ⊢
    have h1 : nrow t r = [] := List.eq_nil_of_length_eq_zero (by unfold len2 at this; omega)
    rw [h1]; simp
theorem grow_len {t : List (List Nat)} {x : Nat} {q : List Nat} (h : ∀ r, len2 t r ≤ q.getD r 0) (r : Nat) : len2 (growT t x q) r = q.getD r 0 := by
  unfold len2
  rw [grow_row h]
  have := h r
  unfold len2 at *
  rw [List.length_append, List.length_replicate]; omega
theorem grow_at {t : List (List Nat)} {x : Nat} {q : List Nat} (h : ∀ r, len2 t r ≤ q.getD r 0) (r j : Nat) (hj : j < q.getD r 0) : at2 (growT t x q) r j = if j < len2 t r then at2 t r j else x := by
  unfold at2
  rw [grow_row h]
  generalize q.getD r 0 = Q at *
  by_cases e : j < len2 t r
  · rw [if_pos e]
    simp only [List.getD]
    rw [List.getElem?_append_left (by exact e)]
  · rw [if_neg e]
    simp only [List.getD]
    rw [List.getElem?_append_right (by unfold len2 at e; omega), List.getElem?_replicate]
    unfold len2 at *
    rw [if_pos (by omega)]; rfl

theorem sorted_split (x : Nat) : ∀ l : List Nat, l.Pairwise (· ≤ ·) → (∀ e ∈ l, e ≤ x + 1) → l = l.filter (fun e => decide (e ≤ x)) ++ List.replicate (l.length - (l.filter (fun e => decide (e ≤ x))).length) (x + 1) := by
  intro l
  induction l with
  | nil => intro _ _; simp
  | cons h l ih =>
    intro hp hb
    obtain ⟨h1, h2⟩ := List.pairwise_cons.1 hp
    by_cases e : h ≤ x
    · rw [List.filter_cons_of_pos (by simpa using e)]
      have := ih h2 (fun z hz => hb z (by simp [hz]))
      simp only [List.length_cons, List.cons_append, Nat.add_sub_add_right]
      rw [← this]
    · have e1 : h = x + 1 := by have := hb h (by simp); omega
      have e2 : ∀ z ∈ l, z = x + 1 := fun z hz => by have := hb z (by simp [hz]); have := h1 z hz; omega
      have e3 : (h :: l).filter (fun e => decide (e ≤ x)) = [] := by
        rw [List.filter_eq_nil_iff]
        intro z hz
        rcases List.mem_cons.1 hz with rfl | hz
        · simpa using e
        · have := e2 z hz; simp; omega
      rw [e3]
      simp only [List.length_nil, Nat.sub_zero, List.nil_append]
      rw [List.eq_replicate_iff]
      exact ⟨rfl, fun z hz => by rcases List.mem_cons.1 hz with rfl | hz; exact e1; exact e2 z hz⟩

/-- A filling by letters up to x, in the making. -/
structure PF (a b c : Nat → Nat) (m x : Nat) (t : List (List Nat)) : Prop where
  rows : t.length ≤ m
  ne : ∀ r, r < t.length → 0 < len2 t r
  lo : ∀ r, a r ≤ len2 t r
  hi : ∀ r, len2 t r ≤ c r
  dec : ∀ r, len2 t (r + 1) ≤ len2 t r
  hole : ∀ r j, j < a r → at2 t r j = 0
  pos : ∀ r j, a r ≤ j → j < len2 t r → 1 ≤ at2 t r j ∧ at2 t r j ≤ x
  srt : ∀ r, (nrow t r).Pairwise (· ≤ ·)
  col : ∀ r j, a (r + 1) ≤ j → j < len2 t (r + 1) → at2 t r j < at2 t (r + 1) j
  cnt : ∀ y, 1 ≤ y → y ≤ x → (rwd t).count y = b y
  ltc : ∀ y, 2 ≤ y → y ≤ x → lat y 0 (rwd t) = true

theorem at_mem {l : List Nat} {e : Nat} (h : e ∈ l) : ∃ j, j < l.length ∧ l.getD j 0 = e := by
  obtain ⟨j, hj, he⟩ := List.getElem_of_mem h
  exact ⟨j, hj, by simp [List.getD, hj, he]⟩
theorem mem_at {l : List Nat} {j : Nat} (h : j < l.length) : l.getD j 0 ∈ l := by
  simp [List.getD, h]
theorem PF.le {a b c : Nat → Nat} {m x : Nat} {t : List (List Nat)} (h : PF a b c m x t) (r : Nat) : ∀ e ∈ nrow t r, e ≤ x := fun e he => by
  obtain ⟨j, hj, rfl⟩ := at_mem he
  by_cases hh : j < a r
  · have := h.hole r j hh; unfold at2 at this; omega
  · exact (h.pos r j (by omega) hj).2

theorem filter_flat {α : Type} (p : Nat → Bool) (f : α → List Nat) : ∀ l : List α, (l.flatMap f).filter p = l.flatMap fun r => (f r).filter p := by
  intro l
  induction l with
  | nil => rfl
  | cons a l ih => rw [List.flatMap_cons, List.filter_append, ih, List.flatMap_cons]
theorem flat_congr {α : Type} {f g : α → List Nat} : ∀ l : List α, (∀ r ∈ l, f r = g r) → l.flatMap f = l.flatMap g := by
  intro l
  induction l with
  | nil => intro _; rfl
  | cons a l ih => intro h; rw [List.flatMap_cons, List.flatMap_cons, h a (by simp), ih (fun r hr => h r (by simp [hr]))]
/-- The word of a table cut down to the letters up to x. -/
theorem rwd_cut {t t' : List (List Nat)} {x K : Nat} (h1 : t.length ≤ K) (h2 : t'.length ≤ K) (h : ∀ r, nrow t r = (nrow t' r).filter (fun e => decide (e ≤ x))) : rwd t = (rwd t').filter (fun e => decide (e ≤ x)) := by
  rw [rwd_rows t h1, rwd_rows t' h2, filter_flat]
  exact flat_congr _ (fun r _ => by rw [h r, List.filter_reverse])
theorem count_flat {α : Type} (y : Nat) (f : α → List Nat) : ∀ l : List α, (l.flatMap f).count y = (l.map fun r => (f r).count y).sum := by
  intro l
  induction l with
  | nil => rfl
  | cons a l ih => rw [List.flatMap_cons, List.count_append, ih]; rfl
theorem len_flat {α : Type} (f : α → List Nat) : ∀ l : List α, (l.flatMap f).length = (l.map fun r => (f r).length).sum := by
  intro l
  induction l with
  | nil => rfl
  | cons a l ih => rw [List.flatMap_cons, List.length_append, ih]; rfl

/-- What a strip is. -/
structure Strip (p c : Nat → Nat) (m k : Nat) (q : List Nat) : Prop where
  len : q.length ≤ m
  pos : ∀ r, r < q.length → 0 < q.getD r 0
  lo : ∀ r, p r ≤ q.getD r 0
  hi : ∀ r, r < m → q.getD r 0 ≤ hiG p c r
  sum : ((List.range m).map fun r => q.getD r 0 - p r).sum = k

theorem grow_cut {a b c : Nat → Nat} {m x : Nat} {t : List (List Nat)} {q : List Nat} (h : PF a b c m x t) (hq : ∀ r, len2 t r ≤ q.getD r 0) (r : Nat) : nrow t r = (nrow (growT t (x + 1) q) r).filter (fun e => decide (e ≤ x)) := by
  rw [grow_row hq, List.filter_append]
  have e1 : (nrow t r).filter (fun e => decide (e ≤ x)) = nrow t r := by
    rw [List.filter_eq_self]
    intro e he; simpa using h.le r e he
  have e2 : (List.replicate (q.getD r 0 - len2 t r) (x + 1)).filter (fun e => decide (e ≤ x)) = [] := by
    rw [List.filter_eq_nil_iff]
    intro e he
    rw [List.eq_of_mem_replicate he]; simp
  rw [e1, e2, List.append_nil]

theorem getD_out {q : List Nat} {r : Nat} (h : q.length ≤ r) : q.getD r 0 = 0 := by
  rw [List.getD, List.getElem?_eq_none h]; rfl
theorem PF.grow {a b c : Nat → Nat} {m x : Nat} {t : List (List Nat)} {q : List Nat} (h : PF a b c m x t) (hs : Strip (len2 t) c m (b (x + 1)) q) (hl : x + 1 = 1 ∨ lat (x + 1) 0 (rwd (growT t (x + 1) q)) = true) :
    PF a b c m (x + 1) (growT t (x + 1) q) := by
  have hq := hs.lo
  have hlen : ∀ r, len2 (growT t (x + 1) q) r = q.getD r 0 := grow_len hq
  have hrow := grow_row (x := x + 1) hq
  have hcut : rwd t = (rwd (growT t (x + 1) q)).filter (fun e => decide (e ≤ x)) := rwd_cut h.rows (by simp [growT]; exact hs.len) (grow_cut h hq)
  have hmono : ∀ r, q.getD (r + 1) 0 ≤ len2 t r := fun r => by
    by_cases hr : r + 1 < m
    · have := hs.hi (r + 1) hr
      unfold hiG at this
      rw [if_neg (by omega)] at this
      simp only [Nat.add_sub_cancel] at this
      omega
    · rw [getD_out (by have := hs.len; omega)]; omega
  refine ⟨by simp [growT]; exact hs.len, fun r hr => ?_, fun r => ?_, fun r => ?_, fun r => ?_, fun r j hj => ?_, fun r j h1 h2 => ?_, fun r => ?_, fun r j h1 h2 => ?_, fun y h1 h2 => ?_, fun y h1 h2 => ?_⟩
  · rw [hlen]; exact hs.pos r (by simpa [growT] using hr)
  · rw [hlen]; exact Nat.le_trans (h.lo r) (hq r)
  · rw [hlen]
    by_cases hr : r < m
    · have := hs.hi r hr
      unfold hiG at this
      split at this
      · rename_i e; subst e; exact this
      · omega
    · rw [getD_out (by have := hs.len; omega)]; omega
  · rw [hlen, hlen]; exact Nat.le_trans (hmono r) (hq r)
  · have := h.lo r
    rw [grow_at hq r j (by have := hq r; omega), if_pos (by omega)]
    exact h.hole r j hj
  · rw [hlen] at h2
    rw [grow_at hq r j h2]
    split
    · rename_i e
      have := h.pos r j h1 e; omega
    · omega
  · rw [hrow, List.pairwise_append]
    refine ⟨h.srt r, List.pairwise_replicate.2 (Or.inr (Nat.le_refl _)), fun e1 he1 e2 he2 => ?_⟩
    rw [List.eq_of_mem_replicate he2]
    have := h.le r e1 he1; omega
  · rw [hlen] at h2
    have h3 := hmono r
    rw [grow_at hq (r + 1) j h2, grow_at hq r j (by have := hq r; omega), if_pos (show j < len2 t r by omega)]
    split
    · rename_i e; exact h.col r j h1 e
    · have : at2 t r j ≤ x := h.le r _ (mem_at (by unfold len2 at h3; omega))
      omega
  · by_cases e : y = x + 1
    · subst e
      rw [rwd_rows (growT t (x + 1) q) (K := m) (by simp [growT]; exact hs.len), count_flat]
      rw [← hs.sum]
      congr 1
      refine List.map_congr_left fun r _ => ?_
      rw [List.count_reverse, hrow, List.count_append, List.count_replicate_self]
      have : (nrow t r).count (x + 1) = 0 := List.count_eq_zero.2 (fun he => by have := h.le r _ he; omega)
      omega
    · rw [← count_filter_pos (p := fun e => decide (e ≤ x)) (by simp; omega), ← hcut]
      exact h.cnt y h1 (by omega)
  · by_cases e : y = x + 1
    · subst e
      rcases hl with hl | hl
      · omega
      · exact hl
    · rw [← lat_filter y (fun e => decide (e ≤ x)) (by simp; omega) (fun z hz => by simp; omega), ← hcut]
      exact h.ltc y h1 (by omega)

/-- A nrow of rows, up to the first empty one. -/
theorem takeW_row (L : List (List Nat)) (h : ∀ r, nrow L (r + 1) ≠ [] → nrow L r ≠ []) : ∀ r, nrow (L.takeWhile (fun l => !l.isEmpty)) r = nrow L r := by
  induction L with
  | nil => intro r; rfl
  | cons l L ih =>
    intro r
    by_cases e : l = []
    · subst e
      have h0 : ∀ r, nrow ([] :: L) r = [] := by
        intro r
        induction r with
        | zero => rfl
        | succ r ih2 =>
          rcases Classical.em (nrow ([] :: L) (r + 1) = []) with q | q
          · exact q
          · exact absurd ih2 (h r q)
      rw [h0 r]
      simp [nrow]
    · have e1 : (!l.isEmpty) = true := by cases l with | nil => exact absurd rfl e | cons _ _ => rfl
      rw [List.takeWhile_cons_of_pos (p := fun l : List Nat => !l.isEmpty) e1]
      cases r with
      | zero => rfl
      | succ r =>
        have := ih (fun r hr => h (r + 1) hr) r
        exact this
theorem mem_takeW {p : List Nat → Bool} : ∀ {L : List (List Nat)} {l : List Nat}, l ∈ L.takeWhile p → p l = true := by
  intro L
  induction L with
  | nil => intro l h; simp at h
  | cons a L ih =>
    intro l h
    by_cases e : p a = true
    · rw [List.takeWhile_cons_of_pos e] at h
      rcases List.mem_cons.1 h with rfl | h
      · exact e
      · exact ih h
    · rw [List.takeWhile_cons_of_neg e] at h; cases h
theorem takeW_ne (L : List (List Nat)) : ∀ r, r < (L.takeWhile (fun l => !l.isEmpty)).length → 0 < len2 (L.takeWhile (fun l => !l.isEmpty)) r := fun r hr => by
  have hm : nrow (L.takeWhile (fun l => !l.isEmpty)) r ∈ L.takeWhile (fun l => !l.isEmpty) := by
    unfold nrow; simp [List.getD, hr]
  have := mem_takeW hm
  unfold len2
  rcases Nat.eq_zero_or_pos (nrow (L.takeWhile (fun l => !l.isEmpty)) r).length with e | e
  · rw [List.eq_nil_of_length_eq_zero e] at this; simp at this
  · exact e
def cutT (x : Nat) (t : List (List Nat)) : List (List Nat) := (t.map fun l => l.filter (fun e => decide (e ≤ x))).takeWhile (fun l => !l.isEmpty)
theorem row_mapf (f : List Nat → List Nat) (h0 : f [] = []) (t : List (List Nat)) (r : Nat) : nrow (t.map f) r = f (nrow t r) := by
  unfold nrow
  simp only [List.getD, List.getElem?_map]
  cases t[r]? with
  | none => simp [h0]
  | some v => rfl

theorem PF.cut {a b c : Nat → Nat} {m x : Nat} {t : List (List Nat)} (h : PF a b c m (x + 1) t) (ha : ∀ r, a (r + 1) ≤ a r) :
    PF a b c m x (cutT x t) ∧ (∀ r, nrow (cutT x t) r = (nrow t r).filter (fun e => decide (e ≤ x))) ∧ Strip (len2 (cutT x t)) c m (b (x + 1)) (t.map List.length) ∧ growT (cutT x t) (x + 1) (t.map List.length) = t := by
  have hsp : ∀ r, nrow t r = (nrow t r).filter (fun e => decide (e ≤ x)) ++ List.replicate ((nrow t r).length - ((nrow t r).filter (fun e => decide (e ≤ x))).length) (x + 1) := fun r => sorted_split x (nrow t r) (h.srt r) (h.le r)
  -- a letter up to x lies among the first ones
  have hat : ∀ r j, j < len2 t r → (at2 t r j ≤ x ↔ j < ((nrow t r).filter (fun e => decide (e ≤ x))).length) := fun r j hj => by
    constructor
    · intro hle
      rcases Nat.lt_or_ge j ((nrow t r).filter (fun e => decide (e ≤ x))).length with e | e
      · exact e
      · exfalso
        have : at2 t r j = x + 1 := by
          unfold at2
          rw [hsp r]
          simp only [List.getD]
          rw [List.getElem?_append_right e, List.getElem?_replicate]
          unfold len2 at hj
          rw [if_pos (by omega)]; rfl
        omega
    · intro hlt
      have hm : at2 t r j ∈ (nrow t r).filter (fun e => decide (e ≤ x)) := by
        unfold at2
        have e : (nrow t r).getD j 0 = ((nrow t r).filter (fun e => decide (e ≤ x))).getD j 0 := by
          have := congrArg (fun l : List Nat => l.getD j 0) (hsp r)
          simp only [List.getD] at this ⊢
          rw [this, List.getElem?_append_left hlt]
        rw [e]; exact mem_at hlt
      simpa using (List.mem_filter.1 hm).2
  have hfl : ∀ r, ((nrow t r).filter (fun e => decide (e ≤ x))).length ≤ len2 t r := fun r => List.length_filter_le _ _
  have hdec : ∀ r, ((nrow t (r + 1)).filter (fun e => decide (e ≤ x))).length ≤ ((nrow t r).filter (fun e => decide (e ≤ x))).length := fun r => by
    rcases Nat.lt_or_ge ((nrow t r).filter (fun e => decide (e ≤ x))).length ((nrow t (r + 1)).filter (fun e => decide (e ≤ x))).length with e | e
    · exfalso
      obtain ⟨j, hj⟩ : ∃ j, j = ((nrow t r).filter (fun e => decide (e ≤ x))).length := ⟨_, rfl⟩
      rw [← hj] at e
      have h1 := hfl (r + 1)
      have h2 := h.dec r
      have h3 := (hat (r + 1) j (by omega)).2 e
      by_cases e2 : j < a (r + 1)
      · have := ha r
        have := (hat r j (by omega)).1 (by rw [h.hole r j (by omega)]; omega)
        omega
      · have := h.col r j (by omega) (by omega)
        have := (hat r j (by omega)).1 (by omega)
        omega
    · exact e
  have hrow : ∀ r, nrow (cutT x t) r = (nrow t r).filter (fun e => decide (e ≤ x)) := fun r => by
    unfold cutT
    rw [takeW_row, row_mapf _ (by rfl)]
    intro r hne hn
    rw [row_mapf _ (by rfl)] at hne hn
    have := hdec r
    rw [hn] at this
    exact hne (List.eq_nil_of_length_eq_zero (by simpa using this))
  have hlen : ∀ r, len2 (cutT x t) r = ((nrow t r).filter (fun e => decide (e ≤ x))).length := fun r => by unfold len2; rw [hrow]
  have hq : ∀ r, (t.map List.length).getD r 0 = len2 t r := fun r => by
    unfold len2 nrow
    simp only [List.getD, List.getElem?_map]
    cases t[r]? with
    | none => rfl
    | some v => rfl
  have hle : ∀ r, len2 (cutT x t) r ≤ (t.map List.length).getD r 0 := fun r => by rw [hq, hlen]; exact hfl r
  have hatc : ∀ r j, j < len2 (cutT x t) r → at2 (cutT x t) r j = at2 t r j := fun r j hj => by
    unfold at2
    rw [hrow]
    have := congrArg (fun l : List Nat => l.getD j 0) (hsp r)
    simp only [List.getD] at this ⊢
    rw [hlen] at hj
    rw [this, List.getElem?_append_left hj]
  have hrl : (cutT x t).length ≤ m := by
    have h1 : (cutT x t).length ≤ (t.map fun l => l.filter (fun e => decide (e ≤ x))).length := (List.takeWhile_sublist _).length_le
    have := h.rows
    simp at h1; omega
  have hwd : rwd (cutT x t) = (rwd t).filter (fun e => decide (e ≤ x)) := rwd_cut hrl h.rows hrow
  have hal : ∀ r, a r ≤ len2 (cutT x t) r := fun r => by
    rcases Nat.lt_or_ge (len2 (cutT x t) r) (a r) with e | e
    · exfalso
      have h1 := h.lo r
      have := (hat r (len2 (cutT x t) r) (by omega)).1 (by rw [h.hole r _ e]; omega)
      rw [hlen] at this; omega
    · exact e
  refine ⟨⟨hrl, takeW_ne _, hal, fun r => ?_, fun r => ?_, fun r j hj => ?_, fun r j h1 h2 => ?_, fun r => ?_, fun r j h1 h2 => ?_, fun y h1 h2 => ?_, fun y h1 h2 => ?_⟩, hrow, ⟨?_, fun r hr => ?_, hle, fun r hr => ?_, ?_⟩, ?_⟩
  · rw [hlen]; exact Nat.le_trans (hfl r) (h.hi r)
  · rw [hlen, hlen]; exact hdec r
  · rw [hatc r j (by have := hal r; omega)]; exact h.hole r j hj
  · rw [hatc r j h2]
    rw [hlen] at h2
    have h3 := hfl r
    exact ⟨(h.pos r j h1 (by omega)).1, (hat r j (by omega)).2 h2⟩
  · rw [hrow]; exact (h.srt r).filter _
  · have h4 : j < len2 (cutT x t) r := by rw [hlen] at h2 ⊢; have := hdec r; omega
    rw [hatc _ _ h2, hatc _ _ h4]
    rw [hlen] at h2
    have h3 := hfl (r + 1)
    exact h.col r j h1 (by omega)
  · rw [hwd, count_filter_pos (by simp; omega)]; exact h.cnt y h1 (by omega)
  · rw [hwd, lat_filter y (fun e => decide (e ≤ x)) (by simp; omega) (fun z hz => by simp; omega)]
    exact h.ltc y h1 (by omega)
  · simpa using h.rows
  · rw [hq]; exact h.ne r (by simpa using hr)
  · rw [hq]
    unfold hiG
    by_cases e : r = 0
    · subst e; rw [if_pos rfl]; exact h.hi 0
    · rw [if_neg e]
      refine Nat.le_min.2 ⟨?_, h.hi r⟩
      obtain ⟨r, rfl⟩ : ∃ r', r = r' + 1 := ⟨r - 1, by omega⟩
      simp only [Nat.add_sub_cancel]
      rcases Nat.lt_or_ge (len2 (cutT x t) r) (len2 t (r + 1)) with e2 | e2
      · exfalso
        obtain ⟨j, hj⟩ : ∃ j, j = len2 (cutT x t) r := ⟨_, rfl⟩
        rw [← hj] at e2
        have h1 := hal r
        have h2 := ha r
        have h3 := h.dec r
        have h4 := h.col r j (by omega) e2
        have h5 := (h.pos (r + 1) j (by omega) e2).2
        have h6 := (hat r j (by omega)).1 (by omega)
        rw [hlen] at hj; omega
      · exact e2
  · have h1 := h.cnt (x + 1) (by omega) (Nat.le_refl _)
    rw [rwd_rows t h.rows, count_flat] at h1
    rw [← h1]
    congr 1
    refine List.map_congr_left fun r _ => ?_
    rw [List.count_reverse, hq, hlen]
    have e : (nrow t r).count (x + 1) = (((nrow t r).filter (fun e => decide (e ≤ x))) ++ List.replicate ((nrow t r).length - ((nrow t r).filter (fun e => decide (e ≤ x))).length) (x + 1)).count (x + 1) := by rw [← hsp r]
    rw [e, List.count_append, List.count_replicate_self]
    have : ((nrow t r).filter (fun e => decide (e ≤ x))).count (x + 1) = 0 := List.count_eq_zero.2 (fun he => absurd (of_decide_eq_true (List.mem_filter.1 he).2) (by omega))
    unfold len2; omega
  · refine tab_ext (fun r hr => ?_) h.ne (fun r => ?_)
    · rw [grow_len hle, hq]; exact h.ne r (by simpa [growT] using hr)
    · rw [grow_row hle, hrow, hq, hlen]
      exact (hsp r).symm

end Go.Proofs.YtpdlhnniibjfaaiDoor
