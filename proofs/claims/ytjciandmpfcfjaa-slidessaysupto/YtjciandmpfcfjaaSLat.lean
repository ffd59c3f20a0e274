/-
  In which order the holes may go: plain facts.
-/
import Derived.Test.YtjciandmpfcfjaaSRec
import Derived.Test.YtjciandmpfcfjaaSPro
namespace Go.Proofs.Ytjciandmpfcfjaa

theorem lat_sorted {rows : List Nat} (hs : rows.Pairwise (· ≤ ·)) (hc : ∀ a, rows.count (a + 1) ≤ rows.count a) : Lat rows := by
  intro k a
  by_cases c : a + 1 ∈ rows.take k
  · have e := List.take_append_drop k rows
    have h1 : (rows.drop k).count a = 0 := by
      rw [List.count_eq_zero]
      intro q
      rw [← e] at hs
      have := (List.pairwise_append.1 hs).2.2 (a + 1) c a q
      omega
    have h4 : ∀ b, rows.count b = (rows.take k).count b + (rows.drop k).count b := fun b => by
      rw [← List.count_append, e]
    have h2 := h4 a
    have h3 := h4 (a + 1)
    have := hc a
    omega
  · rw [List.count_eq_zero.2 c]; exact Nat.zero_le _
/-- The rows that the numbers stand in. -/
structure RowsOf (o : List (List Int)) (n : Nat) (rows : List Nat) : Prop where
  len : rows.length = n
  at' : ∀ a b, b < (row o a).length → rows.getD ((box o a b).toNat - 1) 0 = a
theorem countP_le_succ (r : List Int) (k : Int) : (r.filter (fun z => decide (z ≤ k + 1))).length = (r.filter (fun z => decide (z ≤ k))).length + r.count (k + 1) := by
  induction r with
  | nil => rfl
  | cons x r ih =>
    rw [List.filter_cons, List.filter_cons, List.count_cons]
    by_cases c1 : x ≤ k
    · rw [if_pos (by simp; omega), if_pos (by simpa using c1), List.length_cons, List.length_cons, ih, if_neg (by simp; omega)]; omega
    · by_cases c2 : x = k + 1
      · rw [if_pos (by simp; omega), if_neg (by simpa using c1), List.length_cons, ih, if_pos (by simp [c2])]; omega
      · rw [if_neg (by simp; omega), if_neg (by simpa using c1), ih, if_neg (by simpa using c2)]; omega
theorem RowsOf.count {o : List (List Int)} {n : Nat} {rows : List Nat} (h : RowsOf o n rows) (ho : Std n o) : ∀ (k : Nat), k ≤ n → ∀ a, (rows.take k).count a = ((row o a).filter (fun z => decide (z ≤ (k : Int)))).length := by
  intro k
  induction k with
  | zero =>
    intro _ a
    rw [List.filter_eq_nil_iff.2 (fun z hz => ?_)]
    · rfl
    · obtain ⟨b, hb, rfl⟩ := List.mem_iff_getElem.1 hz
      have := (ho.low _ (wrd_mem.2 (box_mem (row_lt hb) hb))).1
      unfold box at this
      simp [List.getD, List.getElem?_eq_getElem hb] at this
      simp; omega
  | succ k ih =>
    intro hk a
    have hkl : k < rows.length := by rw [h.len]; omega
    rw [List.take_succ_eq_append_getElem hkl, List.count_append, ih (by omega) a, show ((k + 1 : Nat) : Int) = (k : Int) + 1 by omega, countP_le_succ]
    congr 1
    obtain ⟨c, d, hc, hd, e⟩ := flat_mem (wrd_mem.1 (ho.all (v := (k : Int) + 1) (by omega) (by omega)))
    have hk2 := h.at' c d hd
    rw [e, show ((k : Int) + 1).toNat - 1 = k by omega] at hk2
    have hk3 : rows[k] = c := by rw [← hk2]; simp [List.getD, List.getElem?_eq_getElem hkl]
    rw [hk3]
    have hnd : (row o a).Nodup := by
      have h1 : o.flatten.Nodup := (wrd_perm o).nodup_iff.1 ho.perm.once
      by_cases q : a < o.length
      · unfold List.Nodup at h1
        exact (List.pairwise_flatten.1 h1).1 _ (row_mem q)
      · rw [row_out (by omega)]; exact List.nodup_nil
    by_cases q : a = c
    · subst q
      rw [List.count_singleton_self]
      have hin : (k : Int) + 1 ∈ row o a := by rw [← e]; exact getD_mem hd
      have := List.nodup_iff_count.1 hnd ((k : Int) + 1)
      have := List.count_pos_iff.2 hin
      omega
    · have z1 : List.count a [c] = 0 := by rw [List.count_eq_zero]; simp; exact q
      rw [z1]
      symm
      rw [List.count_eq_zero]
      intro hin
      obtain ⟨b, hb, e2⟩ := List.mem_iff_getElem.1 hin
      have := h.at' a b hb
      have e3 : box o a b = (k : Int) + 1 := by unfold box; simp [List.getD, List.getElem?_eq_getElem hb, e2]
      rw [e3, show ((k : Int) + 1).toNat - 1 = k by omega, hk2] at this
      exact q this.symm
theorem RowsOf.lat {o : List (List Int)} {n : Nat} {rows : List Nat} (h : RowsOf o n rows) (ho : Std n o) : Lat rows ∧ ∀ a, rows.count a = (row o a).length := by
  have key : ∀ k, k ≤ n → ∀ a, (rows.take k).count (a + 1) ≤ (rows.take k).count a := by
    intro k hk a
    rw [h.count ho k hk, h.count ho k hk]
    by_cases q : a + 1 < o.length
    · have hr := (T_row.1 ho.tab)
      obtain ⟨h1, h2, h3, h4⟩ := hr a (by omega)
      obtain ⟨g1, g2, g3, g4⟩ := hr (a + 1) q
      rw [filter_spot h2, filter_spot g2, List.length_take, List.length_take]
      have hs := spot_has (k : Int) (row o a)
      have hu := spot_has (k : Int) (row o (a + 1))
      have hle : spot false (k : Int) (row o (a + 1)) ≤ spot false (k : Int) (row o a) := Nat.le_of_not_lt (fun q => by
        have q1 := hu.pass _ q
        have q2 := hs.stop (by have := hu.le; omega)
        have q3 := h4 (spot false (k : Int) (row o a)) (by have := hu.le; omega)
        omega)
      have := hs.le
      omega
    · rw [row_out (by omega)]; simp
  have htot : ∀ a, rows.count a = (row o a).length := fun a => by
    have := h.count ho n (Nat.le_refl _) a
    rw [List.take_of_length_le (by rw [h.len]; exact Nat.le_refl _)] at this
    rw [this, List.filter_eq_self.2 (fun z hz => ?_)]
    by_cases q : a < o.length
    · have := (ho.low z (wrd_mem.2 (List.mem_flatten.2 ⟨_, row_mem q, hz⟩))).2
      simpa using this
    · rw [row_out (by omega)] at hz; simp at hz
  refine ⟨fun k a => ?_, htot⟩
  by_cases c : k ≤ n
  · exact key k c a
  · have := key n (Nat.le_refl _) a
    rw [List.take_of_length_le (by rw [h.len]; exact Nat.le_refl _)] at this
    rw [List.take_of_length_le (by rw [h.len]; omega)]
    exact this
/-- Row by row. -/
def byRow : Nat → List Int → List Nat
  | _, [] => []
  | i, x :: l => List.replicate x.toNat i ++ byRow (i + 1) l
theorem byRow_low : ∀ (l : List Int) (i : Nat), ∀ a ∈ byRow i l, i ≤ a := by
  intro l
  induction l with
  | nil => intro i a h; simp [byRow] at h
  | cons x l ih =>
    intro i a h
    simp only [byRow, List.mem_append] at h
    rcases h with q | q
    · rw [(List.mem_replicate.1 q).2]; exact Nat.le_refl _
    · have := ih (i + 1) a q; omega
theorem byRow_sorted : ∀ (l : List Int) (i : Nat), (byRow i l).Pairwise (· ≤ ·) := by
  intro l
  induction l with
  | nil => intro i; exact List.Pairwise.nil
  | cons x l ih =>
    intro i
    simp only [byRow]
    refine List.pairwise_append.2 ⟨List.pairwise_replicate.2 (Or.inr (Nat.le_refl _)), ih (i + 1), fun a ha b hb => ?_⟩
    rw [(List.mem_replicate.1 ha).2]
    have := byRow_low l (i + 1) b hb; omega
theorem byRow_count : ∀ (l : List Int) (i a : Nat), (byRow i l).count (i + a) = (l.getD a 0).toNat := by
  intro l
  induction l with
  | nil => intro i a; simp [byRow]
  | cons x l ih =>
    intro i a
    simp only [byRow, List.count_append]
    cases a with
    | zero =>
      have : (byRow (i + 1) l).count (i + 0) = 0 := by rw [List.count_eq_zero]; intro q; have := byRow_low l (i + 1) _ q; omega
      rw [this]; simp
    | succ a =>
      have h1 := ih (i + 1) a
      rw [show i + 1 + a = i + (a + 1) by omega] at h1
      rw [h1, List.count_eq_zero.2 (fun q => by have := (List.mem_replicate.1 q).2; omega)]
      simp

end Go.Proofs.Ytjciandmpfcfjaa
