/-
  EULER'S: merging and splitting undo each other. Plain facts on counts and lists.
-/
import Derived.Test.YtnjbkiegeielhaaSpl
import Derived.Test.YtnjbkiegeielhaaFMath
namespace Go.Proofs.Ytnjbkiegeielhaa

theorem mergeStep_stay {F : Nat → Int} {p : Nat} (h : F p ≤ 1) : mergeStep F p = F := by
  unfold mergeStep; rw [if_neg (by omega)]
theorem splitStep_stay {F : Nat → Int} {p : Nat} (h : p % 2 ≠ 0) : splitStep F p = F := by
  unfold splitStep; rw [if_neg h]

/-- A split undoes a merge where nothing was. -/
theorem split_merge {F : Nat → Int} {p : Nat} (hp : 0 < p) (h0 : F (2 * p) = 0) : splitStep (mergeStep F p) (2 * p) = F := by
  unfold splitStep
  rw [if_pos (by omega), show 2 * p / 2 = p by omega]
  funext i
  by_cases h : 1 < F p
  · unfold mergeStep; rw [if_pos h]
    by_cases i1 : i = 2 * p
    · subst i1; rw [upd_same, h0]
    · rw [upd_ne _ _ i1]
      by_cases i2 : i = p
      · subst i2; rw [upd_same, upd_same, upd_ne _ _ (by omega), upd_same, h0]; omega
      · rw [upd_ne _ _ i2, upd_ne _ _ i2, upd_ne _ _ i1]
  · rw [mergeStep_stay (by omega)]
    by_cases i1 : i = 2 * p
    · subst i1; rw [upd_same, h0]
    · rw [upd_ne _ _ i1]
      by_cases i2 : i = p
      · subst i2; rw [upd_same, h0]; omega
      · rw [upd_ne _ _ i2]

/-- A merge undoes a split where there was one at most. -/
theorem merge_split {F : Nat → Int} {q : Nat} (hq : 0 < q) (h0 : 0 ≤ F q) (h1 : F q ≤ 1) (h2 : 0 ≤ F (2 * q)) : mergeStep (splitStep F (2 * q)) q = F := by
  have e : splitStep F (2 * q) = upd (upd F q (F q + 2 * F (2 * q))) (2 * q) 0 := by
    unfold splitStep; rw [if_pos (by omega), show 2 * q / 2 = q by omega]
  rw [e]
  have eq1 : upd (upd F q (F q + 2 * F (2 * q))) (2 * q) 0 q = F q + 2 * F (2 * q) := by rw [upd_ne _ _ (by omega), upd_same]
  unfold mergeStep
  rw [eq1, upd_same]
  funext i
  by_cases h : 1 < F q + 2 * F (2 * q)
  · rw [if_pos h]
    by_cases i1 : i = q
    · subst i1; rw [upd_same]; omega
    · rw [upd_ne _ _ i1]
      by_cases i2 : i = 2 * q
      · subst i2; rw [upd_same]; omega
      · rw [upd_ne _ _ i2, upd_ne _ _ i2, upd_ne _ _ i1]
  · rw [if_neg h]
    by_cases i2 : i = 2 * q
    · subst i2; rw [upd_same]; omega
    · rw [upd_ne _ _ i2]
      by_cases i1 : i = q
      · subst i1; rw [upd_same]; omega
      · rw [upd_ne _ _ i1]

theorem mergeTo_low {f : Nat → Int} : ∀ k j, j ≠ 0 → j ≤ k → mergeTo f k j ≤ 1 := by
  intro k
  induction k with
  | zero => intro j h0 h; omega
  | succ k ih =>
    intro j h0 hj
    rw [mergeTo]
    unfold mergeStep
    by_cases h : 1 < mergeTo f k (k + 1)
    · rw [if_pos h]
      by_cases e : j = k + 1
      · subst e; rw [upd_same]; omega
      · rw [upd_ne _ _ e, upd_ne _ _ (by omega)]; exact ih j h0 (by omega)
    · rw [if_neg h]
      by_cases e : j = k + 1
      · subst e; omega
      · exact ih j h0 (by omega)

theorem mergeTo_even {f : Nat → Int} (he : ∀ j, j % 2 = 0 → f j = 0) : ∀ k j, j % 2 = 0 → 2 * k < j → mergeTo f k j = 0 := by
  intro k
  induction k with
  | zero => intro j h _; exact he j h
  | succ k ih =>
    intro j h hj
    rw [mergeTo]
    unfold mergeStep
    split
    · rw [upd_ne _ _ (by omega), upd_ne _ _ (by omega)]; exact ih j h (by omega)
    · exact ih j h (by omega)

theorem mergeTo_past {f : Nat → Int} (h : Good f) : ∀ i, i ≤ 20 → mergeTo f (20 + i) = mergeTo f 20 := by
  intro i
  induction i with
  | zero => intro _; rfl
  | succ i ih =>
    intro hi
    rw [show 20 + (i + 1) = (20 + i) + 1 by omega, mergeTo, mergeStep_stay, ih (by omega)]
    have hG := (h.mergeTo (20 + i) (by omega)).1
    by_cases e : 1 < mergeTo f (20 + i) (20 + i + 1)
    · have := hG.twice (j := 20 + i + 1) (by omega) e; omega
    · omega

theorem split_of_merge {f : Nat → Int} (h : Good f) (he : ∀ j, j % 2 = 0 → f j = 0) : splitTo (mergeTo f 40) 40 = f := by
  have key : ∀ i, i ≤ 20 → splitTo (mergeTo f 40) (2 * i) = mergeTo f (20 - i) := by
    intro i
    induction i with
    | zero => intro _; exact mergeTo_past h 20 (by omega)
    | succ i ih =>
      intro hi
      have e1 : splitTo (mergeTo f 40) (2 * i + 1) = mergeTo f (19 - i) := by
        rw [splitTo, ih (by omega), show 20 - i = (19 - i) + 1 by omega, mergeTo, show 40 - 2 * i = 2 * (19 - i + 1) by omega]
        exact split_merge (by omega) (mergeTo_even he _ _ (by omega) (by omega))
      rw [show 2 * (i + 1) = 2 * i + 1 + 1 by omega, splitTo, e1, splitStep_stay (by omega), show 20 - (i + 1) = 19 - i by omega]
  exact key 20 (by omega)

theorem splitTo_low {f : Nat → Int} : ∀ k j, k ≤ 40 → 2 * j ≤ 40 - k → splitTo f k j = f j := by
  intro k
  induction k with
  | zero => intro j _ _; rfl
  | succ k ih =>
    intro j hk hj
    rw [splitTo]
    unfold splitStep
    split
    · rw [upd_ne _ _ (by omega), upd_ne _ _ (by omega)]; exact ih j (by omega) (by omega)
    · exact ih j (by omega) (by omega)

theorem splitTo_even {f : Nat → Int} (h0 : ∀ j, 41 ≤ j → f j = 0) : ∀ k j, k ≤ 40 → j % 2 = 0 → 40 - k < j → splitTo f k j = 0 := by
  intro k
  induction k with
  | zero => intro j _ _ hj; exact h0 j (by omega)
  | succ k ih =>
    intro j hk he hj
    rw [splitTo]
    by_cases e : j = 40 - k
    · subst e; unfold splitStep; rw [if_pos he, upd_same]
    · unfold splitStep
      split
      · rw [upd_ne _ _ e, upd_ne _ _ (by omega)]; exact ih j (by omega) he (by omega)
      · exact ih j (by omega) he (by omega)

theorem merge_of_split {f : Nat → Int} (h : Good f) (h1 : ∀ j, j < 41 → f j ≤ 1) : mergeTo (splitTo f 40) 40 = f := by
  have key : ∀ i, i ≤ 20 → mergeTo (splitTo f 40) i = splitTo f (40 - 2 * i) := by
    intro i
    induction i with
    | zero => intro _; rfl
    | succ i ih =>
      intro hi
      have hG := (h.splitTo (38 - 2 * i) (by omega)).1
      have e1 : splitTo f (40 - 2 * i) = splitStep (splitTo f (38 - 2 * i)) (2 * (i + 1)) := by
        rw [show 40 - 2 * i = (38 - 2 * i) + 1 + 1 by omega, splitTo, splitStep_stay (by omega), splitTo, show 40 - (38 - 2 * i) = 2 * (i + 1) by omega]
      rw [mergeTo, ih (by omega), e1, merge_split (by omega) (hG.1 _ (by omega)) ?_ (hG.1 _ (by omega)), show 40 - 2 * (i + 1) = 38 - 2 * i by omega]
      rw [splitTo_low _ _ (by omega) (by omega)]
      exact h1 _ (by omega)
  have past : ∀ i, i ≤ 20 → mergeTo (splitTo f 40) (20 + i) = f := by
    intro i
    induction i with
    | zero => intro _; exact key 20 (by omega)
    | succ i ih =>
      intro hi
      rw [show 20 + (i + 1) = (20 + i) + 1 by omega, mergeTo, ih (by omega), mergeStep_stay (h1 _ (by omega))]
  exact past 20 (by omega)

/-- Past the 41st nothing turns. -/
theorem mergeTo_out {f : Nat → Int} (h : Good f) (h0 : ∀ j, 41 ≤ j → f j = 0) : ∀ k, k ≤ 40 → ∀ j, 41 ≤ j → mergeTo f k j = 0 := by
  intro k
  induction k with
  | zero => intro _ j hj; exact h0 j hj
  | succ k ih =>
    intro hk j hj
    rw [mergeTo]
    unfold mergeStep
    by_cases e : 1 < mergeTo f k (k + 1)
    · have := (h.mergeTo k (by omega)).1.twice (j := k + 1) (by omega) e
      rw [if_pos e, upd_ne _ _ (by omega), upd_ne _ _ (by omega)]; exact ih (by omega) j hj
    · rw [if_neg e]; exact ih (by omega) j hj
theorem splitTo_out {f : Nat → Int} (h0 : ∀ j, 41 ≤ j → f j = 0) : ∀ k, k ≤ 40 → ∀ j, 41 ≤ j → splitTo f k j = 0 := by
  intro k
  induction k with
  | zero => intro _ j hj; exact h0 j hj
  | succ k ih =>
    intro hk j hj
    rw [splitTo]
    unfold splitStep
    split
    · rw [upd_ne _ _ (by omega), upd_ne _ _ (by omega)]; exact ih (by omega) j hj
    · exact ih (by omega) j hj

/- Lists that do not rise. -/
def Desc (zs : List Int) : Prop := zs.Pairwise fun x y => y ≤ x

theorem goes_of_desc {zs : List Int} (h1 : ∀ z ∈ zs, 1 ≤ z) (hd : Desc zs) : Goes 1 0 zs := by
  intro j hj
  refine ⟨h1 _ (getD_mem hj), fun h0 => ?_⟩
  have := List.pairwise_iff_getElem.1 hd (j - 1) j (by omega) hj (by omega)
  simp only [List.getD, List.getElem?_eq_getElem hj, List.getElem?_eq_getElem (show j - 1 < zs.length by omega), Option.getD_some]; omega

theorem desc_of_goes {m d : Int} (hd0 : 0 ≤ d) {zs : List Int} (h : Goes m d zs) : Desc zs := by
  have key : ∀ (n i : Nat), i + n < zs.length → zs.getD (i + n) 0 ≤ zs.getD i 0 := by
    intro n
    induction n with
    | zero => intro i _; simp
    | succ n ih =>
      intro i hi
      have h1 := ih i (by omega)
      have h2 := (h (i + n + 1) (by omega)).2 (by omega)
      rw [Nat.add_sub_cancel] at h2
      rw [show i + (n + 1) = i + n + 1 by omega]; omega
  refine List.pairwise_iff_getElem.2 (fun i j hi hj hij => ?_)
  have := key (j - i) i (by omega)
  rw [show i + (j - i) = j by omega] at this
  simpa [List.getD, List.getElem?_eq_getElem hi, List.getElem?_eq_getElem hj] using this

theorem filter_step (zs : List Int) (hd : Desc zs) (n : Nat) : zs.filter (fun z => decide ((n : Int) ≤ z)) = zs.filter (fun z => decide ((n : Int) + 1 ≤ z)) ++ List.replicate (cnt zs n).toNat (n : Int) := by
  induction zs with
  | nil => simp [cnt_nil]
  | cons x l ih =>
    obtain ⟨hx, hl⟩ := List.pairwise_cons.1 hd
    have ih := ih hl
    rw [cnt_cons]
    rcases (show (n : Int) + 1 ≤ x ∨ x = n ∨ x < n by omega) with h | h | h
    · rw [List.filter_cons_of_pos (by simp; omega), List.filter_cons_of_pos (by simp; omega), ih, if_neg (by omega)]; simp
    · subst h
      have e : l.filter (fun z => decide ((n : Int) + 1 ≤ z)) = [] := by
        rw [List.filter_eq_nil_iff]; intro z hz; have := hx z hz; simp; omega
      rw [List.filter_cons_of_pos (by simp), List.filter_cons_of_neg (by simp; omega), ih, e, if_pos rfl]
      have := cnt_nonneg l n
      rw [show (cnt l n + 1).toNat = (cnt l n).toNat + 1 by omega, List.replicate_succ]; simp
    · have e : l.filter (fun z => decide ((n : Int) ≤ z)) = [] := by
        rw [List.filter_eq_nil_iff]; intro z hz; have := hx z hz; simp; omega
      rw [List.filter_cons_of_neg (by simp; omega), List.filter_cons_of_neg (by simp; omega), ih, if_neg (by omega)]; simp

theorem accK_cnt (zs : List Int) (hd : Desc zs) (h40 : ∀ z ∈ zs, z ≤ 40) : ∀ k, k ≤ 40 → accK (cnt zs) k = zs.filter (fun z => decide ((41 : Int) - k ≤ z)) := by
  intro k
  induction k with
  | zero =>
    intro _
    rw [accK]; symm
    rw [List.filter_eq_nil_iff]; intro z hz; have := h40 z hz; simp; omega
  | succ k ih =>
    intro hk
    rw [accK, ih (by omega)]
    have e := filter_step zs hd (40 - k)
    rw [show ((40 - k : Nat) : Int) + 1 = 41 - (k : Int) by omega] at e
    rw [← e]
    congr 1; funext z; congr 1; rw [eq_iff_iff]; omega

/-- A partition is what its counts list. -/
theorem listed_cnt {zs : List Int} (h : IsPart zs) : listed (cnt zs) = zs := by
  unfold listed
  rw [accK_cnt zs (desc_of_goes (Int.le_refl 0) h.1) (fun z hz => (h.range z hz).2) 40 (by omega)]
  rw [List.filter_eq_self]
  intro z hz
  have := (h.range z hz).1
  simp; omega

theorem cnt_append (a b : List Int) (j : Nat) : cnt (a ++ b) j = cnt a j + cnt b j := by
  unfold cnt; rw [List.countP_append]; omega
theorem cnt_replicate (n m j : Nat) : cnt (List.replicate n (m : Int)) j = if j = m then (n : Int) else 0 := by
  induction n with
  | zero => rw [List.replicate_zero, cnt_nil]; split <;> rfl
  | succ n ih => rw [List.replicate_succ, cnt_cons, ih]; split <;> split <;> omega

theorem accK_mem {f : Nat → Int} : ∀ k, k ≤ 40 → ∀ z ∈ accK f k, (41 : Int) - k ≤ z ∧ z ≤ 40 := by
  intro k
  induction k with
  | zero => intro _ z hz; simp [accK] at hz
  | succ k ih =>
    intro hk z hz
    rw [accK, List.mem_append] at hz
    rcases hz with hz | hz
    · have := ih (by omega) z hz; omega
    · have := (List.mem_replicate.1 hz).2; omega
theorem accK_desc {f : Nat → Int} : ∀ k, k ≤ 40 → Desc (accK f k) := by
  intro k
  induction k with
  | zero => intro _; exact List.Pairwise.nil
  | succ k ih =>
    intro hk
    rw [accK]
    refine List.pairwise_append.2 ⟨ih (by omega), ?_, fun a ha b hb => ?_⟩
    · exact List.pairwise_replicate.2 (Or.inr (Int.le_refl _))
    · have h1 := accK_mem k (by omega) a ha
      have h2 := (List.mem_replicate.1 hb).2
      omega
theorem cnt_accK {f : Nat → Int} (h0 : ∀ j, j < 41 → 0 ≤ f j) : ∀ k, k ≤ 40 → ∀ j, cnt (accK f k) j = if 40 - k < j ∧ j ≤ 40 then f j else 0 := by
  intro k
  induction k with
  | zero => intro _ j; rw [accK, cnt_nil, if_neg (by omega)]
  | succ k ih =>
    intro hk j
    rw [accK, cnt_append, ih (by omega), cnt_replicate]
    have := h0 (40 - k) (by omega)
    by_cases e : j = 40 - k
    · subst e; rw [if_neg (by omega), if_pos rfl, if_pos (by omega)]; omega
    · rw [if_neg e]
      by_cases e2 : 40 - k < j ∧ j ≤ 40
      · rw [if_pos e2, if_pos (by omega)]; omega
      · rw [if_neg e2, if_neg (by omega)]; omega

theorem cnt_listed {f : Nat → Int} (h : Good f) (hout : ∀ j, 41 ≤ j → f j = 0) : cnt (listed f) = f := by
  funext j
  unfold listed
  rw [cnt_accK h.1 40 (by omega)]
  by_cases e : 0 < j ∧ j ≤ 40
  · rw [if_pos (by omega)]
  · rw [if_neg (by omega)]
    rcases Nat.eq_zero_or_pos j with rfl | hp
    · exact h.2.1.symm
    · exact (hout j (by omega)).symm
theorem part_listed {f : Nat → Int} (h : Good f) (hout : ∀ j, 41 ≤ j → f j = 0) : IsPart (listed f) := by
  have hm := accK_mem (f := f) 40 (by omega)
  refine ⟨goes_of_desc (fun z hz => by have := hm z hz; omega) (accK_desc 40 (by omega)), ?_⟩
  rw [← wt_cnt (listed f) (fun z hz => by have := hm z hz; omega), cnt_listed h hout]
  exact h.2.2

theorem strict_of_cnt {zs : List Int} (hd : Desc zs) (h0 : ∀ z ∈ zs, 0 ≤ z) (h : ∀ j, cnt zs j ≤ 1) : zs.Pairwise fun x y => y < x := by
  induction zs with
  | nil => exact List.Pairwise.nil
  | cons x l ih =>
    obtain ⟨hx, hl⟩ := List.pairwise_cons.1 hd
    refine List.pairwise_cons.2 ⟨fun y hy => ?_, ih hl (fun z hz => h0 z (by simp [hz])) (fun j => by have := h j; rw [cnt_cons] at this; have := cnt_nonneg l j; split at * <;> omega)⟩
    have h1 := hx y hy
    rcases (show y < x ∨ y = x by omega) with h2 | h2
    · exact h2
    · exfalso
      subst h2
      obtain ⟨m, hm⟩ : ∃ m : Nat, y = m := ⟨y.toNat, by have := h0 y (by simp); omega⟩
      have h3 := h m
      rw [cnt_cons, if_pos hm] at h3
      have h4 : 0 < l.countP (fun z => z == (m : Int)) := List.countP_pos_iff.2 ⟨y, hy, by simp [hm]⟩
      unfold cnt at h3; omega
theorem goes_strict {zs : List Int} (h1 : ∀ z ∈ zs, 0 ≤ z) (hd : zs.Pairwise fun x y => y < x) : Goes 0 1 zs := by
  intro j hj
  refine ⟨h1 _ (getD_mem hj), fun h0 => ?_⟩
  have := List.pairwise_iff_getElem.1 hd (j - 1) j (by omega) hj (by omega)
  simp only [List.getD, List.getElem?_eq_getElem hj, List.getElem?_eq_getElem (show j - 1 < zs.length by omega), Option.getD_some]; omega
theorem cnt_of_strict {zs : List Int} (h : Goes 0 1 zs) (j : Nat) : cnt zs j ≤ 1 := by
  have hs : zs.Pairwise fun x y => y < x := by
    have key : ∀ (n i : Nat), i + n < zs.length → zs.getD (i + n) 0 + n ≤ zs.getD i 0 := by
      intro n
      induction n with
      | zero => intro i _; simp
      | succ n ih =>
        intro i hi
        have h1 := ih i (by omega)
        have h2 := (h (i + n + 1) (by omega)).2 (by omega)
        rw [Nat.add_sub_cancel] at h2
        rw [show i + (n + 1) = i + n + 1 by omega]; omega
    refine List.pairwise_iff_getElem.2 (fun i j hi hj hij => ?_)
    have := key (j - i) i (by omega)
    rw [show i + (j - i) = j by omega] at this
    simp only [List.getD, List.getElem?_eq_getElem hi, List.getElem?_eq_getElem hj, Option.getD_some] at this
    omega
  clear h
  induction zs with
  | nil => rw [cnt_nil]; omega
  | cons x l ih =>
    obtain ⟨hx, hl⟩ := List.pairwise_cons.1 hs
    rw [cnt_cons]
    split
    · rename_i e
      have : l.countP (fun z => z == (j : Int)) = 0 := by
        rw [List.countP_eq_zero]; intro z hz; have := hx z hz; simp; omega
      unfold cnt; rw [this]; omega
    · have := ih hl; omega

theorem cnt_out {zs : List Int} (h : IsPart zs) : ∀ j, 41 ≤ j → cnt zs j = 0 := by
  intro j hj
  unfold cnt
  have : zs.countP (fun z => z == (j : Int)) = 0 := by
    rw [List.countP_eq_zero]; intro z hz; have := h.range z hz; simp; omega
  rw [this]; rfl
theorem cnt_even {zs : List Int} (h : evenB zs = false) : ∀ j, j % 2 = 0 → cnt zs j = 0 := by
  intro j hj
  unfold cnt
  have : zs.countP (fun z => z == (j : Int)) = 0 := by
    rw [List.countP_eq_zero]
    intro z hz
    unfold evenB at h
    rw [List.any_eq_false] at h
    have := h z hz
    simp at this
    simp; omega
  rw [this]; rfl

/-- A partition of odd parts: merged it has no two parts that are the same; split it is as it was. -/
theorem euler_there {zs : List Int} (h : IsPart zs) (ho : evenB zs = false) :
    Dist (listed (mergeTo (cnt zs) 40)) ∧ listed (splitTo (cnt (listed (mergeTo (cnt zs) 40))) 40) = zs := by
  have hG := good_cnt h
  have hM := (hG.mergeTo 40 (by omega)).1
  have hout := mergeTo_out hG (cnt_out h) 40 (by omega)
  have hp := part_listed hM hout
  refine ⟨⟨hp, goes_strict (fun z hz => by have := hp.range z hz; omega) (strict_of_cnt (desc_of_goes (Int.le_refl 0) hp.1) (fun z hz => by have := hp.range z hz; omega) (fun j => ?_))⟩, ?_⟩
  · rw [cnt_listed hM hout]
    rcases Nat.eq_zero_or_pos j with rfl | hj
    · rw [hM.2.1]; omega
    · by_cases hj2 : j ≤ 40
      · exact mergeTo_low 40 j (by omega) hj2
      · rw [hout j (by omega)]; omega
  · rw [cnt_listed hM hout, split_of_merge hG (cnt_even ho), listed_cnt h]

/-- A partition without two parts that are the same: split it has odd parts alone; merged it is as it was. -/
theorem euler_back {zs : List Int} (h : Dist zs) :
    IsPart (listed (splitTo (cnt zs) 40)) ∧ evenB (listed (splitTo (cnt zs) 40)) = false ∧ listed (mergeTo (cnt (listed (splitTo (cnt zs) 40))) 40) = zs := by
  have hG := good_cnt h.1
  have hS := (hG.splitTo 40 (by omega)).1
  have hout := splitTo_out (cnt_out h.1) 40 (by omega)
  have hp := part_listed hS hout
  refine ⟨hp, ?_, ?_⟩
  · unfold evenB
    rw [List.any_eq_false]
    intro z hz he
    have hr := hp.range z hz
    obtain ⟨m, hm⟩ : ∃ m : Nat, z = m := ⟨z.toNat, by omega⟩
    have h1 : 0 < (listed (splitTo (cnt zs) 40)).countP (fun y => y == (m : Int)) := List.countP_pos_iff.2 ⟨z, hz, by simp [hm]⟩
    have h2 : cnt (listed (splitTo (cnt zs) 40)) m = 0 := by
      rw [cnt_listed hS hout]
      exact splitTo_even (cnt_out h.1) 40 m (by omega) (by simp at he; omega) (by omega)
    have h3 : (((listed (splitTo (cnt zs) 40)).countP (fun y => y == (m : Int)) : Nat) : Int) = 0 := h2
    omega
  · rw [cnt_listed hS hout, merge_of_split hG (fun j _ => cnt_of_strict h.2 j), listed_cnt h.1]

#print axioms euler_there
#print axioms euler_back
end Go.Proofs.Ytnjbkiegeielhaa
