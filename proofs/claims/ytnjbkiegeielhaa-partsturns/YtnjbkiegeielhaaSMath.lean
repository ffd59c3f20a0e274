/-
  What a part cut in two halves, or two parts made one, leave as it was. Plain facts.
-/
import Derived.Test.YtnjbkiegeielhaaFal
namespace Go.Proofs.Ytnjbkiegeielhaa

/-- Numbers from 1 on, together at most 40, in whatever order. -/
def Small (q : List Int) : Prop := (∀ z ∈ q, 1 ≤ z) ∧ sum q ≤ 40
theorem Small.le {q : List Int} (h : Small q) : ∀ z ∈ q, 1 ≤ z ∧ z ≤ 40 := fun z hz => ⟨h.1 z hz, by have := mem_le_sum (fun z hz => by have := h.1 z hz; omega) z hz; have := h.2; omega⟩
theorem Small.len {q : List Int} (h : Small q) : q.length ≤ 40 := by have := sum_ge (m := 1) h.1; have := h.2; omega
theorem IsPart.small {q : List Int} (h : IsPart q) : Small q := ⟨fun z hz => (h.range z hz).1, h.2⟩

theorem sum_perm {a b : List Int} (h : a.Perm b) : sum a = sum b := by
  induction h with
  | nil => rfl
  | cons x _ ih => simp [sum, ih]
  | swap x y l => simp [sum]; omega
  | trans _ _ ih1 ih2 => exact ih1.trans ih2
theorem cnt_perm {a b : List Int} (h : a.Perm b) : cnt a = cnt b := by funext j; unfold cnt; rw [h.countP_eq]
theorem Small.perm {a b : List Int} (h : Small a) (hp : b.Perm a) : Small b := ⟨fun z hz => h.1 z (hp.mem_iff.1 hz), by rw [sum_perm hp]; exact h.2⟩
/-- Put in order it is what its counts list. -/
theorem fallen_listed {q r : List Int} (h : Small q) (hp : r.Perm q) (hd : Desc r) : IsPart r ∧ r = listed (cnt q) := by
  have hr := h.perm hp
  have hpart : IsPart r := ⟨goes_of_desc hr.1 hd, hr.2⟩
  exact ⟨hpart, by rw [← cnt_perm hp, listed_cnt hpart]⟩

theorem splitStep_add (f g : Nat → Int) (p : Nat) : splitStep (fun j => f j + g j) p = fun j => splitStep f p j + splitStep g p j := by
  funext j
  unfold splitStep
  by_cases h : p % 2 = 0
  · rw [if_pos h, if_pos h, if_pos h]
    by_cases h1 : j = p
    · subst h1; rw [upd_same, upd_same, upd_same]; rfl
    · rw [upd_ne _ _ h1, upd_ne _ _ h1, upd_ne _ _ h1]
      by_cases h2 : j = p / 2
      · subst h2; rw [upd_same, upd_same, upd_same]; show f (p / 2) + g (p / 2) + 2 * (f p + g p) = _; omega
      · rw [upd_ne _ _ h2, upd_ne _ _ h2, upd_ne _ _ h2]
  · rw [if_neg h, if_neg h, if_neg h]
theorem splitTo_add (f g : Nat → Int) : ∀ k, splitTo (fun j => f j + g j) k = fun j => splitTo f k j + splitTo g k j := by
  intro k
  induction k with
  | zero => rfl
  | succ k ih => rw [splitTo, ih, splitStep_add]; rfl
theorem splitStep_zero (f : Nat → Int) (p : Nat) (h : f p = 0) : splitStep f p = f := by
  unfold splitStep
  by_cases hp : p % 2 = 0
  · rw [if_pos hp, h]
    funext j
    by_cases h1 : j = p
    · subst h1; rw [upd_same, h]
    · rw [upd_ne _ _ h1]
      by_cases h2 : j = p / 2
      · subst h2; rw [upd_same]; omega
      · rw [upd_ne _ _ h2]
  · rw [if_neg hp]
/-- Two halves more, the whole less. -/
def halved (h : Nat) (j : Nat) : Int := (if j = h then 2 else 0) - (if j = 2 * h then 1 else 0)
theorem split_halved (h : Nat) (h1 : 1 ≤ h) (h2 : 2 * h ≤ 40) : splitTo (halved h) 40 = fun _ => 0 := by
  have low : ∀ k, k ≤ 40 - 2 * h → splitTo (halved h) k = halved h := by
    intro k
    induction k with
    | zero => intro _; rfl
    | succ k ih =>
      intro hk
      rw [splitTo, ih (by omega), splitStep_zero]
      unfold halved; rw [if_neg (by omega), if_neg (by omega)]; rfl
  have mid : splitTo (halved h) (40 - 2 * h + 1) = fun _ => 0 := by
    rw [splitTo, low _ (Nat.le_refl _), show 40 - (40 - 2 * h) = 2 * h by omega]
    unfold splitStep
    rw [if_pos (by omega), show 2 * h / 2 = h by omega]
    funext j
    by_cases e1 : j = 2 * h
    · subst e1; rw [upd_same]
    · rw [upd_ne _ _ e1]
      by_cases e2 : j = h
      · subst e2; rw [upd_same]; unfold halved; rw [if_pos rfl, if_neg (by omega), if_neg (by omega), if_pos rfl]; rfl
      · rw [upd_ne _ _ e2]; unfold halved; rw [if_neg e2, if_neg e1]; rfl
  have high : ∀ i, 40 - 2 * h + 1 + i ≤ 40 → splitTo (halved h) (40 - 2 * h + 1 + i) = fun _ => 0 := by
    intro i
    induction i with
    | zero => intro _; exact mid
    | succ i ih => intro hi; rw [← Nat.add_assoc, splitTo, ih (by omega)]; exact splitStep_zero (fun _ => 0) _ rfl
  have := high (2 * h - 1) (by omega)
  rwa [show 40 - 2 * h + 1 + (2 * h - 1) = 40 by omega] at this
theorem split_same {f g : Nat → Int} (h : Nat) (h1 : 1 ≤ h) (h2 : 2 * h ≤ 40) (e : ∀ j, g j = f j + halved h j) : splitTo g 40 = splitTo f 40 := by
  have : g = fun j => f j + halved h j := by funext j; exact e j
  rw [this, splitTo_add, split_halved h h1 h2]
  funext j; show _ + (0 : Int) = _; omega
theorem splitTo_odd {f : Nat → Int} (he : ∀ j, j % 2 = 0 → f j = 0) : ∀ k, splitTo f k = f := by
  intro k
  induction k with
  | zero => rfl
  | succ k ih =>
    rw [splitTo, ih]
    by_cases hp : (40 - k) % 2 = 0
    · exact splitStep_zero _ _ (he _ hp)
    · exact splitStep_stay hp

theorem cnt_set (zs : List Int) (k : Nat) (x : Int) (hk : k < zs.length) (j : Nat) : cnt (zs.set k x) j = cnt zs j - (if zs.getD k 0 = (j : Int) then 1 else 0) + (if x = (j : Int) then 1 else 0) := by
  induction zs generalizing k with
  | nil => simp at hk
  | cons z l ih =>
    cases k with
    | zero => rw [List.set_cons_zero, cnt_cons, cnt_cons, List.getD_cons_zero]; omega
    | succ k => rw [List.set_cons_succ, cnt_cons, cnt_cons, ih k (by simp at hk; omega), List.getD_cons_succ]; omega
theorem sum_set (zs : List Int) (k : Nat) (x : Int) (hk : k < zs.length) : sum (zs.set k x) = sum zs - zs.getD k 0 + x := by
  induction zs generalizing k with
  | nil => simp at hk
  | cons z l ih =>
    cases k with
    | zero => rw [List.set_cons_zero, sum, sum, List.getD_cons_zero]; omega
    | succ k => rw [List.set_cons_succ, sum, sum, ih k (by simp at hk; omega), List.getD_cons_succ]; omega

/-- A part cut in two. -/
theorem cut_two {q : List Int} (h : Small q) {i m : Nat} (hi : i < q.length) (hm : q.getD i 0 = 2 * m) :
    Small ((q.set i m) ++ [(m : Int)]) ∧ splitTo (cnt ((q.set i m) ++ [(m : Int)])) 40 = splitTo (cnt q) 40 := by
  have hr := h.le _ (getD_mem hi)
  rw [hm] at hr
  have hm1 : 1 ≤ m := by omega
  refine ⟨⟨fun z hz => ?_, ?_⟩, split_same m hm1 (by omega) (fun j => ?_)⟩
  · rcases List.mem_append.1 hz with hz | hz
    · rcases List.mem_or_eq_of_mem_set hz with hz | hz
      · exact h.1 z hz
      · omega
    · rw [List.mem_singleton] at hz; omega
  · rw [sum_append, sum_set _ _ _ hi, hm]
    have := h.2
    simp only [sum]; omega
  · rw [cnt_append, cnt_set _ _ _ hi, hm, cnt_cons, cnt_nil]
    unfold halved
    by_cases e1 : j = m
    · subst e1; rw [if_pos rfl, if_pos rfl, if_neg (by omega), if_neg (by omega)]; omega
    · rw [if_neg (show ¬ (m : Int) = (j : Int) by omega), if_neg e1]
      by_cases e2 : j = 2 * m
      · subst e2; rw [if_pos (by omega), if_pos rfl]; omega
      · rw [if_neg (by omega), if_neg e2]; omega

/-- Two parts that are the same made one. -/
theorem made_one {q : List Int} (h : Small q) {k : Nat} (hk1 : 1 ≤ k) (hk : k < q.length) (he : q.getD k 0 = q.getD (k - 1) 0) :
    Small (q.take (k - 1) ++ q.drop (k + 1) ++ [2 * q.getD k 0]) ∧ splitTo (cnt (q.take (k - 1) ++ q.drop (k + 1) ++ [2 * q.getD k 0])) 40 = splitTo (cnt q) 40 ∧ 2 * q.getD k 0 ≤ 40 ∧
      (q.take (k - 1) ++ q.drop (k + 1) ++ [2 * q.getD k 0]).length + 1 = q.length := by
  have hr := h.le _ (getD_mem hk)
  obtain ⟨m, hm⟩ : ∃ m : Nat, q.getD k 0 = m := ⟨(q.getD k 0).toNat, by omega⟩
  rw [hm] at hr he
  have hsplit : q = q.take (k - 1) ++ ((m : Int) :: (m : Int) :: q.drop (k + 1)) := by
    conv => lhs; rw [← List.take_append_drop (k - 1) q]
    rw [drop_cons q (k - 1) (by omega), show k - 1 + 1 = k by omega, drop_cons q k hk, hm, ← he]
  have hsum : sum q = sum (q.take (k - 1)) + sum (q.drop (k + 1)) + 2 * m := by
    conv => lhs; rw [hsplit]
    rw [sum_append]; simp only [sum]; omega
  have hnn : 0 ≤ sum (q.take (k - 1)) ∧ 0 ≤ sum (q.drop (k + 1)) := by
    have a1 := sum_ge (zs := q.take (k - 1)) (m := 0) (fun z hz => by have := h.1 z (List.mem_of_mem_take hz); omega)
    have a2 := sum_ge (zs := q.drop (k + 1)) (m := 0) (fun z hz => by have := h.1 z (List.mem_of_mem_drop hz); omega)
    omega
  have h40 := h.2
  rw [hm]
  refine ⟨⟨fun z hz => ?_, ?_⟩, ?_, by omega, ?_⟩
  · rcases List.mem_append.1 hz with hz | hz
    · rcases List.mem_append.1 hz with hz | hz
      · exact h.1 z (List.mem_of_mem_take hz)
      · exact h.1 z (List.mem_of_mem_drop hz)
    · rw [List.mem_singleton] at hz; omega
  · rw [sum_append, sum_append]; simp only [sum]; omega
  · refine (split_same m (by omega) (by omega) (fun j => ?_)).symm
    have hc : cnt q j = cnt (q.take (k - 1)) j + cnt (q.drop (k + 1)) j + (if (m : Int) = (j : Int) then 2 else 0) := by
      conv => lhs; rw [hsplit]
      rw [cnt_append, cnt_cons, cnt_cons]; split <;> omega
    rw [hc, cnt_append, cnt_append, cnt_cons, cnt_nil]
    unfold halved
    by_cases e1 : j = m
    · subst e1; rw [if_pos rfl, if_pos rfl, if_neg (by omega), if_neg (by omega)]; omega
    · rw [if_neg (show ¬ (m : Int) = (j : Int) by omega), if_neg e1]
      by_cases e2 : j = 2 * m
      · subst e2; rw [if_pos (by omega), if_pos rfl]; omega
      · rw [if_neg (by omega), if_neg e2]; omega
  · simp only [List.length_append, List.length_take, List.length_drop, List.length_singleton]; omega

theorem cnt_odd {q : List Int} (h : ∀ z ∈ q, z % 2 ≠ 0) : ∀ j, j % 2 = 0 → cnt q j = 0 := by
  intro j hj
  have : q.countP (fun z => z == (j : Int)) = 0 := by
    rw [List.countP_eq_zero]; intro z hz; have := h z hz; simp; omega
  unfold cnt; rw [this]; rfl

/-- All halved: what is in order is what Split lists. -/
theorem splitted_end {p q r : List Int} (hq : Small q) (hs : splitTo (cnt q) 40 = splitTo (cnt p) 40) (ho : ∀ z ∈ q, z % 2 ≠ 0) (hp : r.Perm q) (hd : Desc r) : r = listed (splitTo (cnt p) 40) := by
  rw [(fallen_listed hq hp hd).2, ← hs, splitTo_odd (cnt_odd ho)]
/-- None twice: it is what Merge lists. -/
theorem merged_end {p q : List Int} (ho : evenB p = false) (hs : splitTo (cnt q) 40 = splitTo (cnt p) 40) (hd : Dist q) : q = listed (mergeTo (cnt p) 40) := by
  have e1 := (euler_back hd).2.2
  have hG := good_cnt hd.1
  have hS := (hG.splitTo 40 (by omega)).1
  rw [cnt_listed hS (splitTo_out (cnt_out hd.1) 40 (by omega)), hs, splitTo_odd (cnt_even ho)] at e1
  exact e1.symm

#print axioms merged_end
#print axioms splitted_end
end Go.Proofs.Ytnjbkiegeielhaa
