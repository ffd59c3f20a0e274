/-
  Pairs taken out are in order, and make the same two tableaux: plain facts.
-/
import Derived.Test.YtpbkidgdpejenaeIPair
namespace Go.Proofs.Ytpbkidgdpejenae

theorem ins_has {s : Bool} : ∀ {ls : List (List Int)} {x : Int}, x ∈ (ins s x ls).flatten ∧ ∀ z ∈ ls.flatten, z ∈ (ins s x ls).flatten := by
  intro ls
  induction ls with
  | nil => intro x; simp [ins]
  | cons r t ih =>
    intro x
    simp only [ins]
    by_cases e : spot s x r = r.length
    · rw [if_pos e]
      refine ⟨by simp, fun z hz => ?_⟩
      rw [List.flatten_cons, List.mem_append] at hz ⊢
      rcases hz with hz | hz
      · left; exact List.mem_append_left _ hz
      · exact Or.inr hz
    · rw [if_neg e]
      have hlt : spot s x r < r.length := by have := spot_le s x r; omega
      obtain ⟨i1, i2⟩ := @ih (r.getD (spot s x r) 0)
      refine ⟨?_, fun z hz => ?_⟩
      · rw [List.flatten_cons, List.mem_append]; left; exact List.mem_set hlt _
      · rw [List.flatten_cons, List.mem_append] at hz ⊢
        rcases hz with hz | hz
        · obtain ⟨k, hk, rfl⟩ := List.mem_iff_getElem.1 hz
          by_cases e2 : k = spot s x r
          · right
            have : r.getD (spot s x r) 0 = r[k] := by simp [List.getD, ← e2, List.getElem?_eq_getElem hk]
            rw [this] at i1 ⊢; exact i1
          · left
            refine List.mem_iff_getElem.2 ⟨k, by simpa using hk, ?_⟩
            rw [List.getElem_set_ne (by omega)]
        · exact Or.inr (i2 z hz)

theorem tk_length {q : List (List Int)} {i : Nat} (hi : i < q.length) : (tk q i).length = if (row q i).length ≤ 1 then i else q.length := by
  unfold tk
  split
  · simp; omega
  · simp
theorem take_row {q : List (List Int)} {i a : Nat} : row (q.take i) a = if a < i then row q a else [] := by
  unfold row
  simp only [List.getD, List.getElem?_take]
  split <;> rfl
/-- A corner's letter taken out: the rows. -/
theorem tk_row {q : List (List Int)} (h : Shp q) {i : Nat} (hi : i < q.length) (hc : (row q (i + 1)).length < (row q i).length) (a : Nat) : row (tk q i) a = if a = i then (row q i).dropLast else row q a := by
  unfold tk
  by_cases e : (row q i).length ≤ 1
  · rw [if_pos e, take_row]
    by_cases e2 : a = i
    · rw [if_neg (by omega), if_pos e2]
      exact (List.eq_nil_of_length_eq_zero (by simp; omega)).symm
    · rw [if_neg e2]
      by_cases e3 : a < i
      · rw [if_pos e3]
      · rw [if_neg e3]
        have := h.shorter' (a := i + 1) (b := a) (by omega)
        exact (List.eq_nil_of_length_eq_zero (by omega)).symm
  · rw [if_neg e, row_set]
    by_cases e2 : a = i
    · rw [if_pos ⟨e2, hi⟩, if_pos e2]
    · rw [if_neg (fun k => e2 k.1), if_neg e2]
theorem lng_tk {q : List (List Int)} (h : Shp q) {i : Nat} (hi : i < q.length) (hc : (row q (i + 1)).length < (row q i).length) : lng (tk q i) i (lastOf (row q i)) = q ∧ i ≤ (tk q i).length := by
  have hp := h.one i hi
  have hle : i ≤ (tk q i).length := by rw [tk_length hi]; split <;> omega
  refine ⟨?_, hle⟩
  have hlast : (row q i).length ≤ 1 → i + 1 = q.length := fun e => by
    refine Nat.le_antisymm (by omega) (Nat.le_of_not_lt (fun hlt => ?_))
    have := h.one (i + 1) hlt; omega
  refine ext_row ?_ (fun a _ => ?_)
  · rw [lng_length, tk_length hi]
    by_cases e : (row q i).length ≤ 1
    · rw [if_pos e, if_pos rfl, hlast e]
    · rw [if_neg e, if_neg (by omega)]
  · rw [lng_row hle, tk_row h hi hc, tk_row h hi hc]
    by_cases e : a = i
    · rw [if_pos e, if_pos rfl, e, drop_last hp]
    · rw [if_neg e, if_neg e]
theorem tk_T {q : List (List Int)} (h : T q) {i : Nat} (hi : i < q.length) (hc : (row q (i + 1)).length < (row q i).length) : T (tk q i) := by
  refine T_row.2 (fun a ha => ?_)
  have hr := tk_row h.shp hi hc
  rw [tk_length hi] at ha
  rw [hr, hr]
  by_cases e : a = i
  · subst e
    obtain ⟨r1, r2, r3⟩ := T_row.1 h a hi
    rw [if_pos rfl, if_neg (by omega)]
    have hlen : ¬ (row q a).length ≤ 1 := fun k => by rw [if_pos k] at ha; omega
    refine ⟨by rw [List.length_dropLast]; omega, fun j hj => ?_, ⟨by rw [List.length_dropLast]; omega, fun j hj => ?_⟩⟩
    · rw [List.length_dropLast] at hj
      rw [getD_drop, getD_drop, if_pos (by omega), if_pos (by omega)]; exact r2 j (by omega)
    · rw [getD_drop, if_pos (by omega)]; exact r3.2 j hj
  · have ha' : a < q.length := by split at ha <;> omega
    obtain ⟨r1, r2, r3⟩ := T_row.1 h a ha'
    rw [if_neg e]
    refine ⟨r1, r2, ?_⟩
    by_cases e2 : a + 1 = i
    · rw [if_pos e2, ← e2]
      refine ⟨by rw [List.length_dropLast]; have := r3.1; omega, fun j hj => ?_⟩
      rw [List.length_dropLast] at hj
      rw [getD_drop, if_pos (by omega)]; exact r3.2 j (by omega)
    · rw [if_neg e2]; exact r3

theorem ordered_snoc {l : List (Int × Int)} {c : Int × Int} (h : Ordered l) (hc : ∀ d, l.getLast? = some d → Ord2 d c) : Ordered (l ++ [c]) := by
  intro i hi
  rw [List.length_append, List.length_singleton] at hi
  simp only [List.getD, List.getElem?_append]
  by_cases e : i + 1 < l.length
  · rw [if_pos (by omega), if_pos e]
    exact h i e
  · rw [if_pos (by omega), if_neg e, show i + 1 - l.length = 0 by omega]
    have e2 : l.getLast? = some l[i] := by
      rw [List.getLast?_eq_getElem?, show l.length - 1 = i by omega, List.getElem?_eq_getElem (by omega)]
    rw [List.getElem?_eq_getElem (show i < l.length by omega)]
    exact hc _ e2

theorem undo_mk : ∀ (n : Nat) (p q : List (List Int)), T p → T q → (∀ i, (row p i).length = (row q i).length) → p.length = q.length → q.flatten.length = n →
    mk (undo n p q) = (p, q) ∧ Ordered (undo n p q) ∧ ∀ c ∈ undo n p q, c.1 ∈ q.flatten ∧ c.2 ∈ p.flatten := by
  intro n
  induction n with
  | zero =>
    intro p q hp hq _ hl hf
    have hq0 : q = [] := by
      cases q with
      | nil => rfl
      | cons r t => have := hq.1; rw [List.flatten_cons, List.length_append] at hf; omega
    have hp0 : p = [] := List.eq_nil_of_length_eq_zero (by rw [hl, hq0]; rfl)
    subst hq0; subst hp0
    exact ⟨rfl, fun i hi => absurd hi (by simp [undo]), fun c hc => by simp [undo] at hc⟩
  | succ n ih =>
    intro p q hp hq hs hl hf
    have h0 : 0 < q.length := Nat.pos_of_ne_zero (fun e => by rw [List.eq_nil_of_length_eq_zero e] at hf; simp at hf)
    have ht := top_is h0
    have hc := corner_top hq h0
    have hip : top q < p.length := by rw [hl]; exact ht.lt
    have hcp : (row p (top q + 1)).length < (row p (top q)).length := by rw [hs, hs]; exact hc
    obtain ⟨u1, u2, u3, c0, u4⟩ := un_T hp hip hcp
    simp only [undo]
    obtain ⟨i, hi⟩ : ∃ i, i = top q := ⟨_, rfl⟩
    obtain ⟨b, hb⟩ : ∃ b, b = (un (top q) p).1 := ⟨_, rfl⟩
    obtain ⟨p', hp'⟩ : ∃ p', p' = (un (top q) p).2 := ⟨_, rfl⟩
    rw [← hb, ← hp'] at u2 u3
    rw [← hp'] at u1
    rw [← hb, ← hp']
    rw [← hi] at u3 ht hc hip hcp ⊢
    have hq1 := tk_T hq ht.lt hc
    obtain ⟨hq2, hq3⟩ := lng_tk hq.shp ht.lt hc
    have hqr := tk_row hq.shp ht.lt hc
    have hcor := at_corner (x := b) u1
    rw [u2, u3] at hcor
    have hone : 0 < (row q i).length := hq.shp.one i ht.lt
    have hs' : ∀ k, (row p' k).length = (row (tk q i) k).length := fun k => by
      have h1 := hcor k
      have h2 := hs k
      rw [hqr]
      by_cases e : k = i
      · subst e; rw [if_pos rfl] at h1 ⊢; rw [List.length_dropLast]; omega
      · rw [if_neg e] at h1 ⊢; omega
    have hl' : p'.length = (tk q i).length := by
      have f1 : ∀ {A B : List (List Int)}, (∀ k, k < A.length → 0 < (row A k).length) → (∀ k, (row A k).length = (row B k).length) → A.length ≤ B.length := fun {A B} hA hAB => by
        refine Nat.le_of_not_lt (fun hlt => ?_)
        have := hA B.length hlt
        rw [hAB, row_out (Nat.le_refl _)] at this; simp at this
      exact Nat.le_antisymm (f1 u1.shp.one hs') (f1 hq1.shp.one (fun k => (hs' k).symm))
    have hf' : (tk q i).flatten.length = n := by
      have := (lng_flat hq3 (lastOf (row q i))).1
      rw [hq2] at this; omega
    obtain ⟨m1, m2, m3⟩ := ih p' (tk q i) u1 hq1 hs' hl' hf'
    have hsubq : ∀ z ∈ (tk q i).flatten, z ∈ q.flatten := fun z hz => by
      obtain ⟨a, c, ha, hc2, rfl⟩ := flat_mem hz
      unfold box
      rw [hqr] at hc2 ⊢
      have ha' : a < q.length := by rw [tk_length ht.lt] at ha; split at ha <;> have := ht.lt <;> omega
      by_cases e : a = i
      · rw [if_pos e] at hc2 ⊢
        rw [List.length_dropLast] at hc2
        rw [getD_drop, if_pos (by omega)]
        exact box_mem ht.lt (by omega)
      · rw [if_neg e] at hc2 ⊢
        exact box_mem ha' hc2
    have hbp : b ∈ p.flatten := by rw [← u2]; exact ins_has.1
    have hsubp : ∀ z ∈ p'.flatten, z ∈ p.flatten := fun z hz => by rw [← u2]; exact ins_has.2 z hz
    have hamem : lastOf (row q i) ∈ q.flatten := box_mem ht.lt (show (row q i).length - 1 < (row q i).length by omega)
    have hmax : ∀ z ∈ q.flatten, z ≤ lastOf (row q i) := fun z hz => by
      obtain ⟨a, c, ha, hc2, rfl⟩ := flat_mem hz
      exact Int.le_trans (row_le_last (T_row.1 hq a ha).2.1 hc2) (ht.most a ha)
    refine ⟨?_, ordered_snoc m2 (fun d hd => ?_), fun c hc2 => ?_⟩
    · rw [mk_snoc, m1]
      unfold put1
      simp only
      rw [u2, u3, hq2]
    · cases n with
      | zero => simp [undo] at hd
      | succ n =>
        simp only [undo] at hd
        rw [List.getLast?_concat] at hd
        cases hd
        have h0' : 0 < (tk q i).length := Nat.pos_of_ne_zero (fun e => by rw [List.eq_nil_of_length_eq_zero e] at hf'; simp at hf')
        have ht' := top_is h0'
        have hc' := corner_top hq1 h0'
        obtain ⟨v1, v2, v3, _⟩ := un_T u1 (by rw [hl']; exact ht'.lt) (by rw [hs', hs']; exact hc')
        obtain ⟨i', hi'⟩ : ∃ i', i' = top (tk q i) := ⟨_, rfl⟩
        rw [← hi'] at ht' v1 v2 v3 ⊢
        have hmem' : lastOf (row (tk q i) i') ∈ (tk q i).flatten := box_mem ht'.lt (by have := hq1.shp.one i' ht'.lt; omega)
        have hle := hmax _ (hsubq _ hmem')
        unfold Ord2
        simp only
        by_cases e : lastOf (row (tk q i) i') < lastOf (row q i)
        · exact Or.inl e
        · right
          refine ⟨by omega, Int.not_lt.1 (fun hlt => ?_)⟩
          have k1 := at_lt (x := (un i' p').1) (y := b) v1 hlt
          rw [v2, v3, u3] at k1
          have k2 := ht.first i' k1
          rw [hqr, if_neg (by omega)] at e
          omega
    · rcases List.mem_append.1 hc2 with k | k
      · obtain ⟨k1, k2⟩ := m3 c k
        exact ⟨hsubq _ k1, hsubp _ k2⟩
      · simp at k
        subst k
        exact ⟨hamem, hbp⟩

/-- Two tableaux of one shape, by their rows' lengths. -/
theorem lens_of_shape {p q : List (List Int)} (h : p.map List.length = q.map List.length) : (∀ i, (row p i).length = (row q i).length) ∧ p.length = q.length := by
  have hl : p.length = q.length := by have := congrArg List.length h; simpa using this
  refine ⟨fun i => ?_, hl⟩
  by_cases hi : i < p.length
  · have := congrArg (fun l => l[i]?) h
    simp only [List.getElem?_map, List.getElem?_eq_getElem hi, List.getElem?_eq_getElem (show i < q.length by omega), Option.map_some, Option.some.injEq] at this
    simp [row, List.getD, List.getElem?_eq_getElem hi, List.getElem?_eq_getElem (show i < q.length by omega), this]
  · rw [row_out (by omega), row_out (by omega)]

theorem lng_perm {ls : List (List Int)} {i : Nat} (hi : i ≤ ls.length) (x : Int) : (lng ls i x).flatten.Perm (x :: ls.flatten) := by
  unfold lng
  by_cases e : i = ls.length
  · rw [if_pos e, List.flatten_append]
    simp
  · rw [if_neg e, List.set_eq_take_append_cons_drop, if_pos (by omega)]
    have e2 : ls = ls.take i ++ row ls i :: ls.drop (i + 1) := by
      conv => lhs; rw [← List.take_append_drop i ls]
      rw [List.drop_eq_getElem_cons (by omega)]; simp [row, List.getD, List.getElem?_eq_getElem (show i < ls.length by omega)]
    conv => rhs; rw [e2]
    simp only [List.flatten_append, List.flatten_cons, List.append_assoc]
    refine (List.Perm.append_left _ ?_).trans (List.perm_middle)
    rw [List.singleton_append]
    exact List.perm_middle

theorem mk_perm : ∀ (n : Nat) (l : List (Int × Int)), l.length = n → Ordered l → (mk l).2.flatten.Perm (l.map Prod.fst) := by
  intro n
  induction n with
  | zero => intro l hl _; rw [List.eq_nil_of_length_eq_zero hl]; exact List.Perm.refl _
  | succ n ih =>
    intro l hl ho
    have hne : l ≠ [] := fun e => by rw [e] at hl; simp at hl
    obtain ⟨f, c, rfl⟩ : ∃ f c, l = f ++ [c] := ⟨l.dropLast, l.getLast hne, (List.dropLast_concat_getLast hne).symm⟩
    obtain ⟨o1, _⟩ := ordered_front ho
    have hm := (mk_made n f (by simpa using hl) o1).1
    rw [mk_snoc]
    unfold put1
    simp only
    refine (lng_perm (by rw [← hm.len]; exact insAt_le) _).trans ?_
    rw [List.map_append]
    exact ((ih f (by simpa using hl) o1).cons _).trans (List.perm_append_comm (l₁ := [c.1]) (l₂ := f.map Prod.fst))
theorem mk_letters : ∀ (n : Nat) (l : List (Int × Int)), l.length = n → (∀ z ∈ (mk l).1.flatten, z ∈ l.map Prod.snd) ∧ (mk l).1.flatten.length = n := by
  intro n
  induction n with
  | zero => intro l hl; rw [List.eq_nil_of_length_eq_zero hl]; exact ⟨fun z hz => by simp [mk] at hz, rfl⟩
  | succ n ih =>
    intro l hl
    have hne : l ≠ [] := fun e => by rw [e] at hl; simp at hl
    obtain ⟨f, c, rfl⟩ : ∃ f c, l = f ++ [c] := ⟨l.dropLast, l.getLast hne, (List.dropLast_concat_getLast hne).symm⟩
    obtain ⟨m1, m2⟩ := ih f (by simpa using hl)
    rw [mk_snoc]
    unfold put1
    simp only
    refine ⟨fun z hz => ?_, by rw [ins_count, m2]⟩
    rw [List.map_append, List.mem_append]
    rcases ins_mem hz with e | e
    · right; simp [e]
    · exact Or.inl (m1 z e)

end Go.Proofs.Ytpbkidgdpejenae
