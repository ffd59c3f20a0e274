/-
  Standard tableaux are standard; rows and columns change places twice: plain facts.
-/
import Derived.Test.YtgcagoalnhgljacDoorLMathB
namespace Go.Proofs.YtgcagoalnhgljacDoor

/-- The box (c, d) comes ahead of (a, b). -/
def Ahead (ls : List (List Int)) (c d a b : Nat) : Prop := box ls c d < box ls a b ∨ box ls c d = box ls a b ∧ d < b
theorem SS_le {ls : List (List Int)} {f g : Nat → Nat → Nat} (h : ∀ a b, a < ls.length → b < (row ls a).length → f a b ≤ g a b) : SS ls f ≤ SS ls g :=
  S_le (fun a ha => S_le (fun b hb => h a b ha hb))
theorem Ahead.trans {ls : List (List Int)} {a b c d e f : Nat} (h : Ahead ls a b c d) (k : Ahead ls c d e f) : Ahead ls a b e f := by
  unfold Ahead at *; omega
theorem Ahead.irrefl {ls : List (List Int)} {a b : Nat} : ¬ Ahead ls a b a b := by unfold Ahead; omega
theorem ahead_total {ls : List (List Int)} (h : IsTab ls) {a b c d : Nat} (ha : a < ls.length) (hb : b < (row ls a).length) (hc : c < ls.length) (hd : d < (row ls c).length) (hne : ¬ (a = c ∧ b = d)) : Ahead ls a b c d ∨ Ahead ls c d a b := by
  unfold Ahead
  by_cases e : box ls a b = box ls c d
  · by_cases e2 : b = d
    · subst e2
      rcases Nat.lt_trichotomy a c with h1 | h1 | h1
      · have := h.column h1 hc hd; omega
      · exact absurd ⟨h1, rfl⟩ hne
      · have := h.column h1 ha hb; omega
    · omega
  · omega
theorem num_lt {ls : List (List Int)} {a b c d : Nat} (ha : a < ls.length) (hb : b < (row ls a).length) (h : Ahead ls a b c d) : numAt ls a b < numAt ls c d := by
  unfold numAt
  have h1 : SS ls (fun p q => ind (p = a ∧ q = b)) = 1 := SS_just ha hb (ind_pos ⟨rfl, rfl⟩) (fun p q _ _ hn => ind_neg hn)
  have h2 : SS ls (fun p q => ind (box ls p q < box ls a b ∨ box ls p q = box ls a b ∧ q < b)) + SS ls (fun p q => ind (p = a ∧ q = b)) ≤ SS ls (fun p q => ind (box ls p q < box ls c d ∨ box ls p q = box ls c d ∧ q < d)) := by
    rw [← SS_add]
    refine SS_le (fun p q _ _ => ?_)
    by_cases e : p = a ∧ q = b
    · have h3 : ind (box ls p q < box ls a b ∨ box ls p q = box ls a b ∧ q < b) = 0 := ind_neg (by rw [e.1, e.2]; omega)
      have h4 : ind (box ls p q < box ls c d ∨ box ls p q = box ls c d ∧ q < d) = 1 := ind_pos (by rw [e.1, e.2]; exact h)
      rw [ind_pos e, h3, h4]; omega
    · rw [ind_neg e]
      by_cases e2 : box ls p q < box ls a b ∨ box ls p q = box ls a b ∧ q < b
      · have h4 : ind (box ls p q < box ls c d ∨ box ls p q = box ls c d ∧ q < d) = 1 := ind_pos (Ahead.trans (show Ahead ls p q a b from e2) h)
        rw [ind_pos e2, h4]; omega
      · rw [ind_neg e2]; omega
  omega
theorem num_le {ls : List (List Int)} {a b : Nat} (ha : a < ls.length) (hb : b < (row ls a).length) : numAt ls a b ≤ ls.flatten.length := by
  unfold numAt
  have h1 : SS ls (fun p q => ind (p = a ∧ q = b)) = 1 := SS_just ha hb (ind_pos ⟨rfl, rfl⟩) (fun p q _ _ hn => ind_neg hn)
  have h2 : SS ls (fun p q => ind (box ls p q < box ls a b ∨ box ls p q = box ls a b ∧ q < b)) + SS ls (fun p q => ind (p = a ∧ q = b)) ≤ SS ls (fun _ _ => 1) := by
    rw [← SS_add]
    refine SS_le (fun p q _ _ => ?_)
    by_cases e : p = a ∧ q = b
    · have h3 : ind (box ls p q < box ls a b ∨ box ls p q = box ls a b ∧ q < b) = 0 := ind_neg (by rw [e.1, e.2]; omega)
      rw [ind_pos e, h3]; omega
    · rw [ind_neg e]; have := ind_le (box ls p q < box ls a b ∨ box ls p q = box ls a b ∧ q < b); omega
  have h3 : SS ls (fun _ _ => 1) = ls.flatten.countP (fun _ => true) := by
    rw [← SS_flat]; exact SS_congr (fun a b _ _ => by simp [ind])
  have : ls.flatten.countP (fun _ => true) ≤ ls.flatten.length := List.countP_le_length
  omega
theorem num_inj {ls : List (List Int)} (h : IsTab ls) {a b c d : Nat} (ha : a < ls.length) (hb : b < (row ls a).length) (hc : c < ls.length) (hd : d < (row ls c).length) (e : numAt ls a b = numAt ls c d) : a = c ∧ b = d := by
  by_cases hne : a = c ∧ b = d
  · exact hne
  · rcases ahead_total h ha hb hc hd hne with h1 | h1
    · have := num_lt ha hb h1; omega
    · have := num_lt hc hd h1; omega

theorem flat_len (ls : List (List Int)) : ls.flatten.length = S ls.length (fun a => (row ls a).length) := by
  have h3 : SS ls (fun _ _ => 1) = ls.flatten.countP (fun _ => true) := by
    rw [← SS_flat]; exact SS_congr (fun a b _ _ => by simp [ind])
  have h4 : ls.flatten.countP (fun _ => true) = ls.flatten.length := by simp
  rw [← h4, ← h3]
  unfold SS
  exact S_congr (fun a _ => S_one _)
theorem tab2_flat (ls : List (List Int)) (f : Nat → Nat → Int) : (tab2 ls f).flatten.length = ls.flatten.length := by
  rw [flat_len, flat_len, tab2_length]
  exact S_congr (fun a ha => by rw [tab2_row ha, tab_length])
theorem tab2_SS (ls : List (List Int)) (f : Nat → Nat → Int) (g : Nat → Nat → Nat) : SS (tab2 ls f) g = SS ls g := by
  unfold SS
  rw [tab2_length]
  exact S_congr (fun a ha => by rw [tab2_row ha, tab_length])
theorem num_box {ls : List (List Int)} {a b : Nat} (ha : a < ls.length) (hb : b < (row ls a).length) : box (numbered ls) a b = (numAt ls a b : Nat) := tab2_box ha hb
theorem numbered_tab {ls : List (List Int)} (h : IsTab ls) : IsTab (numbered ls) := by
  refine ⟨by unfold numbered; rw [tab2_flat]; exact h.few, fun i hi => ?_⟩
  have hi' : i < ls.length := by unfold numbered at hi; rwa [tab2_length] at hi
  have hr : ∀ a, a < ls.length → (row (numbered ls) a).length = (row ls a).length := fun a ha => by unfold numbered; rw [tab2_row ha, tab_length]
  have hk := h.ok i hi'
  have hup : 0 < i → (upOf (numbered ls) i).length = (upOf ls i).length := fun h0 => by
    unfold upOf; rw [if_neg (by omega), if_neg (by omega)]; exact hr (i - 1) (by omega)
  refine ⟨by rw [hr i hi']; exact hk.one, fun h0 => by rw [hr i hi', hup h0]; exact hk.len h0, fun j hj => ?_, fun j hj => ?_, fun h0 j hj => ?_⟩
  · rw [hr i hi'] at hj
    have e := num_box hi' hj
    unfold box at e
    rw [e]
    have h1 := numAt_bd ls i j
    have h2 := num_le hi' hj
    have := h.few; omega
  · rw [hr i hi'] at hj
    have e1 := num_box hi' (show j < (row ls i).length by omega)
    have e2 := num_box hi' hj
    unfold box at e1 e2
    rw [e1, e2]
    have := num_lt hi' (show j < (row ls i).length by omega) (c := i) (d := j + 1) (by
      have := hk.rise j hj
      show box ls i j < box ls i (j + 1) ∨ _
      have : box ls i j ≤ box ls i (j + 1) := this
      omega)
    omega
  · rw [hr i hi'] at hj
    obtain ⟨p, rfl⟩ : ∃ p, i = p + 1 := ⟨i - 1, by omega⟩
    have hp : p < ls.length := by omega
    have hjp : j < (row ls p).length := by have := h.shorter (a := p) (b := p + 1) (by omega) hi'; omega
    rw [upOf_succ]
    have e1 := num_box hp hjp
    have e2 := num_box hi' hj
    unfold box at e1 e2
    rw [e1, e2]
    have := num_lt hp hjp (c := p + 1) (d := j) (Or.inl (h.column (by omega) hi' hj))
    omega
theorem numbered_std {ls : List (List Int)} (h : IsTab ls) : onesB (had (numbered ls).flatten) = true := by
  have hT := numbered_tab h
  rw [ones_perm (fun z hz => (hT.mem hz).1)]
  unfold okPerm
  rw [decide_eq_true_eq]
  have hl : (numbered ls).flatten.length = ls.flatten.length := by unfold numbered; exact tab2_flat _ _
  constructor
  · intro z hz
    obtain ⟨a, b, ha, hb, rfl⟩ := flat_mem hz
    unfold numbered at ha hb
    rw [tab2_length] at ha
    rw [tab2_row ha, tab_length] at hb
    rw [num_box ha hb, hl]
    have h1 := numAt_bd ls a b
    have h2 := num_le ha hb
    omega
  · rw [List.nodup_iff_count]
    intro v
    have e : (numbered ls).flatten.count v = SS ls (fun a b => ind (((numAt ls a b : Nat) : Int) = v)) := by
      rw [List.count, ← SS_flat]
      unfold numbered
      rw [tab2_SS]
      exact SS_congr (fun a b ha hb => by
        have : box (tab2 ls (fun a b => ((numAt ls a b : Nat) : Int))) a b = (numAt ls a b : Nat) := tab2_box ha hb
        rw [this]; exact ind_iff (by simp))
    rw [e]
    by_cases hex : ∃ a b, a < ls.length ∧ b < (row ls a).length ∧ ((numAt ls a b : Nat) : Int) = v
    · obtain ⟨a, b, ha, hb, hv⟩ := hex
      have := SS_just (f := fun a b => ind (((numAt ls a b : Nat) : Int) = v)) ha hb (ind_pos hv) (fun c d hc hd hn => ind_neg (fun (hv2 : ((numAt ls c d : Nat) : Int) = v) => hn (num_inj h hc hd ha hb (by omega))))
      omega
    · rw [SS_zero (fun a b ha hb => ind_neg (fun hv => hex ⟨a, b, ha, hb, hv⟩))]; omega
theorem numbered_twice {ls : List (List Int)} (h : IsTab ls) : numbered (numbered ls) = numbered ls := by
  have key : ∀ a b, a < ls.length → b < (row ls a).length → numAt (numbered ls) a b = numAt ls a b := by
    intro a b ha hb
    have e : numAt (numbered ls) a b = 1 + SS ls (fun c d => ind (box (numbered ls) c d < box (numbered ls) a b ∨ box (numbered ls) c d = box (numbered ls) a b ∧ d < b)) := by
      show 1 + SS (tab2 ls (fun a b => ((numAt ls a b : Nat) : Int))) _ = _
      rw [tab2_SS]
    rw [e]
    unfold numAt
    congr 1
    refine SS_congr (fun c d hc hd => ind_iff ?_)
    rw [num_box hc hd, num_box ha hb]
    constructor
    · intro hh
      by_cases hne : c = a ∧ d = b
      · obtain ⟨rfl, rfl⟩ := hne
        rcases hh with hh | hh <;> omega
      · rcases ahead_total h hc hd ha hb hne with h1 | h1
        · exact h1
        · have := num_lt ha hb h1
          rcases hh with hh | hh <;> omega
    · intro hh
      have := num_lt hc hd (show Ahead ls c d a b from hh)
      left; omega
  show tab2 (numbered ls) (fun a b => ((numAt (numbered ls) a b : Nat) : Int)) = numbered ls
  have e : ∀ (f : Nat → Nat → Int), tab2 (numbered ls) f = tab2 ls f := fun f => by
    have hl : (numbered ls).length = ls.length := tab2_length _ _
    unfold tab2
    rw [hl]
    refine List.map_congr_left (fun a ha => ?_)
    have : (row (numbered ls) a).length = (row ls a).length := by unfold numbered; rw [tab2_row (List.mem_range.1 ha), tab_length]
    rw [this]
  rw [e]
  unfold numbered
  exact tab2_congr (fun a b ha hb => by rw [← key a b ha hb]; rfl)

-- Columns twice.
theorem col_get {ls : List (List Int)} (h : IsTab ls) (c : Nat) : ∀ k, k ≤ ls.length → ∀ a, (colOf (ls.take k) c)[a]? = if a < k then (row ls a)[c]? else none := by
  intro k
  induction k with
  | zero => intro _ a; rw [colOf_zero]; simp
  | succ k ih =>
    intro hk a
    have ih := ih (by omega)
    rw [colOf_take (by omega)]
    by_cases hc : c < (row ls k).length
    · rw [if_pos hc]
      have hlen : (colOf (ls.take k) c).length = k := by
        have h1 := colOf_le (ls.take k) c
        rw [List.length_take] at h1
        rcases Nat.eq_zero_or_pos k with h0 | h0
        · omega
        · have h2 := ih (k - 1)
          rw [if_pos (by omega)] at h2
          have h3 : c < (row ls (k - 1)).length := by have := h.shorter (a := k - 1) (b := k) (by omega) (by omega); omega
          rw [List.getElem?_eq_getElem h3] at h2
          have := (List.getElem?_eq_some_iff.1 h2).1
          omega
      rw [List.getElem?_append]
      by_cases h1 : a < k
      · rw [if_pos (by omega), ih a, if_pos h1, if_pos (by omega)]
      · rw [if_neg (by omega), hlen]
        by_cases h2 : a = k
        · subst h2
          rw [if_pos (by omega), Nat.sub_self, List.getElem?_eq_getElem hc]
          simp [box, List.getD, List.getElem?_eq_getElem hc]
        · rw [if_neg (by omega), List.getElem?_eq_none (by simp; omega)]
    · rw [if_neg hc, List.append_nil, ih a]
      by_cases h1 : a < k
      · rw [if_pos h1, if_pos (by omega)]
      · rw [if_neg h1]
        by_cases h2 : a = k
        · subst h2; rw [if_pos (by omega), List.getElem?_eq_none (by omega)]
        · rw [if_neg (by omega)]
theorem col_get_all {ls : List (List Int)} (h : IsTab ls) (c a : Nat) : (colOf ls c)[a]? = (row ls a)[c]? := by
  have := col_get h c ls.length (Nat.le_refl _) a
  rw [List.take_length] at this
  rw [this]
  by_cases ha : a < ls.length
  · rw [if_pos ha]
  · rw [if_neg ha, row_out (by omega)]; simp
theorem range_get (l : List Int) : ∀ n, (List.range n).filterMap (fun c => l[c]?) = l.take n := by
  intro n
  induction n with
  | zero => simp
  | succ n ih =>
    rw [List.range_succ, List.filterMap_append, ih, List.take_add_one]
    cases e : l[n]? <;> simp [e]
theorem cols_twice {ls : List (List Int)} (h : IsTab ls) : cols (cols ls) = ls := by
  have hcol : ∀ a, colOf (cols ls) a = (row ls a).take (width ls) := fun a => by
    unfold colOf cols
    rw [List.filterMap_map, ← range_get]
    have e : ((fun r : List Int => r[a]?) ∘ colOf ls) = fun c => (row ls a)[c]? := by
      funext c
      exact col_get_all h c a
    rw [e]
  by_cases h0 : 0 < ls.length
  · have hw : 0 < width ls := (h.ok 0 h0).one
    have hw2 : width (cols ls) = ls.length := by
      unfold width
      rw [cols_row hw]
      refine Nat.le_antisymm (colOf_le _ _) ?_
      have h1 := col_get_all h 0 (ls.length - 1)
      have h2 := (h.ok (ls.length - 1) (by omega)).one
      rw [List.getElem?_eq_getElem h2] at h1
      have := (List.getElem?_eq_some_iff.1 h1).1
      omega
    refine ext_row (by rw [cols_length, hw2]) (fun a ha => ?_)
    rw [cols_length] at ha
    rw [cols_row ha, hcol]
    rw [hw2] at ha
    exact List.take_of_length_le (row_le_width h ha)
  · have : ls = [] := List.eq_nil_of_length_eq_zero (by omega)
    subst this
    rfl

end Go.Proofs.YtgcagoalnhgljacDoor
