/-
  SCHUETZENBERGER'S evacuation, slide by slide, is the word turned over: plain facts.
-/
import Derived.Test.YtpbkidgdpejenaeSStd
namespace Go.Proofs.Ytpbkidgdpejenae

theorem nodup_filter (p : Int → Bool) {w : List Int} (h : w.Nodup) : (w.filter p).Nodup := List.Pairwise.sublist List.filter_sublist h

/-- A standard tableau of n boxes. -/
structure Std (n : Nat) (t : List (List Int)) : Prop where
  tab : T t
  perm : IsPerm (wrd t)
  len : (wrd t).length = n
theorem Std.low {n : Nat} {t : List (List Int)} (h : Std n t) : ∀ z ∈ wrd t, 1 ≤ z ∧ z ≤ n := fun z hz => ⟨h.perm.low z hz, by have := h.perm.high z hz; rw [h.len] at this; exact this⟩
theorem Std.all {n : Nat} {t : List (List Int)} (h : Std n t) {v : Int} (h1 : 1 ≤ v) (h2 : v ≤ n) : v ∈ wrd t := h.perm.all h1 (by rw [h.len]; exact h2)
theorem perm_isPerm {u v : List Int} (h : u.Perm v) (hv : IsPerm v) : IsPerm u :=
  ⟨by rw [h.length_eq]; exact hv.len, fun z hz => hv.low z (h.mem_iff.1 hz), fun z hz => by rw [h.length_eq]; exact hv.high z (h.mem_iff.1 hz), h.nodup_iff.2 hv.once⟩

theorem star_filter (c k : Int) (w : List Int) : (star c w).filter (fun z => decide (z ≤ k)) = star c (w.filter (fun z => decide (c - k ≤ z))) := by
  unfold star
  rw [List.filter_reverse, List.filter_map]
  congr 2
  refine List.filter_congr (fun z _ => ?_)
  simp only [Function.comp_apply]
  exact decide_eq_decide.2 (by omega)
theorem star_perm {n : Nat} {w : List Int} (h : IsPerm w) (hl : w.length = n) : IsPerm (star (n + 1) w) := by
  refine ⟨by simp [star]; exact h.len, fun z hz => ?_, fun z hz => ?_, ?_⟩
  · simp [star] at hz
    obtain ⟨y, hy, rfl⟩ := hz
    have := h.high y hy; rw [hl] at this; omega
  · simp [star] at hz ⊢
    obtain ⟨y, hy, rfl⟩ := hz
    have := h.low y hy; omega
  · unfold star
    have := h.once
    refine (List.reverse_perm _).nodup_iff.2 ?_
    unfold List.Nodup at this ⊢
    rw [List.pairwise_map]
    exact this.imp (fun p => by omega)

/-- The word turned over, put in. -/
def evT (n : Nat) (t : List (List Int)) : List (List Int) := insW [] (star (n + 1) (wrd t))
theorem evT_word (n : Nat) (t : List (List Int)) : Eqv (wrd (evT n t)) (star (n + 1) (wrd t)) := (eqv_word _).symm
theorem evT_std {n : Nat} {t : List (List Int)} (h : Std n t) : Std n (evT n t) := by
  have hp := (evT_word n t).perm
  exact ⟨insW_T _ [] trivial, perm_isPerm hp (star_perm h.perm h.len), by rw [hp.length_eq]; simp [star]; exact h.len⟩
theorem evT_shape {n : Nat} {t : List (List Int)} (h : Std n t) : sameShape (evT n t) t := by
  have := star_shape h.perm.once (n + 1)
  rw [wrd_T t h.tab] at this
  exact this
theorem evT_evT {n : Nat} {t : List (List Int)} (h : Std n t) : evT n (evT n t) = t := by
  refine T_uniq (evT_std (evT_std h)).tab h.tab ((evT_word n _).trans ?_)
  have := (evT_word n t).star (n + 1)
  rw [star_star] at this
  exact this

/-- What the letters above m leave. -/
def abv (m : Nat) (w : List Int) : List Int := w.filter (fun z => decide ((m : Int) < z))
theorem shape_rs {n : Nat} {t : List (List Int)} (h : Std n t) (m : Nat) (a b : Nat) :
    b < (row (insW [] (abv m (wrd t))) a).length ↔ b < (row (evT n t) a).length ∧ box (evT n t) a b ≤ (n : Int) - m := by
  have hT := (evT_std h).tab
  rw [← (rs_box (evT n t) ((n : Int) - m) hT a b).1]
  have e1 : rs ((n : Int) - m) (evT n t) = insW [] (star (n + 1) (abv m (wrd t))) := by
    rw [← wrd_T _ (T_rs _ ((n : Int) - m) hT), wrd_rs _ _ hT]
    have k := (evT_word n t).filter (fun z => decide (z ≤ (n : Int) - m)) (fun x y z h1 h2 h3 h4 => by simp at h3 h4 ⊢; omega)
    rw [star_filter] at k
    rw [k.P]
    congr 2
    unfold abv
    refine List.filter_congr (fun z _ => ?_)
    exact decide_eq_decide.2 (by omega)
  rw [e1]
  have hh := star_shape (w := abv m (wrd t)) (nodup_filter _ h.perm.once) (n + 1) a
  rw [hh]

/-- The slide that begins in the first box. -/
def sl (t : List (List Int)) : List (List Int) × Nat × Nat := (tk (mv (left t 0 0) t 0 0).1 (mv (left t 0 0) t 0 0).2.1, (mv (left t 0 0) t 0 0).2.1, (mv (left t 0 0) t 0 0).2.2)
theorem T_hol {t : List (List Int)} (h : T t) (h1 : ∀ z ∈ t.flatten, 1 ≤ z) (h0 : 0 < t.length) : Hol (fun _ => 0) t 0 0 := ⟨T_sk h h1 _, Nat.le_refl _, h.shp.1 0 h0⟩
structure Slid (t : List (List Int)) (t' : List (List Int)) (i j : Nat) : Prop where
  tab : T t'
  word : Eqv (sword (fun _ => 0) (er t 0 0)) (wrd t')
  end1 : (row t i).length = j + 1
  lens : ∀ a, (row t' a).length = if a = i then j else (row t a).length
theorem sl_ok {t : List (List Int)} (h : T t) (h1 : ∀ z ∈ t.flatten, 1 ≤ z) (h0 : 0 < t.length) : Slid t (sl t).1 (sl t).2.1 (sl t).2.2 := by
  have e := mv_ends _ _ t 0 0 (T_hol h h1 h0) (Nat.le_refl _)
  obtain ⟨c1, c2⟩ := e.corner
  obtain ⟨k1, k2, k3⟩ := tk_sk e.hol c1 c2
  refine ⟨sk_T k1, ?_, by rw [← e.lens]; exact c1, fun a => ?_⟩
  · refine e.word.trans ?_
    rw [k2, sword_zero]; exact Eqv.refl _
  · show (row (tk (mv (left t 0 0) t 0 0).1 (mv (left t 0 0) t 0 0).2.1) a).length = if a = (mv (left t 0 0) t 0 0).2.1 then (mv (left t 0 0) t 0 0).2.2 else (row t a).length
    rw [k3]
    by_cases q : a = (mv (left t 0 0) t 0 0).2.1
    · rw [if_pos q, if_pos q, List.length_dropLast, c1]; rfl
    · rw [if_neg q, if_neg q, e.lens]
theorem first_least {t : List (List Int)} (h : T t) (hn : (wrd t).Nodup) (h0 : 0 < t.length) : sword (fun _ => 0) (er t 0 0) = (wrd t).filter (fun z => decide (box t 0 0 < z)) ∧ box t 0 0 ∈ wrd t ∧ ∀ z ∈ wrd t, box t 0 0 ≤ z := by
  cases t with
  | nil => simp at h0
  | cons r t =>
    obtain ⟨x, r, rfl⟩ : ∃ x r', r = x :: r' := by
      cases r with
      | nil => have := h.1; simp at this
      | cons x r => exact ⟨x, r, rfl⟩
    have hx : box ((x :: r) :: t) 0 0 = x := rfl
    have hmin : ∀ z ∈ ((x :: r) :: t).flatten, x ≤ z := fun z hz => by
      have := rs_none (k := x - 1) h (by
        have := (spot_has (x - 1) (x :: r)).pass 0
        rcases Nat.eq_zero_or_pos (spot false (x - 1) (x :: r)) with c | c
        · exact c
        · have := this c; simp at this; omega) z hz
      omega
    rw [hx]
    refine ⟨?_, wrd_mem.2 (by simp), fun z hz => hmin z (wrd_mem.1 hz)⟩
    have e : er ((x :: r) :: t) 0 0 = r :: t := rfl
    rw [e, sword_zero, wrd_cons, wrd_cons]
    have hn' : (x :: (wrd t ++ r)).Nodup := by
      refine (List.Perm.nodup_iff ?_).1 hn
      rw [wrd_cons]; exact List.perm_middle
    have hne : ∀ z ∈ wrd t ++ r, x ≠ z := fun z hz q => (List.nodup_cons.1 hn').1 (q ▸ hz)
    have hgt : ∀ z ∈ wrd t ++ r, x < z := fun z hz => by
      have h1 := hne z hz
      have h2 := hmin z (by rw [List.mem_append, wrd_mem] at hz; rw [List.flatten_cons, List.mem_append, List.mem_cons]; rcases hz with q | q
                            · exact Or.inr q
                            · exact Or.inl (Or.inr q))
      omega
    rw [List.filter_append, List.filter_cons, if_neg (by simp), ← List.filter_append]
    exact (List.filter_eq_self.2 (fun z hz => by simpa using hgt z hz)).symm

/-- Evacuated: what is left, and what is written down. -/
def ev : Nat → List (List Int) → List (List Int) → List (List Int)
  | 0, _, u => u
  | n + 1, t, u => ev n (sl t).1 (sb u (sl t).2.1 (sl t).2.2 ((n : Int) + 1))
structure EvI (n : Nat) (t : List (List Int)) (k : Nat) (rest u : List (List Int)) : Prop where
  le : k ≤ n
  tab : T rest
  word : Eqv (wrd rest) (abv (n - k) (wrd t))
  shape : sameShape u (evT n t)
  len : u.length = (evT n t).length
  says : ∀ a b, b < (row u a).length → (row rest a).length ≤ b → box u a b = box (evT n t) a b
theorem abv_abv {w : List Int} (m : Nat) : (abv m w).filter (fun z => decide (((m : Int) + 1) < z)) = abv (m + 1) w := by
  unfold abv
  rw [List.filter_filter]
  refine List.filter_congr (fun z _ => ?_)
  rw [← Bool.decide_and]
  exact decide_eq_decide.2 (by omega)
theorem EvI.pos {n : Nat} {t : List (List Int)} {k : Nat} {rest u : List (List Int)} (h : EvI n t k rest u) : ∀ z ∈ rest.flatten, 1 ≤ z := fun z hz => by
  have := h.word.perm.mem_iff.1 (wrd_mem.2 hz)
  unfold abv at this
  have := (List.mem_filter.1 this).2
  simp at this; omega
theorem ev_more {n : Nat} {t : List (List Int)} (hs : Std n t) {k : Nat} {rest u : List (List Int)} (h : EvI n t (k + 1) rest u) : 0 < rest.length ∧ EvI n t k (sl rest).1 (sb u (sl rest).2.1 (sl rest).2.2 ((k : Int) + 1)) := by
  have hle := h.le
  have hpm := h.word.perm
  have hin : ((n - (k + 1) : Nat) : Int) + 1 ∈ wrd rest := by
    refine hpm.mem_iff.2 ?_
    unfold abv
    refine List.mem_filter.2 ⟨hs.all (by omega) (by omega), by simp; omega⟩
  have h0 : 0 < rest.length := by
    cases rest with
    | nil => simp [wrd] at hin
    | cons r t => simp
  refine ⟨h0, ?_⟩
  have hn : (wrd rest).Nodup := hpm.nodup_iff.2 (nodup_filter _ hs.perm.once)
  obtain ⟨f1, f2, f3⟩ := first_least h.tab hn h0
  have hx : box rest 0 0 = ((n - (k + 1) : Nat) : Int) + 1 := by
    have q1 := f3 _ hin
    have q2 := hpm.mem_iff.1 f2
    unfold abv at q2
    have q3 := (List.mem_filter.1 q2).2
    simp at q3
    omega
  have S := sl_ok h.tab h.pos h0
  obtain ⟨s, hse⟩ : ∃ s, s = sl rest := ⟨_, rfl⟩
  rw [← hse] at S ⊢
  have hw : Eqv (wrd s.1) (abv (n - k) (wrd t)) := by
    refine S.word.symm.trans ?_
    rw [f1, hx]
    have := h.word.filter (fun z => decide (((n - (k + 1) : Nat) : Int) + 1 < z)) (fun x y z h1 h2 h3 h4 => by simp at h3 h4 ⊢; omega)
    rw [abv_abv, show n - (k + 1) + 1 = n - k by omega] at this
    exact this
  have sh1 := shape_rs hs (n - (k + 1))
  have sh2 := shape_rs hs (n - k)
  rw [← h.word.P, wrd_T _ h.tab] at sh1
  rw [← hw.P, wrd_T _ S.tab] at sh2
  have hj : s.2.2 < (row u s.2.1).length := by
    have := (sh1 s.2.1 s.2.2).1 (by rw [S.end1]; omega)
    rw [h.shape]; exact this.1
  refine ⟨by omega, S.tab, hw, fun a => by rw [sb_len]; exact h.shape a, by rw [sb_length]; exact h.len, fun a b h1 h2 => ?_⟩
  rw [sb_len] at h1
  rw [sb_box hj]
  by_cases c : a = s.2.1 ∧ b = s.2.2
  · rw [if_pos c, c.1, c.2]
    have q1 := (sh1 s.2.1 s.2.2).1 (by rw [S.end1]; omega)
    have q2 : ¬ (s.2.2 < (row (evT n t) s.2.1).length ∧ box (evT n t) s.2.1 s.2.2 ≤ (n : Int) - ((n - k : Nat) : Int)) := fun q => by
      have := (sh2 s.2.1 s.2.2).2 q
      rw [S.lens, if_pos rfl] at this; omega
    have q3 : ¬ box (evT n t) s.2.1 s.2.2 ≤ (n : Int) - ((n - k : Nat) : Int) := fun q => q2 ⟨q1.1, q⟩
    have := q1.2
    omega
  · rw [if_neg c]
    refine h.says a b h1 ?_
    rw [S.lens] at h2
    by_cases e : a = s.2.1
    · rw [if_pos e] at h2
      rw [e, S.end1]
      have : b ≠ s.2.2 := fun q => c ⟨e, q⟩
      omega
    · rw [if_neg e] at h2; exact h2
theorem ev_is {n : Nat} {t : List (List Int)} (hs : Std n t) : ∀ (k : Nat) (rest u : List (List Int)), EvI n t k rest u → ev k rest u = evT n t := by
  intro k
  induction k with
  | zero =>
    intro rest u h
    have h0 : rest = [] := by
      have q : wrd rest = [] := by
        have := h.word.perm
        have e : abv (n - 0) (wrd t) = [] := by
          unfold abv
          refine List.filter_eq_nil_iff.2 (fun z hz => ?_)
          have := (hs.low z hz).2
          simp; omega
        rw [e] at this
        exact List.Perm.eq_nil this
      have := wrd_T rest h.tab
      rw [q] at this
      exact this.symm
    subst h0
    show u = _
    refine ext_row h.len (fun a _ => ext_getD (h.shape a) (fun b hb => ?_))
    exact h.says a b hb (by simp [row])
  | succ k ih =>
    intro rest u h
    exact ih _ _ (ev_more hs h).2
theorem ev_start {n : Nat} {t : List (List Int)} (hs : Std n t) : EvI n t n t t := by
  have sh := evT_shape hs
  refine ⟨Nat.le_refl _, hs.tab, ?_, fun a => (sh a).symm, ?_, fun a b h1 h2 => by omega⟩
  · have e : abv (n - n) (wrd t) = wrd t := by
      unfold abv
      refine List.filter_eq_self.2 (fun z hz => ?_)
      have := (hs.low z hz).1
      simp; omega
    rw [e]; exact Eqv.refl _
  · have hT := (evT_std hs).tab
    refine Nat.le_antisymm (Nat.le_of_not_lt (fun c => ?_)) (Nat.le_of_not_lt (fun c => ?_))
    · have := hs.tab.shp.1 _ c
      rw [← sh, row_out (Nat.le_refl _)] at this; simp at this
    · have := hT.shp.1 _ c
      rw [sh, row_out (Nat.le_refl _)] at this; simp at this
theorem ev_all {n : Nat} {t : List (List Int)} (hs : Std n t) : ev n t t = evT n t := ev_is hs n t t (ev_start hs)

end Go.Proofs.Ytpbkidgdpejenae
