/-
  SCHUETZENBERGER'S evacuation, slide by slide, is the word turned over: plain facts.
  Promoted, demoted: plain facts.
-/
import Derived.Test.YtjciandmpfcfjaaSStd
namespace Go.Proofs.Ytjciandmpfcfjaa

theorem nodup_filter (p : Int → Bool) {w : List Int} (h : w.Nodup) : (w.filter p).Nodup := List.Pairwise.sublist List.filter_sublist h

/-- A standard tableau of n boxes. -/
structure Std (n : Nat) (t : List (List Int)) : Prop where
  tab : T t
  perm : IsPerm (wrd t)
  len : (wrd t).length = n
theorem Std.low {n : Nat} {t : List (List Int)} (h : Std n t) : ∀ z ∈ wrd t, 1 ≤ z ∧ z ≤ n := fun z hz => ⟨h.perm.low z hz, by have := h.perm.high z hz; rw [h.len] at this; exact this⟩
theorem Std.all {n : Nat} {t : List (List Int)} (h : Std n t) {v : Int} (h1 : 1 ≤ v) (h2 : v ≤ n) : v ∈ wrd t := h.perm.all h1 (by rw [h.len]; exact h2)
theorem perm_isPerm {u v : List Int} (h : u.Perm v) (hv : IsPerm v) : IsPerm u :=
  ⟨by rw [h.length_eq]; exact hv.len, fun z hz => hv.low z (h.mem_iff.1 hz), fun z hz => by rw [h.length_eq]; exact hv.high z (h.mem_iff.1 hz), h.nodup_iff.2 hv.once⟩

theorem star_filter (c k : Int) (w : List Int) : (star c w).filter (fun z => decide (z ≤ k)) = star c (w.filter (fun z => decide (c - k ≤ z))) := by
  unfold star
  rw [List.filter_reverse, List.filter_map]
  congr 2
  refine List.filter_congr (fun z _ => ?_)
  simp only [Function.comp_apply]
  exact decide_eq_decide.2 (by omega)
theorem star_perm {n : Nat} {w : List Int} (h : IsPerm w) (hl : w.length = n) : IsPerm (star (n + 1) w) := by
  refine ⟨by simp [star]; exact h.len, fun z hz => ?_, fun z hz => ?_, ?_⟩
  · simp [star] at hz
    obtain ⟨y, hy, rfl⟩ := hz
    have := h.high y hy; rw [hl] at this; omega
  · simp [star] at hz ⊢
    obtain ⟨y, hy, rfl⟩ := hz
    have := h.low y hy; omega
  · unfold star
    have := h.once
    refine (List.reverse_perm _).nodup_iff.2 ?_
    unfold List.Nodup at this ⊢
    rw [List.pairwise_map]
    exact this.imp (fun p => by omega)

/-- The word turned over, put in. -/
def evT (n : Nat) (t : List (List Int)) : List (List Int) := insW [] (star (n + 1) (wrd t))
theorem evT_word (n : Nat) (t : List (List Int)) : Eqv (wrd (evT n t)) (star (n + 1) (wrd t)) := (eqv_word _).symm
theorem evT_std {n : Nat} {t : List (List Int)} (h : Std n t) : Std n (evT n t) := by
  have hp := (evT_word n t).perm
  exact ⟨insW_T _ [] trivial, perm_isPerm hp (star_perm h.perm h.len), by rw [hp.length_eq]; simp [star]; exact h.len⟩
theorem evT_shape {n : Nat} {t : List (List Int)} (h : Std n t) : sameShape (evT n t) t := by
  have := star_shape h.perm.once (n + 1)
  rw [wrd_T t h.tab] at this
  exact this
theorem evT_evT {n : Nat} {t : List (List Int)} (h : Std n t) : evT n (evT n t) = t := by
  refine T_uniq (evT_std (evT_std h)).tab h.tab ((evT_word n _).trans ?_)
  have := (evT_word n t).star (n + 1)
  rw [star_star] at this
  exact this

/-- What the letters above m leave. -/
def abv (m : Nat) (w : List Int) : List Int := w.filter (fun z => decide ((m : Int) < z))
theorem shape_rs {n : Nat} {t : List (List Int)} (h : Std n t) (m : Nat) (a b : Nat) :
    b < (row (insW [] (abv m (wrd t))) a).length ↔ b < (row (evT n t) a).length ∧ box (evT n t) a b ≤ (n : Int) - m := by
  have hT := (evT_std h).tab
  rw [← (rs_box (evT n t) ((n : Int) - m) hT a b).1]
  have e1 : rs ((n : Int) - m) (evT n t) = insW [] (star (n + 1) (abv m (wrd t))) := by
    rw [← wrd_T _ (T_rs _ ((n : Int) - m) hT), wrd_rs _ _ hT]
    have k := (evT_word n t).filter (fun z => decide (z ≤ (n : Int) - m)) (fun x y z h1 h2 h3 h4 => by simp at h3 h4 ⊢; omega)
    rw [star_filter] at k
    rw [k.P]
    congr 2
    unfold abv
    refine List.filter_congr (fun z _ => ?_)
    exact decide_eq_decide.2 (by omega)
  rw [e1]
  have hh := star_shape (w := abv m (wrd t)) (nodup_filter _ h.perm.once) (n + 1) a
  rw [hh]

/-- The slide that begins in the first box. -/
def sl (t : List (List Int)) : List (List Int) × Nat × Nat := (tk (mv (left t 0 0) t 0 0).1 (mv (left t 0 0) t 0 0).2.1, (mv (left t 0 0) t 0 0).2.1, (mv (left t 0 0) t 0 0).2.2)
theorem T_hol {t : List (List Int)} (h : T t) (h1 : ∀ z ∈ t.flatten, 1 ≤ z) (h0 : 0 < t.length) : Hol (fun _ => 0) t 0 0 := ⟨T_sk h h1 _, Nat.le_refl _, h.shp.1 0 h0⟩
structure Slid (t : List (List Int)) (t' : List (List Int)) (i j : Nat) : Prop where
  tab : T t'
  word : Eqv (sword (fun _ => 0) (er t 0 0)) (wrd t')
  end1 : (row t i).length = j + 1
  lens : ∀ a, (row t' a).length = if a = i then j else (row t a).length
theorem sl_ok {t : List (List Int)} (h : T t) (h1 : ∀ z ∈ t.flatten, 1 ≤ z) (h0 : 0 < t.length) : Slid t (sl t).1 (sl t).2.1 (sl t).2.2 := by
  have e := mv_ends _ _ t 0 0 (T_hol h h1 h0) (Nat.le_refl _)
  obtain ⟨c1, c2⟩ := e.corner
  obtain ⟨k1, k2, k3⟩ := tk_sk e.hol c1 c2
  refine ⟨sk_T k1, ?_, by rw [← e.lens]; exact c1, fun a => ?_⟩
  · refine e.word.trans ?_
    rw [k2, sword_zero]; exact Eqv.refl _
  · show (row (tk (mv (left t 0 0) t 0 0).1 (mv (left t 0 0) t 0 0).2.1) a).length = if a = (mv (left t 0 0) t 0 0).2.1 then (mv (left t 0 0) t 0 0).2.2 else (row t a).length
    rw [k3]
    by_cases q : a = (mv (left t 0 0) t 0 0).2.1
    · rw [if_pos q, if_pos q, List.length_dropLast, c1]; rfl
    · rw [if_neg q, if_neg q, e.lens]
theorem first_least {t : List (List Int)} (h : T t) (hn : (wrd t).Nodup) (h0 : 0 < t.length) : sword (fun _ => 0) (er t 0 0) = (wrd t).filter (fun z => decide (box t 0 0 < z)) ∧ box t 0 0 ∈ wrd t ∧ ∀ z ∈ wrd t, box t 0 0 ≤ z := by
  cases t with
  | nil => simp at h0
  | cons r t =>
    obtain ⟨x, r, rfl⟩ : ∃ x r', r = x :: r' := by
      cases r with
      | nil => have := h.1; simp at this
      | cons x r => exact ⟨x, r, rfl⟩
    have hx : box ((x :: r) :: t) 0 0 = x := rfl
    have hmin : ∀ z ∈ ((x :: r) :: t).flatten, x ≤ z := fun z hz => by
      have := rs_none (k := x - 1) h (by
        have := (spot_has (x - 1) (x :: r)).pass 0
        rcases Nat.eq_zero_or_pos (spot false (x - 1) (x :: r)) with c | c
        · exact c
        · have := this c; simp at this; omega) z hz
      omega
    rw [hx]
    refine ⟨?_, wrd_mem.2 (by simp), fun z hz => hmin z (wrd_mem.1 hz)⟩
    have e : er ((x :: r) :: t) 0 0 = r :: t := rfl
    rw [e, sword_zero, wrd_cons, wrd_cons]
    have hn' : (x :: (wrd t ++ r)).Nodup := by
      refine (List.Perm.nodup_iff ?_).1 hn
      rw [wrd_cons]; exact List.perm_middle
    have hne : ∀ z ∈ wrd t ++ r, x ≠ z := fun z hz q => (List.nodup_cons.1 hn').1 (q ▸ hz)
    have hgt : ∀ z ∈ wrd t ++ r, x < z := fun z hz => by
      have h1 := hne z hz
      have h2 := hmin z (by rw [List.mem_append, wrd_mem] at hz; rw [List.flatten_cons, List.mem_append, List.mem_cons]; rcases hz with q | q
                            · exact Or.inr q
                            · exact Or.inl (Or.inr q))
      omega
    rw [List.filter_append, List.filter_cons, if_neg (by simp), ← List.filter_append]
    exact (List.filter_eq_self.2 (fun z hz => by simpa using hgt z hz)).symm

/-- Evacuated: what is left, and what is written down. -/
def ev : Nat → List (List Int) → List (List Int) → List (List Int)
  | 0, _, u => u
  | n + 1, t, u => ev n (sl t).1 (sb u (sl t).2.1 (sl t).2.2 ((n : Int) + 1))
structure EvI (n : Nat) (t : List (List Int)) (k : Nat) (rest u : List (List Int)) : Prop where
  le : k ≤ n
  tab : T rest
  word : Eqv (wrd rest) (abv (n - k) (wrd t))
  shape : sameShape u (evT n t)
  len : u.length = (evT n t).length
  says : ∀ a b, b < (row u a).length → (row rest a).length ≤ b → box u a b = box (evT n t) a b
theorem abv_abv {w : List Int} (m : Nat) : (abv m w).filter (fun z => decide (((m : Int) + 1) < z)) = abv (m + 1) w := by
  unfold abv
  rw [List.filter_filter]
  refine List.filter_congr (fun z _ => ?_)
  rw [← Bool.decide_and]
  exact decide_eq_decide.2 (by omega)
theorem EvI.pos {n : Nat} {t : List (List Int)} {k : Nat} {rest u : List (List Int)} (h : EvI n t k rest u) : ∀ z ∈ rest.flatten, 1 ≤ z := fun z hz => by
  have := h.word.perm.mem_iff.1 (wrd_mem.2 hz)
  unfold abv at this
  have := (List.mem_filter.1 this).2
  simp at this; omega
theorem ev_more {n : Nat} {t : List (List Int)} (hs : Std n t) {k : Nat} {rest u : List (List Int)} (h : EvI n t (k + 1) rest u) : 0 < rest.length ∧ EvI n t k (sl rest).1 (sb u (sl rest).2.1 (sl rest).2.2 ((k : Int) + 1)) := by
  have hle := h.le
  have hpm := h.word.perm
  have hin : ((n - (k + 1) : Nat) : Int) + 1 ∈ wrd rest := by
    refine hpm.mem_iff.2 ?_
    unfold abv
    refine List.mem_filter.2 ⟨hs.all (by omega) (by omega), by simp; omega⟩
  have h0 : 0 < rest.length := by
    cases rest with
    | nil => simp [wrd] at hin
    | cons r t => simp
  refine ⟨h0, ?_⟩
  have hn : (wrd rest).Nodup := hpm.nodup_iff.2 (nodup_filter _ hs.perm.once)
  obtain ⟨f1, f2, f3⟩ := first_least h.tab hn h0
  have hx : box rest 0 0 = ((n - (k + 1) : Nat) : Int) + 1 := by
    have q1 := f3 _ hin
    have q2 := hpm.mem_iff.1 f2
    unfold abv at q2
    have q3 := (List.mem_filter.1 q2).2
    simp at q3
    omega
  have S := sl_ok h.tab h.pos h0
  obtain ⟨s, hse⟩ : ∃ s, s = sl rest := ⟨_, rfl⟩
  rw [← hse] at S ⊢
  have hw : Eqv (wrd s.1) (abv (n - k) (wrd t)) := by
    refine S.word.symm.trans ?_
    rw [f1, hx]
    have := h.word.filter (fun z => decide (((n - (k + 1) : Nat) : Int) + 1 < z)) (fun x y z h1 h2 h3 h4 => by simp at h3 h4 ⊢; omega)
    rw [abv_abv, show n - (k + 1) + 1 = n - k by omega] at this
    exact this
  have sh1 := shape_rs hs (n - (k + 1))
  have sh2 := shape_rs hs (n - k)
  rw [← h.word.P, wrd_T _ h.tab] at sh1
  rw [← hw.P, wrd_T _ S.tab] at sh2
  have hj : s.2.2 < (row u s.2.1).length := by
    have := (sh1 s.2.1 s.2.2).1 (by rw [S.end1]; omega)
    rw [h.shape]; exact this.1
  refine ⟨by omega, S.tab, hw, fun a => by rw [sb_len]; exact h.shape a, by rw [sb_length]; exact h.len, fun a b h1 h2 => ?_⟩
  rw [sb_len] at h1
  rw [sb_box hj]
  by_cases c : a = s.2.1 ∧ b = s.2.2
  · rw [if_pos c, c.1, c.2]
    have q1 := (sh1 s.2.1 s.2.2).1 (by rw [S.end1]; omega)
    have q2 : ¬ (s.2.2 < (row (evT n t) s.2.1).length ∧ box (evT n t) s.2.1 s.2.2 ≤ (n : Int) - ((n - k : Nat) : Int)) := fun q => by
      have := (sh2 s.2.1 s.2.2).2 q
      rw [S.lens, if_pos rfl] at this; omega
    have q3 : ¬ box (evT n t) s.2.1 s.2.2 ≤ (n : Int) - ((n - k : Nat) : Int) := fun q => q2 ⟨q1.1, q⟩
    have := q1.2
    omega
  · rw [if_neg c]
    refine h.says a b h1 ?_
    rw [S.lens] at h2
    by_cases e : a = s.2.1
    · rw [if_pos e] at h2
      rw [e, S.end1]
      have : b ≠ s.2.2 := fun q => c ⟨e, q⟩
      omega
    · rw [if_neg e] at h2; exact h2
theorem ev_is {n : Nat} {t : List (List Int)} (hs : Std n t) : ∀ (k : Nat) (rest u : List (List Int)), EvI n t k rest u → ev k rest u = evT n t := by
  intro k
  induction k with
  | zero =>
    intro rest u h
    have h0 : rest = [] := by
      have q : wrd rest = [] := by
        have := h.word.perm
        have e : abv (n - 0) (wrd t) = [] := by
          unfold abv
          refine List.filter_eq_nil_iff.2 (fun z hz => ?_)
          have := (hs.low z hz).2
          simp; omega
        rw [e] at this
        exact List.Perm.eq_nil this
      have := wrd_T rest h.tab
      rw [q] at this
      exact this.symm
    subst h0
    show u = _
    refine ext_row h.len (fun a _ => ext_getD (h.shape a) (fun b hb => ?_))
    exact h.says a b hb (by simp [row])
  | succ k ih =>
    intro rest u h
    exact ih _ _ (ev_more hs h).2
theorem ev_start {n : Nat} {t : List (List Int)} (hs : Std n t) : EvI n t n t t := by
  have sh := evT_shape hs
  refine ⟨Nat.le_refl _, hs.tab, ?_, fun a => (sh a).symm, ?_, fun a b h1 h2 => by omega⟩
  · have e : abv (n - n) (wrd t) = wrd t := by
      unfold abv
      refine List.filter_eq_self.2 (fun z hz => ?_)
      have := (hs.low z hz).1
      simp; omega
    rw [e]; exact Eqv.refl _
  · have hT := (evT_std hs).tab
    refine Nat.le_antisymm (Nat.le_of_not_lt (fun c => ?_)) (Nat.le_of_not_lt (fun c => ?_))
    · have := hs.tab.shp.1 _ c
      rw [← sh, row_out (Nat.le_refl _)] at this; simp at this
    · have := hT.shp.1 _ c
      rw [sh, row_out (Nat.le_refl _)] at this; simp at this
theorem ev_all {n : Nat} {t : List (List Int)} (hs : Std n t) : ev n t t = evT n t := ev_is hs n t t (ev_start hs)

end Go.Proofs.Ytjciandmpfcfjaa

namespace Go.Proofs.Ytjciandmpfcfjaa

/-- u is what is made of t by taking 1 away. -/
structure Prom (n : Nat) (t u : List (List Int)) : Prop where
  lens : sameShape u t
  word : Eqv ((wrd u).filter (fun z => decide (z ≤ (n : Int) - 1))) (((wrd t).filter (fun z => decide (1 < z))).map (· + (-1)))

theorem len_of_shape {t u : List (List Int)} (ht : Shp t) (hu : Shp u) (h : sameShape t u) : t.length = u.length := by
  refine Nat.le_antisymm (Nat.le_of_not_lt (fun c => ?_)) (Nat.le_of_not_lt (fun c => ?_))
  · have := ht.1 _ c
    rw [h, row_out (Nat.le_refl _)] at this; simp at this
  · have := hu.1 _ c
    rw [← h, row_out (Nat.le_refl _)] at this; simp at this
theorem Std.box {n : Nat} {t : List (List Int)} (h : Std n t) {a b : Nat} (hb : b < (row t a).length) : 1 ≤ Go.Proofs.Ytjciandmpfcfjaa.box t a b ∧ Go.Proofs.Ytjciandmpfcfjaa.box t a b ≤ n :=
  h.low _ (wrd_mem.2 (box_mem (row_lt hb) hb))
/-- A standard tableau is told by its shape and by what is below the last number. -/
theorem std_uniq {n : Nat} {t u : List (List Int)} (ht : Std n t) (hu : Std n u) (hs : sameShape t u) (h : Eqv ((wrd t).filter (fun z => decide (z ≤ (n : Int) - 1))) ((wrd u).filter (fun z => decide (z ≤ (n : Int) - 1)))) : t = u := by
  have e : rs ((n : Int) - 1) t = rs ((n : Int) - 1) u := by
    refine T_uniq (T_rs _ _ ht.tab) (T_rs _ _ hu.tab) ?_
    rw [wrd_rs _ _ ht.tab, wrd_rs _ _ hu.tab]; exact h
  refine ext_row (len_of_shape ht.tab.shp hu.tab.shp hs) (fun a _ => ext_getD (hs a) (fun b hb => ?_))
  show Go.Proofs.Ytjciandmpfcfjaa.box t a b = Go.Proofs.Ytjciandmpfcfjaa.box u a b
  have hb2 : b < (row u a).length := by rw [← hs a]; exact hb
  obtain ⟨p1, p2⟩ := rs_box t ((n : Int) - 1) ht.tab a b
  obtain ⟨q1, q2⟩ := rs_box u ((n : Int) - 1) hu.tab a b
  rw [e] at p1 p2
  by_cases c : b < (row (rs ((n : Int) - 1) u) a).length
  · rw [← p2 c, q2 c]
  · have h1 : ¬ Go.Proofs.Ytjciandmpfcfjaa.box t a b ≤ (n : Int) - 1 := fun k => c (p1.2 ⟨hb, k⟩)
    have h2 : ¬ Go.Proofs.Ytjciandmpfcfjaa.box u a b ≤ (n : Int) - 1 := fun k => c (q1.2 ⟨hb2, k⟩)
    have := (ht.box hb).2
    have := (hu.box hb2).2
    omega
theorem Prom.uniq {n : Nat} {t u v : List (List Int)} (h : Prom n t u) (k : Prom n t v) (hu : Std n u) (hv : Std n v) : u = v :=
  std_uniq hu hv (fun a => by rw [h.lens, k.lens]) (h.word.trans k.word.symm)
theorem map_filter_shift (w : List Int) (d k : Int) : (w.map (· + d)).filter (fun z => decide (z ≤ k)) = (w.filter (fun z => decide (z ≤ k - d))).map (· + d) := by
  rw [List.filter_map]
  congr 1
  refine List.filter_congr (fun z _ => ?_)
  simp only [Function.comp_apply]
  exact decide_eq_decide.2 (by omega)
/-- Turned over it goes the other way. -/
theorem Prom.turn {n : Nat} {t u : List (List Int)} (h : Prom n t u) (ht : Std n t) (hu : Std n u) : Prom n (evT n u) (evT n t) := by
  refine ⟨fun a => by rw [evT_shape ht, evT_shape hu, h.lens], ?_⟩
  have k1 := (evT_word n t).filter (fun z => decide (z ≤ (n : Int) - 1)) (fun x y z h1 h2 h3 h4 => by simp at h3 h4 ⊢; omega)
  have k2 := ((evT_word n u).filter (fun z => decide (1 < z)) (fun x y z h1 h2 h3 h4 => by simp at h3 h4 ⊢; omega)).shift (-1)
  refine k1.trans (Eqv.trans ?_ k2.symm)
  rw [star_filter]
  have e1 : (wrd t).filter (fun z => decide ((n : Int) + 1 - ((n : Int) - 1) ≤ z)) = (wrd t).filter (fun z => decide (1 < z)) := List.filter_congr (fun z _ => decide_eq_decide.2 (by omega))
  rw [e1]
  have e2 : ((star (n + 1) (wrd u)).filter (fun z => decide (1 < z))).map (· + (-1)) = star n ((wrd u).filter (fun z => decide (z ≤ (n : Int) - 1))) := by
    unfold star
    rw [List.filter_reverse, List.filter_map, List.map_reverse, List.map_map]
    congr 1
    have : (wrd u).filter ((fun z => decide (1 < z)) ∘ fun z => (n : Int) + 1 - z) = (wrd u).filter (fun z => decide (z ≤ (n : Int) - 1)) := List.filter_congr (fun z _ => by
      simp only [Function.comp_apply]; exact decide_eq_decide.2 (by omega))
    rw [this]
    exact List.map_congr_left (fun z _ => by simp; omega)
  rw [e2]
  have e3 := (h.word.star n).symm
  refine Eqv.trans (Eqv.of ?_) e3
  unfold star
  rw [List.map_map]
  congr 1
  exact List.map_congr_left (fun z _ => by simp; omega)
theorem Prom.inj {n : Nat} {t t' u : List (List Int)} (h : Prom n t u) (k : Prom n t' u) (ht : Std n t) (ht' : Std n t') (hu : Std n u) : t = t' := by
  have := (h.turn ht hu).uniq (k.turn ht' hu) (evT_std ht) (evT_std ht')
  rw [← evT_evT ht, ← evT_evT ht', this]
/-- Demoted by turning over, promoting, turning back. -/
theorem Prom.back {n : Nat} {x t y : List (List Int)} (h : Prom n x t) (hx : Std n x) (ht : Std n t) (hy : Prom n (evT n t) y) (hys : Std n y) : evT n y = x := by
  have := hy.uniq (h.turn hx ht) hys (evT_std hx)
  rw [this, evT_evT hx]

/-- Each letter more by so much. -/
def rais (d : Int) (t : List (List Int)) : List (List Int) := t.map (List.map (· + d))
theorem rais_row (d : Int) (t : List (List Int)) (a : Nat) : row (rais d t) a = (row t a).map (· + d) := by
  unfold row rais
  simp only [List.getD, List.getElem?_map]
  cases t[a]? <;> simp
theorem rais_len (d : Int) (t : List (List Int)) (a : Nat) : (row (rais d t) a).length = (row t a).length := by rw [rais_row]; simp
theorem rais_length (d : Int) (t : List (List Int)) : (rais d t).length = t.length := by simp [rais]
theorem rais_box {d : Int} {t : List (List Int)} {a b : Nat} (hb : b < (row t a).length) : Go.Proofs.Ytjciandmpfcfjaa.box (rais d t) a b = Go.Proofs.Ytjciandmpfcfjaa.box t a b + d := by
  unfold Go.Proofs.Ytjciandmpfcfjaa.box
  rw [rais_row]
  simp [List.getD, List.getElem?_eq_getElem hb]
theorem rais_T {d : Int} {t : List (List Int)} (h : T t) : T (rais d t) := by
  have hr := T_row.1 h
  refine T_row.2 (fun i hi => ?_)
  rw [rais_length] at hi
  obtain ⟨h1, h2, h3, h4⟩ := hr i hi
  refine ⟨by rw [rais_len]; exact h1, fun j hj => ?_, by rw [rais_len, rais_len]; exact h3, fun j hj => ?_⟩
  · rw [rais_len] at hj
    have q1 := rais_box (d := d) (t := t) (a := i) (b := j) (by omega)
    have q2 := rais_box (d := d) (t := t) (a := i) (b := j + 1) hj
    have := h2 j hj
    unfold Go.Proofs.Ytjciandmpfcfjaa.box at q1 q2; omega
  · rw [rais_len] at hj
    have q1 := rais_box (d := d) (t := t) (a := i) (b := j) (by omega)
    have q2 := rais_box (d := d) (t := t) (a := i + 1) (b := j) hj
    have := h4 j hj
    unfold Go.Proofs.Ytjciandmpfcfjaa.box at q1 q2; omega
theorem wrd_rais (d : Int) (t : List (List Int)) : wrd (rais d t) = (wrd t).map (· + d) := wrd_map _ t

/-- The word with one letter put in a box. -/
theorem wrd_sb {s : List (List Int)} {i j : Nat} (hj : j < (row s i).length) (x : Int) : ∃ u v, wrd (sb s i j x) = u ++ x :: v ∧ sword (fun _ => 0) (er s i j) = u ++ v := by
  have hi := row_lt hj
  refine ⟨sword (fun _ => 0) (s.drop (i + 1)) ++ (row s i).take j, (row s i).drop (j + 1) ++ sword (fun _ => 0) (s.take i), ?_, ?_⟩
  · rw [← sword_zero]
    unfold sb
    rw [sword1 _ hi, List.drop_zero, List.set_eq_take_append_cons_drop, if_pos hj]
    simp
  · unfold er
    rw [sword1 _ hi, List.drop_zero, erase_at]
    simp
theorem sword_er {s : List (List Int)} {i j : Nat} (hj : j < (row s i).length) {x : Int} {p : Int → Bool} (hx : p x = false) (hp : ∀ z ∈ sword (fun _ => 0) (er s i j), p z = true) : (wrd (sb s i j x)).filter p = sword (fun _ => 0) (er s i j) := by
  obtain ⟨u, v, e1, e2⟩ := wrd_sb hj x
  rw [e1, e2, List.filter_append, List.filter_cons, if_neg (by rw [hx]; simp)]
  rw [e2] at hp
  rw [List.filter_eq_self.2 (fun z hz => hp z (List.mem_append.2 (Or.inl hz))), List.filter_eq_self.2 (fun z hz => hp z (List.mem_append.2 (Or.inr hz)))]

/-- A great letter in the corner where the way ended. -/
theorem fill_corner {s : List (List Int)} {i j : Nat} (k : Hol (fun _ => 0) s i j) (c1 : (row s i).length = j + 1) (c2 : (row s (i + 1)).length ≤ j) {x : Int} (hx : ∀ a b, b < (row s a).length → ¬ one i j a b → box s a b < x) (h1 : 1 ≤ x) : T (sb s i j x) := by
  have hbx := sb_box (s := s) (i := i) (j := j) k.lt x
  refine sk_T ⟨sb_shp k.sk.shp _ _ _, fun _ => Nat.le_refl _, fun _ => Nat.zero_le _, fun a b hb => by omega, fun a b _ h3 _ => ?_, fun a b c _ h3 h4 _ _ => ?_, fun a c b h2 _ h4 _ _ => ?_⟩
  · rw [sb_len] at h3
    rw [hbx]
    by_cases e : a = i ∧ b = j
    · rw [if_pos e]; exact h1
    · rw [if_neg e]; exact k.sk.pos a b (by omega) h3 e
  · rw [sb_len] at h4
    rw [hbx, hbx]
    by_cases e : a = i ∧ b = j
    · rw [e.1] at h4; omega
    · rw [if_neg e]
      by_cases e2 : a = i ∧ c = j
      · rw [if_pos e2]; have := hx a b (by omega) e; omega
      · rw [if_neg e2]; exact k.sk.along a b c (by omega) h3 h4 e e2
  · rw [sb_len] at h4
    rw [hbx, hbx]
    by_cases e : a = i ∧ b = j
    · have := k.sk.shp.shorter' (a := i + 1) (b := c) (by omega); omega
    · rw [if_neg e]
      by_cases e2 : c = i ∧ b = j
      · rw [if_pos e2]; exact hx a b (by have := k.sk.shp.shorter' (a := a) (b := c) (by omega); omega) e
      · rw [if_neg e2]; exact k.sk.down a c b h2 (by omega) h4 e e2
theorem mem_sword_er {s : List (List Int)} {i j a b : Nat} (hj : j < (row s i).length) (hb : b < (row s a).length) (hne : ¬ one i j a b) : box s a b ∈ sword (fun _ => 0) (er s i j) := by
  have hi := row_lt hj
  have ha := row_lt hb
  unfold er
  rw [sword1 _ hi, List.drop_zero, erase_at, sword_zero, sword_zero]
  rcases Nat.lt_trichotomy a i with c | c | c
  · refine List.mem_append.2 (Or.inr (wrd_mem.2 ?_))
    refine List.mem_flatten.2 ⟨row s a, ?_, getD_mem hb⟩
    refine List.mem_iff_getElem.2 ⟨a, by rw [List.length_take]; omega, ?_⟩
    rw [List.getElem_take]; simp [row, List.getD, List.getElem?_eq_getElem ha]
  · subst c
    have hbj : b ≠ j := fun q => hne ⟨rfl, q⟩
    refine List.mem_append.2 (Or.inl (List.mem_append.2 (Or.inr ?_)))
    unfold box
    rcases Nat.lt_or_ge b j with q | q
    · rw [← take_getD' (row s a) j b q]; exact List.mem_append.2 (Or.inl (getD_mem (by rw [List.length_take]; omega)))
    · rw [show b = j + 1 + (b - (j + 1)) by omega, ← drop_getD' (row s a) (j + 1)]; exact List.mem_append.2 (Or.inr (getD_mem (by rw [List.length_drop]; omega)))
  · refine List.mem_append.2 (Or.inl (List.mem_append.2 (Or.inl (wrd_mem.2 ?_))))
    refine List.mem_flatten.2 ⟨row s a, ?_, getD_mem hb⟩
    refine List.mem_iff_getElem.2 ⟨a - (i + 1), by rw [List.length_drop]; omega, ?_⟩
    rw [List.getElem_drop]
    simp [row, List.getD, show i + 1 + (a - (i + 1)) = a by omega, List.getElem?_eq_getElem ha]

/-- Promoted. -/
def pr (n : Nat) (t : List (List Int)) : List (List Int) :=
  rais (-1) (sb (mv (left t 0 0) t 0 0).1 (mv (left t 0 0) t 0 0).2.1 (mv (left t 0 0) t 0 0).2.2 ((n : Int) + 1))
theorem Std.pos {n : Nat} {t : List (List Int)} (h : Std n t) : ∀ z ∈ t.flatten, 1 ≤ z := fun z hz => (h.low z (wrd_mem.2 hz)).1
theorem Std.some {n : Nat} {t : List (List Int)} (h : Std n t) (h0 : 0 < n) : 0 < t.length := by
  cases t with
  | nil => have := h.len; simp [wrd] at this; omega
  | cons r t => simp
theorem perm_of {n : Nat} {w : List Int} (hn : w.Nodup) (h : ∀ z ∈ w, 1 ≤ z ∧ z ≤ n) (hl : w.length = n) (h40 : n ≤ 40) : IsPerm w := ⟨by omega, fun z hz => (h z hz).1, fun z hz => by rw [hl]; exact (h z hz).2, hn⟩
theorem nodup_map_add (d : Int) {w : List Int} (h : w.Nodup) : (w.map (· + d)).Nodup := by
  unfold List.Nodup at h ⊢; rw [List.pairwise_map]; exact h.imp (fun p => by omega)
theorem Std.first {n : Nat} {t : List (List Int)} (h : Std n t) (h0 : 0 < n) : sword (fun _ => 0) (er t 0 0) = (wrd t).filter (fun z => decide (1 < z)) := by
  obtain ⟨f1, f2, f3⟩ := first_least h.tab h.perm.once (h.some h0)
  have : Go.Proofs.Ytjciandmpfcfjaa.box t 0 0 = 1 := by
    have := f3 1 (h.all (by omega) (by omega))
    have := (h.low _ f2).1
    omega
  rw [f1, this]
theorem pr_ok {n : Nat} {t : List (List Int)} (h : Std n t) (h0 : 0 < n) : Std n (pr n t) ∧ Prom n t (pr n t) := by
  have e := mv_ends _ _ t 0 0 (T_hol h.tab h.pos (h.some h0)) (Nat.le_refl _)
  obtain ⟨c1, c2⟩ := e.corner
  have hw := e.word
  rw [h.first h0] at hw
  unfold pr
  obtain ⟨m, hm⟩ : ∃ m, m = mv (left t 0 0) t 0 0 := ⟨_, rfl⟩
  rw [← hm] at e c1 c2 hw ⊢
  have hlt := e.hol.lt
  have hlet : ∀ z ∈ sword (fun _ => 0) (er m.1 m.2.1 m.2.2), 1 < z ∧ z ≤ n := fun z hz => by
    have := hw.perm.mem_iff.2 hz
    have q := List.mem_filter.1 this
    have q1 := (h.low z q.1).2
    have q2 := q.2
    simp at q2; exact ⟨q2, q1⟩
  have hT := fill_corner e.hol c1 c2 (x := (n : Int) + 1) (fun a b hb hne => by have := (hlet _ (mem_sword_er hlt hb hne)).2; omega) (by omega)
  obtain ⟨u, v, e1, e2⟩ := wrd_sb hlt ((n : Int) + 1)
  have hnd : (u ++ v).Nodup := by rw [← e2]; exact hw.perm.nodup_iff.1 (nodup_filter _ h.perm.once)
  have hn2 : (wrd (sb m.1 m.2.1 m.2.2 ((n : Int) + 1))).Nodup := by
    rw [e1]
    refine (List.perm_middle.nodup_iff).2 (List.nodup_cons.2 ⟨fun q => ?_, hnd⟩)
    have := (hlet _ (by rw [e2]; exact q)).2
    omega
  have hperm : (wrd (sb m.1 m.2.1 m.2.2 ((n : Int) + 1))).length = n := by
    rw [e1]
    have q1 : (u ++ v).length = ((wrd t).filter (fun z => decide (1 < z))).length := by rw [← e2]; exact hw.perm.length_eq.symm
    have q2 := h.first h0
    obtain ⟨u', v', e1', e2'⟩ := wrd_sb (T_hol h.tab h.pos (h.some h0)).lt (Go.Proofs.Ytjciandmpfcfjaa.box t 0 0)
    have e3 : sb t 0 0 (Go.Proofs.Ytjciandmpfcfjaa.box t 0 0) = t := by
      unfold sb Go.Proofs.Ytjciandmpfcfjaa.box
      rw [set_same rfl]
      refine ext_row (by simp) (fun a _ => ?_)
      rw [set_row]
      by_cases q : a = 0 ∧ 0 < t.length
      · rw [if_pos q, q.1]
      · rw [if_neg q]
    rw [e3] at e1'
    have q3 := h.len
    rw [e1'] at q3
    rw [q2] at e2'
    rw [e2'] at q1
    simp at q1 q3 ⊢
    omega
  have hw2 : (wrd (sb m.1 m.2.1 m.2.2 ((n : Int) + 1))).filter (fun z => decide (z ≤ (n : Int))) = sword (fun _ => 0) (er m.1 m.2.1 m.2.2) :=
    sword_er hlt (by simp; omega) (fun z hz => by have := (hlet z hz).2; simpa using this)
  refine ⟨⟨rais_T hT, ?_, by rw [wrd_rais, List.length_map]; exact hperm⟩, fun a => by rw [rais_len, sb_len, e.lens], ?_⟩
  · rw [wrd_rais]
    refine perm_of (n := n) (nodup_map_add _ hn2) (fun z hz => ?_) (by rw [List.length_map]; exact hperm) (by have := h.perm.len; rw [h.len] at this; exact this)
    obtain ⟨y, hy, rfl⟩ := List.mem_map.1 hz
    rw [e1, List.mem_append, List.mem_cons] at hy
    have : y = (n : Int) + 1 ∨ y ∈ u ++ v := by
      rw [List.mem_append]
      rcases hy with q | q | q
      · exact Or.inr (Or.inl q)
      · exact Or.inl q
      · exact Or.inr (Or.inr q)
    rcases this with q | q
    · rw [q]; omega
    · have := hlet y (by rw [e2]; exact q); omega
  · rw [wrd_rais, map_filter_shift, show (n : Int) - 1 - (-1) = (n : Int) by omega, hw2]
    exact hw.symm.shift (-1)

end Go.Proofs.Ytjciandmpfcfjaa
