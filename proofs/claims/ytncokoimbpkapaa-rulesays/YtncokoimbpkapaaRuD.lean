/-
  Right fillings letter by letter: the list: plain.
-/
import Derived.Test.YtncokoimbpkapaaRuC
namespace Go.Proofs.Ytncokoimbpkapaa

/-- Without the noughts at the end. -/
def trimZ : List Nat → List Nat
  | [] => []
  | u :: us => if trimZ us = [] ∧ u = 0 then [] else u :: trimZ us
theorem trimZ_zero : ∀ l, trimZ (l ++ [0]) = trimZ l := by
  intro l
  induction l with
  | nil => rfl
  | cons u l ih => rw [List.cons_append, trimZ, trimZ, ih]
theorem trimZ_end {u : Nat} (hu : u ≠ 0) : ∀ l, trimZ (l ++ [u]) = l ++ [u] := by
  intro l
  induction l with
  | nil => rw [List.nil_append, trimZ, if_neg (fun h => hu h.2)]; rfl
  | cons x l ih => rw [List.cons_append, trimZ, ih, if_neg (fun h => by simp at h)]
theorem trimZ_at : ∀ (l : List Nat) (r : Nat), (trimZ l).getD r 0 = l.getD r 0 := by
  intro l
  induction l with
  | nil => intro r; rfl
  | cons u l ih =>
    intro r
    rw [trimZ]
    by_cases h : trimZ l = [] ∧ u = 0
    · rw [if_pos h]
      cases r with
      | zero => rw [h.2]; rfl
      | succ r =>
        have := ih r
        rw [h.1] at this
        simpa [List.getD] using this
    · rw [if_neg h]
      cases r with
      | zero => rfl
      | succ r =>
        have := ih r
        simpa [List.getD] using this
theorem trimZ_len : ∀ l, (trimZ l).length ≤ l.length := by
  intro l
  induction l with
  | nil => simp [trimZ]
  | cons u l ih =>
    rw [trimZ]
    split
    · simp
    · simp; exact ih
theorem trimZ_last : ∀ l : List Nat, trimZ l ≠ [] → (trimZ l).getD ((trimZ l).length - 1) 0 ≠ 0 := by
  intro l
  induction l with
  | nil => intro h; exact absurd rfl h
  | cons u l ih =>
    intro h
    rw [trimZ] at h ⊢
    by_cases e : trimZ l = [] ∧ u = 0
    · rw [if_pos e] at h; exact absurd rfl h
    · rw [if_neg e]
      by_cases e2 : trimZ l = []
      · rw [e2]
        have : u ≠ 0 := fun h0 => e ⟨e2, h0⟩
        simpa using this
      · have := ih e2
        have hl : 0 < (trimZ l).length := List.length_pos_iff.2 e2
        obtain ⟨k, hk⟩ : ∃ k, (trimZ l).length = k + 1 := ⟨(trimZ l).length - 1, by omega⟩
        rw [hk] at this
        simp only [List.length_cons, hk, Nat.add_sub_cancel] at this ⊢
        simpa [List.getD] using this
theorem trimZ_pos {l : List Nat} (hd : ∀ r, l.getD (r + 1) 0 ≤ l.getD r 0) : ∀ r, r < (trimZ l).length → 0 < (trimZ l).getD r 0 := fun r hr => by
  have hne : trimZ l ≠ [] := fun e => by rw [e] at hr; simp at hr
  have h1 := trimZ_last l hne
  rw [trimZ_at] at h1 ⊢
  have : ∀ k, l.getD (r + k) 0 ≤ l.getD r 0 := by
    intro k
    induction k with
    | zero => exact Nat.le_refl _
    | succ k ih => exact Nat.le_trans (hd (r + k)) ih
  have h2 := this ((trimZ l).length - 1 - r)
  rw [show r + ((trimZ l).length - 1 - r) = (trimZ l).length - 1 by omega] at h2
  omega
theorem trimZ_inj {l l' : List Nat} (hl : l.length = l'.length) (h : trimZ l = trimZ l') : l = l' := by
  refine List.ext_getElem hl fun r h1 h2 => ?_
  have e := congrArg (fun q : List Nat => q.getD r 0) h
  simp only [trimZ_at] at e
  simpa [List.getD, h1, h2] using e

theorem mem_gr (p c : Nat → Nat) : ∀ m i left q, (q ∈ grN p c m i left ↔ q.length = m ∧ (∀ s, s < m → p (i + s) ≤ q.getD s 0 ∧ q.getD s 0 ≤ hiG p c (i + s)) ∧ ((List.range m).map fun s => q.getD s 0 - p (i + s)).sum = left) := by
  intro m
  induction m with
  | zero =>
    intro i left q
    simp only [grN]
    constructor
    · intro h
      split at h
      · rename_i e
        rw [List.mem_singleton] at h
        subst h; subst e
        exact ⟨rfl, fun s hs => absurd hs (by omega), rfl⟩
      · cases h
    · rintro ⟨h1, _, h3⟩
      simp at h3
      rw [if_pos h3.symm, List.mem_singleton]
      exact List.eq_nil_of_length_eq_zero h1
  | succ m ih =>
    intro i left q
    simp only [grN, List.mem_flatMap, List.mem_map, List.mem_range]
    constructor
    · rintro ⟨d, hd, q', hq', rfl⟩
      obtain ⟨h1, h2, h3⟩ := (ih (i + 1) (left - d) q').1 hq'
      refine ⟨by simp [h1], fun s hs => ?_, ?_⟩
      · cases s with
        | zero => simp; omega
        | succ s =>
          have := h2 s (by omega)
          rw [show i + (s + 1) = i + 1 + s by omega]
          simpa [List.getD] using this
      · rw [List.range_succ_eq_map, List.map_cons, List.sum_cons, List.map_map]
        have e : (List.range m).map ((fun s => ((p i + d) :: q').getD s 0 - p (i + s)) ∘ Nat.succ) = (List.range m).map fun s => q'.getD s 0 - p (i + 1 + s) :=
          List.map_congr_left fun s _ => by simp [List.getD, show i + (s + 1) = i + 1 + s by omega]
        rw [e, h3]
        simp; omega
    · rintro ⟨h1, h2, h3⟩
      cases q with
      | nil => simp at h1
      | cons z q' =>
        have h0 := h2 0 (by omega)
        simp only [Nat.add_zero] at h0
        have hz : (z :: q').getD 0 0 = z := rfl
        rw [hz] at h0
        rw [List.range_succ_eq_map, List.map_cons, List.sum_cons, List.map_map] at h3
        have e : (List.range m).map ((fun s => (z :: q').getD s 0 - p (i + s)) ∘ Nat.succ) = (List.range m).map fun s => q'.getD s 0 - p (i + 1 + s) :=
          List.map_congr_left fun s _ => by simp [List.getD, show i + (s + 1) = i + 1 + s by omega]
        rw [e, hz] at h3
        simp only [Nat.add_zero] at h3
        refine ⟨z - p i, by omega, q', (ih (i + 1) _ q').2 ⟨by simpa using h1, fun s hs => ?_, by omega⟩, by congr 1; omega⟩
        have := h2 (s + 1) (by omega)
        rw [show i + (s + 1) = i + 1 + s by omega] at this
        simpa [List.getD] using this
theorem nodup_gr (p c : Nat → Nat) : ∀ m i left, (grN p c m i left).Nodup := by
  intro m
  induction m with
  | zero => intro i left; simp only [grN]; split <;> simp
  | succ m ih =>
    intro i left
    simp only [grN]
    refine nodup_flat _ _ List.nodup_range (fun d _ => ?_) (fun d _ e _ hde z hz hz' => ?_)
    · rw [List.nodup_iff_pairwise_ne, List.pairwise_map]
      refine (List.nodup_iff_pairwise_ne.1 (ih (i + 1) (left - d))).imp fun hab e => hab (by simpa using e)
    · obtain ⟨q1, _, rfl⟩ := List.mem_map.1 hz
      obtain ⟨q2, _, e2⟩ := List.mem_map.1 hz'
      simp only [List.cons.injEq] at e2
      omega

/-- The strips, as Grown lists them. -/
def gwn (p c : Nat → Nat) (m k : Nat) : List (List Nat) := (grN p c m 0 k).map trimZ
theorem sum_ext {f g : Nat → Nat} {m : Nat} (h : ∀ r, r < m → f r = g r) : ((List.range m).map f).sum = ((List.range m).map g).sum := by
  rw [List.map_congr_left fun r hr => h r (List.mem_range.1 hr)]
theorem mem_gwn {p c : Nat → Nat} {m k : Nat} (hp : ∀ r, m ≤ r → p r = 0) (q : List Nat) : q ∈ gwn p c m k ↔ Strip p c m k q := by
  unfold gwn
  rw [List.mem_map]
  constructor
  · rintro ⟨q', hq, rfl⟩
    obtain ⟨h1, h2, h3⟩ := (mem_gr p c m 0 k q').1 hq
    have hlo : ∀ r, p r ≤ q'.getD r 0 := fun r => by
      by_cases hr : r < m
      · have := (h2 r hr).1; simpa using this
      · rw [hp r (by omega)]; omega
    have hdec : ∀ r, q'.getD (r + 1) 0 ≤ q'.getD r 0 := fun r => by
      by_cases hr : r + 1 < m
      · have := (h2 (r + 1) hr).2
        unfold hiG at this
        rw [if_neg (by omega)] at this
        simp only [Nat.zero_add, Nat.add_sub_cancel] at this
        have := hlo r
        omega
      · rw [getD_out (q := q') (by omega)]; omega
    refine ⟨Nat.le_trans (trimZ_len q') (by omega), trimZ_pos hdec, fun r => by rw [trimZ_at]; exact hlo r, fun r hr => ?_, ?_⟩
    · rw [trimZ_at]
      have := (h2 r hr).2
      simpa using this
    · rw [← h3]
      exact sum_ext fun r _ => by rw [trimZ_at, Nat.zero_add]
  · intro h
    have he : ∀ r, (q ++ List.replicate (m - q.length) 0).getD r 0 = q.getD r 0 := fun r => by
      simp only [List.getD]
      by_cases hr : r < q.length
      · rw [List.getElem?_append_left hr]
      · rw [List.getElem?_append_right (by omega), List.getElem?_replicate, List.getElem?_eq_none (l := q) (by omega)]
        split <;> rfl
    refine ⟨q ++ List.replicate (m - q.length) 0, (mem_gr p c m 0 k _).2 ⟨by have := h.len; simp; omega, fun s hs => ?_, ?_⟩, ?_⟩
    · rw [he, Nat.zero_add]; exact ⟨h.lo s, h.hi s hs⟩
    · rw [← h.sum]
      exact sum_ext fun r _ => by rw [he, Nat.zero_add]
    · have h0 : ∀ k, trimZ (q ++ List.replicate k 0) = trimZ q := by
        intro k
        induction k with
        | zero => simp
        | succ k ih => rw [List.replicate_succ', ← List.append_assoc, trimZ_zero, ih]
      rw [h0]
      rcases List.eq_nil_or_concat q with e | ⟨l, u, e⟩
      · rw [e]; rfl
      · rw [e]
        have hu : u ≠ 0 := fun e2 => by
          have := h.pos l.length (by rw [e]; simp)
          rw [e] at this
          simp [List.getD, e2] at this
        have := trimZ_end hu l
        simpa using this
theorem nodup_gwn (p c : Nat → Nat) (m k : Nat) : (gwn p c m k).Nodup := by
  unfold gwn
  rw [List.nodup_iff_pairwise_ne, List.pairwise_map]
  refine List.Pairwise.imp_of_mem ?_ (List.nodup_iff_pairwise_ne.1 (nodup_gr p c m 0 k))
  intro q q' h1 h2 hne e
  exact hne (trimZ_inj (((mem_gr p c m 0 k q).1 h1).1.trans ((mem_gr p c m 0 k q').1 h2).1.symm) e)

/-- The list behind letter x. -/
def refL (a : List Nat) (b c : Nat → Nat) (m : Nat) : Nat → List (List (List Nat))
  | 0 => [a.map fun k => List.replicate k 0]
  | x + 1 => (refL a b c m x).flatMap fun t => ((gwn (len2 t) c m (b (x + 1))).map (growT t (x + 1))).filter fun t' => decide (x + 1 = 1) || lat (x + 1) 0 (rwd t')

theorem mem_refL {al : List Nat} {b c : Nat → Nat} {m : Nat} (hm : ∀ r, m ≤ r → c r = 0) (ha : ∀ r, al.getD (r + 1) 0 ≤ al.getD r 0) (hpos : ∀ r, r < al.length → 0 < al.getD r 0) (hac : ∀ r, al.getD r 0 ≤ c r) :
    ∀ x t, t ∈ refL al b c m x ↔ PF (fun r => al.getD r 0) b c m x t := by
  have hlm : al.length ≤ m := by
    rcases Nat.lt_or_ge m al.length with h | h
    · have h1 := hpos m h
      have h2 := hac m
      rw [hm m (Nat.le_refl _)] at h2; omega
    · exact h
  have hrow : ∀ r, nrow (al.map fun k => List.replicate k 0) r = List.replicate (al.getD r 0) 0 := fun r => by
    unfold nrow
    simp only [List.getD, List.getElem?_map]
    cases al[r]? with
    | none => rfl
    | some v => rfl
  have hl2 : ∀ r, len2 (al.map fun k => List.replicate k 0) r = al.getD r 0 := fun r => by unfold len2; rw [hrow]; simp
  intro x
  induction x with
  | zero =>
    intro t
    simp only [refL, List.mem_singleton]
    constructor
    · rintro rfl
      refine ⟨by simpa using hlm, fun r hr => by rw [hl2]; exact hpos r (by simpa using hr), fun r => by rw [hl2]; exact Nat.le_refl _, fun r => by rw [hl2]; exact hac r, fun r => by rw [hl2, hl2]; exact ha r, fun r j hj => ?_, fun r j h1 h2 => by rw [hl2] at h2; omega, fun r => by rw [hrow]; exact List.pairwise_replicate.2 (Or.inr (Nat.le_refl _)), fun r j h1 h2 => by rw [hl2] at h2; omega, fun y h1 h2 => by omega, fun y h1 h2 => by omega⟩
      unfold at2
      rw [hrow]
      simp only [List.getD, List.getElem?_replicate]
      split <;> rfl
    · intro h
      refine tab_ext h.ne (fun r hr => by rw [hl2]; exact hpos r (by simpa using hr)) (fun r => ?_)
      have hlen : len2 t r = al.getD r 0 := by
        have h1 := h.lo r
        rcases Nat.lt_or_ge (al.getD r 0) (len2 t r) with h2 | h2
        · have := h.pos r _ (Nat.le_refl _) h2; omega
        · exact Nat.le_antisymm h2 h1
      rw [hrow, List.eq_replicate_iff]
      exact ⟨hlen, fun e he => by have := h.le r e he; omega⟩
  | succ x ih =>
    intro t'
    simp only [refL, List.mem_flatMap, List.mem_filter, List.mem_map]
    constructor
    · rintro ⟨t, ht, ⟨q, hq, rfl⟩, hl⟩
      have hp := (ih t).1 ht
      refine hp.grow ((mem_gwn (fun r hr => ?_) q).1 hq) ?_
      · have := hp.hi r; rw [hm r hr] at this; omega
      · simpa [Bool.or_eq_true] using hl
    · intro h
      obtain ⟨h1, h2, h3, h4⟩ := h.cut ha
      refine ⟨cutT x t', (ih _).2 h1, ⟨t'.map List.length, (mem_gwn (fun r hr => ?_) _).2 h3, h4⟩, ?_⟩
      · have := h1.hi r; rw [hm r hr] at this; omega
      · by_cases e : x + 1 = 1
        · simp [e]
        · rw [h.ltc (x + 1) (by omega) (Nat.le_refl _)]; simp

theorem lens_of {q : List Nat} {t : List (List Nat)} {x : Nat} (h : ∀ r, len2 t r ≤ q.getD r 0) : (growT t x q).map List.length = q := by
  refine List.ext_getElem (by simp [growT]) fun r h1 h2 => ?_
  have := grow_len (x := x) h r
  unfold len2 nrow at this
  have h3 : r < (growT t x q).length := by simpa using h1
  simp only [List.getElem_map]
  simpa [List.getD, h2, h3] using this
theorem nodup_refL {al : List Nat} {b c : Nat → Nat} {m : Nat} (hm : ∀ r, m ≤ r → c r = 0) (ha : ∀ r, al.getD (r + 1) 0 ≤ al.getD r 0) (hpos : ∀ r, r < al.length → 0 < al.getD r 0) (hac : ∀ r, al.getD r 0 ≤ c r) :
    ∀ x, (refL al b c m x).Nodup := by
  intro x
  induction x with
  | zero => simp [refL]
  | succ x ih =>
    have hk : ∀ t, t ∈ refL al b c m x → PF (fun r => al.getD r 0) b c m x t := fun t ht => (mem_refL hm ha hpos hac x t).1 ht
    have hs : ∀ t, t ∈ refL al b c m x → ∀ q, q ∈ gwn (len2 t) c m (b (x + 1)) → ∀ r, len2 t r ≤ q.getD r 0 := fun t ht q hq =>
      ((mem_gwn (fun r hr => by have := (hk t ht).hi r; rw [hm r hr] at this; omega) q).1 hq).lo
    simp only [refL]
    refine nodup_flat _ _ ih (fun t ht => ?_) (fun t ht t2 ht2 hne z hz hz2 => ?_)
    · refine List.Sublist.nodup (List.filter_sublist) ?_
      rw [List.nodup_iff_pairwise_ne, List.pairwise_map]
      refine List.Pairwise.imp_of_mem ?_ (List.nodup_iff_pairwise_ne.1 (nodup_gwn (len2 t) c m (b (x + 1))))
      intro q q' h1 h2 hne e
      have e1 := lens_of (x := x + 1) (hs t ht q h1)
      have e2 := lens_of (x := x + 1) (hs t ht q' h2)
      rw [e] at e1
      exact hne (e1.symm.trans e2)
    · obtain ⟨q, hq, rfl⟩ := List.mem_map.1 (List.mem_filter.1 hz).1
      obtain ⟨q2, hq2, e⟩ := List.mem_map.1 (List.mem_filter.1 hz2).1
      refine hne (tab_ext (hk t ht).ne (hk t2 ht2).ne (fun r => ?_))
      rw [grow_cut (hk t ht) (hs t ht q hq) r, grow_cut (hk t2 ht2) (hs t2 ht2 q2 hq2) r, e]

end Go.Proofs.Ytncokoimbpkapaa
