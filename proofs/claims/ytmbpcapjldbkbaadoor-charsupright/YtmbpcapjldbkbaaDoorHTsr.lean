/-
  Tableaux box by box, as package fill lists them: as many as by strips.
-/
import Derived.Test.YtmbpcapjldbkbaaDoorHMem
import Derived.Test.YtmbpcapjldbkbaaDoorRuC
namespace Go.Proofs.YtmbpcapjldbkbaaDoor

/-- The least letter that may come. -/
def loT (g : Nat → Nat → Nat) (i j : Nat) : Nat := max (if j = 0 then 1 else g i (j - 1)) (if i = 0 then 0 else g (i - 1) j + 1)
/-- All tables that come of g, the boxes bs being open. -/
def tsr (hi : Nat → Nat → Nat) (c : Nat → Nat) (m : Nat) : List (Nat × Nat) → (Nat → Nat → Nat) → List (List (List Nat))
  | [], g => [tabN c m g]
  | (i, j) :: bs, g => (List.range' (loT g i j) (hi i j + 1 - loT g i j)).flatMap fun x => tsr hi c m bs (upd2 g i j x)
/-- What is above and what is left of a box comes ahead of it. -/
def OrdR : List (Nat × Nat) → Prop
  | [] => True
  | (i, j) :: bs => (i, j) ∉ bs ∧ (0 < i → (i - 1, j) ∉ bs) ∧ (0 < j → (i, j - 1) ∉ bs) ∧ OrdR bs
theorem loT_congr {g g' : Nat → Nat → Nat} {i j : Nat} (h1 : 0 < i → g (i - 1) j = g' (i - 1) j) (h2 : 0 < j → g i (j - 1) = g' i (j - 1)) : loT g i j = loT g' i j := by
  unfold loT
  congr 1
  · split
    · rfl
    · exact h2 (by omega)
  · split
    · rfl
    · rw [h1 (by omega)]
theorem loT_key {i j : Nat} {bs : List (Nat × Nat)} (ho : OrdR ((i, j) :: bs)) {g g' : Nat → Nat → Nat} (h : ∀ a b, (a, b) ∉ (i, j) :: bs → g' a b = g a b) : loT g' i j = loT g i j := by
  obtain ⟨h1, h2, h3, h4⟩ := ho
  exact loT_congr (fun hi => h _ _ (by simp only [List.mem_cons, not_or]; exact ⟨fun e => by have := (Prod.mk.inj e).1; omega, h2 hi⟩)) (fun hj => h _ _ (by simp only [List.mem_cons, not_or]; exact ⟨fun e => by have := (Prod.mk.inj e).2; omega, h3 hj⟩))
theorem mem_tsr (hi : Nat → Nat → Nat) (c : Nat → Nat) (m : Nat) : ∀ (bs : List (Nat × Nat)) (g : Nat → Nat → Nat) (t : List (List Nat)), OrdR bs →
    (t ∈ tsr hi c m bs g ↔ ∃ g', t = tabN c m g' ∧ (∀ i j, (i, j) ∉ bs → g' i j = g i j) ∧ ∀ i j, (i, j) ∈ bs → loT g' i j ≤ g' i j ∧ g' i j ≤ hi i j) := by
  intro bs
  induction bs with
  | nil =>
    intro g t _
    simp only [tsr, List.mem_singleton]
    constructor
    · rintro rfl; exact ⟨g, rfl, fun _ _ _ => rfl, fun i j h => by cases h⟩
    · rintro ⟨g', rfl, h, _⟩
      rw [show g' = g from funext fun i => funext fun j => h i j (by simp)]
  | cons x bs ih =>
    obtain ⟨i, j⟩ := x
    intro g t ho
    have ho' := ho
    obtain ⟨h1, h2, h3, h4⟩ := ho
    simp only [tsr, List.mem_flatMap]
    constructor
    · rintro ⟨x, hx, ht⟩
      obtain ⟨g', rfl, hg, hl⟩ := (ih _ _ h4).1 ht
      have e : g' i j = x := by rw [hg i j h1, upd2_same]
      have hg2 : ∀ a b, (a, b) ∉ (i, j) :: bs → g' a b = g a b := fun a b hab => by
        simp only [List.mem_cons, not_or] at hab
        rw [hg a b hab.2, upd2_other _ (fun e2 => hab.1 (by rw [e2.1, e2.2]))]
      have k1 := loT_key ho' hg2
      have hr := List.mem_range'_1.1 hx
      refine ⟨g', rfl, hg2, fun a b hab => ?_⟩
      rcases List.mem_cons.1 hab with q | q
      · cases q; rw [k1, e]; omega
      · exact hl a b q
    · rintro ⟨g', rfl, hg, hl⟩
      have k1 := loT_key ho' hg
      have l0 := hl i j (by simp)
      refine ⟨g' i j, List.mem_range'_1.2 ⟨by rw [← k1]; exact l0.1, by rw [← k1]; omega⟩, ?_⟩
      refine (ih _ _ h4).2 ⟨g', rfl, fun a b hab => ?_, fun a b hab => hl a b (by simp [hab])⟩
      by_cases e : a = i ∧ b = j
      · obtain ⟨rfl, rfl⟩ := e; rw [upd2_same]
      · rw [upd2_other _ e]
        exact hg a b (by simp only [List.mem_cons, not_or]; exact ⟨fun e2 => e (Prod.mk.inj e2), hab⟩)
theorem nodup_tsr (hi : Nat → Nat → Nat) (c : Nat → Nat) (m : Nat) : ∀ (bs : List (Nat × Nat)) (g : Nat → Nat → Nat), OrdR bs → (∀ p ∈ bs, p.1 < m ∧ p.2 < c p.1) → (tsr hi c m bs g).Nodup := by
  intro bs
  induction bs with
  | nil => intro g _ _; simp [tsr]
  | cons x bs ih =>
    obtain ⟨i, j⟩ := x
    intro g ho hin
    obtain ⟨h1, h2, h3, h4⟩ := ho
    have hij := hin (i, j) (by simp)
    simp only [tsr]
    have hv : ∀ x t, t ∈ tsr hi c m bs (upd2 g i j x) → (t.getD i []).getD j 0 = x := fun x t ht => by
      obtain ⟨g', rfl, hg, _⟩ := (mem_tsr hi c m bs _ _ h4).1 ht
      rw [tabN_at hij.1 hij.2, hg i j h1, upd2_same]
    exact nodup_flat _ _ (List.nodup_range' ..) (fun x _ => ih _ h4 (fun p hp => hin p (by simp [hp]))) (fun x _ y _ hxy z hz hz' => hxy ((hv x z hz).symm.trans (hv y z hz')))
theorem tsr_congr (hi : Nat → Nat → Nat) (c : Nat → Nat) (m : Nat) : ∀ (bs : List (Nat × Nat)) (g g' : Nat → Nat → Nat), OrdR bs → (∀ i j, (i, j) ∉ bs → g i j = g' i j) → tsr hi c m bs g = tsr hi c m bs g' := by
  intro bs
  induction bs with
  | nil => intro g g' _ h; simp only [tsr]; rw [show g = g' from funext fun i => funext fun j => h i j (by simp)]
  | cons x bs ih =>
    obtain ⟨i, j⟩ := x
    intro g g' ho h
    have e1 := loT_key ho (g' := g) (g := g') h
    obtain ⟨h1, h2, h3, h4⟩ := ho
    simp only [tsr]
    rw [e1]
    congr 1
    funext x
    refine ih _ _ h4 fun a b hab => ?_
    by_cases e : a = i ∧ b = j
    · obtain ⟨rfl, rfl⟩ := e; rw [upd2_same, upd2_same]
    · rw [upd2_other _ e, upd2_other _ e]
      exact h _ _ (by simp only [List.mem_cons, not_or]; exact ⟨fun e2 => e (Prod.mk.inj e2), hab⟩)

/-- The boxes from column j of row i on, row by row. -/
def rowX (i j : Nat) : Nat → List (Nat × Nat)
  | 0 => []
  | n + 1 => (i, j) :: rowX i (j + 1) n
def bxR (c : Nat → Nat) : Nat → Nat → List (Nat × Nat)
  | _, 0 => []
  | i, n + 1 => rowX i 0 (c i) ++ bxR c (i + 1) n
theorem mem_rowX : ∀ n i j a b, (a, b) ∈ rowX i j n ↔ a = i ∧ j ≤ b ∧ b < j + n
  | 0, i, j, a, b => by simp only [rowX]; constructor
                        · intro h; cases h
                        · omega
  | n + 1, i, j, a, b => by
    rw [rowX, List.mem_cons, mem_rowX n, Prod.mk.injEq]; omega
theorem mem_bxR (c : Nat → Nat) : ∀ n i a b, (a, b) ∈ bxR c i n ↔ i ≤ a ∧ a < i + n ∧ b < c a
  | 0, i, a, b => by simp only [bxR]; constructor
                     · intro h; cases h
                     · omega
  | n + 1, i, a, b => by
    rw [bxR, List.mem_append, mem_rowX, mem_bxR c n]
    constructor
    · rintro (⟨rfl, h⟩ | h) <;> omega
    · rintro ⟨h1, h2, h3⟩
      by_cases e : a = i
      · subst e; exact Or.inl ⟨rfl, by omega, by omega⟩
      · exact Or.inr ⟨by omega, by omega, h3⟩
theorem ord_bxR (c : Nat → Nat) : ∀ n i, OrdR (bxR c i n)
  | 0, _ => trivial
  | n + 1, i => by
    rw [bxR]
    have key : ∀ k j, OrdR (rowX i j k ++ bxR c (i + 1) n) := by
      intro k
      induction k with
      | zero => intro j; exact ord_bxR c n (i + 1)
      | succ k ih =>
        intro j
        rw [rowX, List.cons_append]
        refine ⟨fun h => ?_, fun hi h => ?_, fun hj h => ?_, ih (j + 1)⟩ <;> rw [List.mem_append, mem_rowX, mem_bxR] at h <;> omega
    exact key (c i) 0

/-- Empty rows behind. -/
def padT (M : Nat) (t : List (List Nat)) : List (List Nat) := t ++ List.replicate (M - t.length) []
theorem padT_row (M : Nat) (t : List (List Nat)) (r : Nat) : nrow (padT M t) r = nrow t r := by
  unfold nrow padT
  simp only [List.getD]
  by_cases h : r < t.length
  · rw [List.getElem?_append_left h]
  · rw [List.getElem?_append_right (Nat.le_of_not_lt h), List.getElem?_eq_none (Nat.le_of_not_lt h), List.getElem?_replicate]
    split <;> rfl
theorem tabN_nrow {c : Nat → Nat} {m : Nat} {g : Nat → Nat → Nat} {r : Nat} : nrow (tabN c m g) r = if r < m then (List.range (c r)).map (g r) else [] := by
  unfold tabN; exact row_map
theorem tabN_lng (c : Nat → Nat) (m : Nat) (g : Nat → Nat → Nat) : (tabN c m g).length = m := by simp [tabN]
theorem tabN_len2 {c : Nat → Nat} {m : Nat} {g : Nat → Nat → Nat} {r : Nat} : len2 (tabN c m g) r = if r < m then c r else 0 := by
  unfold len2; rw [tabN_nrow]; split <;> simp
theorem tabN_at2 {c : Nat → Nat} {m : Nat} {g : Nat → Nat → Nat} {r j : Nat} (hr : r < m) (hj : j < c r) : at2 (tabN c m g) r j = g r j := tabN_at hr hj
/-- The list of package fill is as long as that by strips. -/
theorem tsr_stL {c ht : Nat → Nat} {m M : Nat} (hm : m ≤ M) (hc0 : ∀ r, m ≤ r → c r = 0) (hd : ∀ r, c (r + 1) ≤ c r) (hh : ∀ r j, r < ht j ↔ j < c r) :
    ((tsr (fun i j => M + 1 + i - ht j) c m (bxR c 0 m) (fun _ _ => 0)).map (padT M)).Perm (stL M (xs c M)) := by
  have hx0 : ∀ k, k < M → k ≤ xs c M k := fun k _ => by unfold xs; omega
  have hx1 : ∀ k, k + 1 < M → xs c M k < xs c M (k + 1) := fun k hk => xs_up hd k hk
  have hin : ∀ p ∈ bxR c 0 m, p.1 < m ∧ p.2 < c p.1 := fun p hp => by
    obtain ⟨a, b⟩ := p
    have := (mem_bxR c m 0 a b).1 hp
    exact ⟨by omega, this.2.2⟩
  have hlen : ∀ t ∈ tsr (fun i j => M + 1 + i - ht j) c m (bxR c 0 m) (fun _ _ => 0), t.length = m := fun t ht' => by
    obtain ⟨g', rfl, _, _⟩ := (mem_tsr _ c m _ _ _ (ord_bxR c m 0)).1 ht'
    exact tabN_lng _ _ _
  refine (List.perm_ext_iff_of_nodup (nodup_mapI _ _ (fun s hs s' hs' e => ?_) (nodup_tsr _ c m _ _ (ord_bxR c m 0) hin)) (nodup_stL M _ hx0 hx1)).2 fun t => ?_
  · unfold padT at e
    rw [hlen s hs, hlen s' hs'] at e
    exact List.append_cancel_right e
  · rw [mem_stL M _ hx0 hx1, List.mem_map]
    constructor
    · rintro ⟨s, hs, rfl⟩
      obtain ⟨g, rfl, _, hg⟩ := (mem_tsr _ c m _ _ _ (ord_bxR c m 0)).1 hs
      have hb : ∀ i j, i < m → j < c i → loT g i j ≤ g i j ∧ g i j ≤ M + 1 + i - ht j := fun i j hi hj => hg i j ((mem_bxR c m 0 i j).2 ⟨Nat.zero_le _, by omega, hj⟩)
      have hl2 : ∀ r, len2 (padT M (tabN c m g)) r = c r := fun r => by
        unfold len2; rw [padT_row]
        have := tabN_len2 (c := c) (m := m) (g := g) (r := r)
        unfold len2 at this
        rw [this]
        split
        · rfl
        · exact (hc0 r (by omega)).symm
      have hat : ∀ r j, j < c r → at2 (padT M (tabN c m g)) r j = g r j := fun r j hj => by
        have hr : r < m := by
          rcases Nat.lt_or_ge r m with q | q
          · exact q
          · rw [hc0 r q] at hj; omega
        have := tabN_at2 (m := m) (g := g) hr hj
        unfold at2 at this ⊢
        rw [padT_row]; exact this
      have hrm : ∀ r j, j < c r → r < m := fun r j hj => by
        rcases Nat.lt_or_ge r m with q | q
        · exact q
        · rw [hc0 r q] at hj; omega
      have hpos : ∀ r j, j < c r → 1 ≤ g r j := fun r j => by
        induction j with
        | zero => intro hj; have := (hb r 0 (hrm r 0 hj) hj).1; unfold loT at this; simp at this; omega
        | succ j ih =>
          intro hj
          have h1 := ih (by omega)
          have h2 := (hb r (j + 1) (hrm r _ hj) hj).1
          unfold loT at h2
          rw [if_neg (by omega), show j + 1 - 1 = j by omega] at h2
          omega
      have hwk : ∀ r j, j + 1 < c r → g r j ≤ g r (j + 1) := fun r j hj => by
        have h2 := (hb r (j + 1) (hrm r _ hj) hj).1
        unfold loT at h2
        rw [if_neg (by omega), show j + 1 - 1 = j by omega] at h2
        omega
      refine ⟨⟨?_, fun r j hj => ?_, fun r => ?_, fun r j hj => ?_⟩, fun k hk => ?_⟩
      · unfold padT; rw [List.length_append, tabN_lng, List.length_replicate]; omega
      · rw [hl2] at hj
        rw [hat r j hj]
        have h1 := (hb r j (hrm r j hj) hj).2
        have h2 := (hh r j).2 hj
        exact ⟨hpos r j hj, by omega⟩
      · rw [padT_row, tabN_nrow]
        split
        · rw [List.pairwise_iff_getElem]
          intro a b ha hb' hab
          simp only [List.length_map, List.length_range] at ha hb'
          simp only [List.getElem_map, List.getElem_range]
          obtain ⟨d, rfl⟩ : ∃ d, b = a + d := ⟨b - a, by omega⟩
          clear hab
          induction d with
          | zero => exact Nat.le_refl _
          | succ d ihd => exact Nat.le_trans (ihd (by omega) (by omega)) (hwk r (a + d) hb')
        · exact List.Pairwise.nil
      · rw [hl2] at hj ⊢
        have hj' : j < c r := Nat.lt_of_lt_of_le hj (hd r)
        rw [hat r j hj', hat (r + 1) j hj]
        have h2 := (hb (r + 1) j (hrm _ _ hj) hj).1
        unfold loT at h2
        rw [if_neg (show ¬ r + 1 = 0 by omega), show r + 1 - 1 = r by omega] at h2
        exact ⟨hj', by omega⟩
      · rw [hl2]; rfl
    · rintro ⟨h, hx⟩
      have hl2 : ∀ r, len2 t r = c r := fun r => by
        rcases Nat.lt_or_ge r M with q | q
        · have := hx (M - 1 - r) (by omega)
          unfold xs at this
          rw [show M - 1 - (M - 1 - r) = r by omega] at this
          omega
        · unfold len2; rw [nrow_out (by rw [h.rows]; exact q), hc0 r (by omega)]; rfl
      have hcol : ∀ d i j, j < c (i + d) → at2 t i j + d ≤ at2 t (i + d) j := fun d i j => by
        induction d with
        | zero => intro _; exact Nat.le_refl _
        | succ d ih =>
          intro hj
          have s := h.st (i + d) j (by rw [hl2]; exact hj)
          rw [hl2] at s
          have := ih s.1
          rw [show i + (d + 1) = i + d + 1 by omega]; omega
      have hpw : ∀ i j, j + 1 < c i → at2 t i j ≤ at2 t i (j + 1) := fun i j hj => by
        have hw := h.wk i
        rw [List.pairwise_iff_getElem] at hw
        have hlen2 : (nrow t i).length = c i := hl2 i
        have := hw j (j + 1) (by omega) (by omega) (by omega)
        unfold at2
        simpa [List.getD, hlen2, hj, (show j < c i by omega)] using this
      refine ⟨tabN c m (fun i j => if j < c i then at2 t i j else 0), (mem_tsr _ c m _ _ _ (ord_bxR c m 0)).2 ⟨_, rfl, fun i j hij => ?_, fun i j hij => ?_⟩, ?_⟩
      · by_cases q : j < c i
        · refine absurd ((mem_bxR c m 0 i j).2 ⟨Nat.zero_le _, ?_, q⟩) hij
          rcases Nat.lt_or_ge i m with z | z
          · omega
          · rw [hc0 i z] at q; omega
        · rw [if_neg q]
      · have hj := ((mem_bxR c m 0 i j).1 hij).2.2
        rw [if_pos hj]
        refine ⟨?_, ?_⟩
        · unfold loT
          have hp := (h.pos i j (by rw [hl2]; exact hj)).1
          have e1 : (if j = 0 then 1 else if j - 1 < c i then at2 t i (j - 1) else 0) ≤ at2 t i j := by
            by_cases q : j = 0
            · rw [if_pos q]; exact hp
            · rw [if_neg q, if_pos (by omega)]
              have := hpw i (j - 1) (by omega)
              rw [show j - 1 + 1 = j by omega] at this
              exact this
          have e2 : (if i = 0 then 0 else (if j < c (i - 1) then at2 t (i - 1) j else 0) + 1) ≤ at2 t i j := by
            by_cases q : i = 0
            · rw [if_pos q]; exact Nat.zero_le _
            · rw [if_neg q]
              have s := h.st (i - 1) j (by rw [show i - 1 + 1 = i by omega, hl2]; exact hj)
              rw [hl2, show i - 1 + 1 = i by omega] at s
              rw [if_pos s.1]; omega
          exact Nat.max_le.2 ⟨e1, e2⟩
        · have h1 := (hh i j).2 hj
          have h2 : j < c (ht j - 1) := (hh (ht j - 1) j).1 (by omega)
          have h3 := hcol (ht j - 1 - i) i j (by rw [show i + (ht j - 1 - i) = ht j - 1 by omega]; exact h2)
          rw [show i + (ht j - 1 - i) = ht j - 1 by omega] at h3
          have h4 := (h.pos (ht j - 1) j (by rw [hl2]; exact h2)).2
          omega
      · refine tab_rows ?_ fun r hr => ?_
        · unfold padT; rw [List.length_append, tabN_lng, List.length_replicate, h.rows]; omega
        · rw [padT_row, tabN_nrow]
          have hlr : (nrow t r).length = c r := hl2 r
          split
          · refine List.ext_getElem (by simp [hlr]) fun j h1 h2 => ?_
            have hj : j < c r := by simpa using h1
            simp only [List.getElem_map, List.getElem_range, if_pos hj]
            unfold at2
            simp [List.getD, h2]
          · rename_i q
            rw [hc0 r (by omega)] at hlr
            exact (List.eq_nil_of_length_eq_zero hlr).symm
/-- STANLEY'S, of the list of package fill. -/
theorem tsr_len {c ht : Nat → Nat} {m M : Nat} (hm : m ≤ M) (hc0 : ∀ r, m ≤ r → c r = 0) (hd : ∀ r, c (r + 1) ≤ c r) (hh : ∀ r j, r < ht j ↔ j < c r) :
    pZ (fun i => pZ (hk c M i) (c i)) M * ((tsr (fun i j => M + 1 + i - ht j) c m (bxR c 0 m) (fun _ _ => 0)).length : Int) = ctn c M := by
  have h1 := (tsr_stL hm hc0 hd hh).length_eq
  rw [List.length_map] at h1
  rw [h1, stL_len M _ (fun i hi => Nat.le_of_lt (xs_up hd i hi))]
  exact hook_content M hd
/-- More rows than letters: none. -/
theorem tsr_none {c ht : Nat → Nat} {m M : Nat} (hm : M < m) (hcp : ∀ r, r < m → 0 < c r) (hh : ∀ r j, r < ht j ↔ j < c r) : tsr (fun i j => M + 1 + i - ht j) c m (bxR c 0 m) (fun _ _ => 0) = [] := by
  rw [List.eq_nil_iff_forall_not_mem]
  intro t ht'
  obtain ⟨g, rfl, _, hg⟩ := (mem_tsr _ c m _ _ _ (ord_bxR c m 0)).1 ht'
  have hb : ∀ i, i < m → loT g i 0 ≤ g i 0 ∧ g i 0 ≤ M + 1 + i - ht 0 := fun i hi => hg i 0 ((mem_bxR c m 0 i 0).2 ⟨Nat.zero_le _, by omega, hcp i hi⟩)
  have hge : ∀ i, i < m → i + 1 ≤ g i 0 := fun i => by
    induction i with
    | zero => intro hi; have := (hb 0 hi).1; unfold loT at this; simp at this; omega
    | succ i ih =>
      intro hi
      have h1 := ih (by omega)
      have h2 := (hb (i + 1) hi).1
      unfold loT at h2
      rw [if_neg (show ¬ i + 1 = 0 by omega), show i + 1 - 1 = i by omega] at h2
      omega
  have h1 := hge (m - 1) (by omega)
  have h2 := (hb (m - 1) (by omega)).2
  have h3 : m - 1 < ht 0 := (hh (m - 1) 0).2 (hcp _ (by omega))
  omega

end Go.Proofs.YtmbpcapjldbkbaaDoor
