/-
  Just the tableaux with letters up to M are listed, each once.
-/
import Derived.Test.YtpdlhnniibjfaaiDoorHCnt
namespace Go.Proofs.YtpdlhnniibjfaaiDoor

/-- A tableau of M rows (empty ones among them, perhaps) with letters up to M. -/
structure TabM (M : Nat) (t : List (List Nat)) : Prop where
  rows : t.length = M
  pos : ∀ r j, j < len2 t r → 1 ≤ at2 t r j ∧ at2 t r j ≤ M
  wk : ∀ r, (nrow t r).Pairwise (· ≤ ·)
  st : ∀ r j, j < len2 t (r + 1) → j < len2 t r ∧ at2 t r j < at2 t (r + 1) j
theorem nrow_out {t : List (List Nat)} {r : Nat} (h : t.length ≤ r) : nrow t r = [] := by
  unfold nrow; rw [List.getD, List.getElem?_eq_none h]; rfl
theorem fillU_row (t : List (List Nat)) (P : Nat → Nat) (x n r : Nat) (h : r < n) : nrow (fillU t P x n) r = nrow t r ++ List.replicate (P r - len2 t r) x := by
  unfold fillU; rw [row_map, if_pos h]
theorem fillU_out (t : List (List Nat)) (P : Nat → Nat) (x n r : Nat) (h : n ≤ r) : nrow (fillU t P x n) r = [] := by
  unfold fillU; rw [row_map, if_neg (by omega)]
theorem app_at (l : List Nat) (k x j : Nat) : (l ++ List.replicate k x).getD j 0 = if j < l.length then l.getD j 0 else if j < l.length + k then x else 0 := by
  by_cases h : j < l.length
  · rw [if_pos h]; simp [List.getD, List.getElem?_append_left h]
  · rw [if_neg h]
    simp only [List.getD, List.getElem?_append_right (Nat.le_of_not_lt h), List.getElem?_replicate]
    by_cases h2 : j < l.length + k
    · rw [if_pos h2, if_pos (by omega)]; rfl
    · rw [if_neg h2, if_neg (by omega)]; rfl
/-- In a row in order the small letters come first. -/
theorem small_first {l : List Nat} {x : Nat} (h : l.Pairwise (· ≤ ·)) (hx : ∀ e ∈ l, e ≤ x + 1) (j : Nat) (hj : j < l.length) : (j < (l.filter (fun e => decide (e ≤ x))).length ↔ l.getD j 0 ≤ x) ∧ (j < (l.filter (fun e => decide (e ≤ x))).length → (l.filter (fun e => decide (e ≤ x))).getD j 0 = l.getD j 0) := by
  have e := sorted_split x l h hx
  generalize hF : l.filter (fun e => decide (e ≤ x)) = F at e ⊢
  have hle : ∀ z ∈ F, z ≤ x := fun z hz => by rw [← hF] at hz; simpa using (List.mem_filter.1 hz).2
  have hlen : F.length ≤ l.length := by rw [← hF]; exact List.length_filter_le _ _
  have g : l.getD j 0 = if j < F.length then F.getD j 0 else x + 1 := by
    have := app_at F (l.length - F.length) (x + 1) j
    rw [← e] at this
    rw [this]
    by_cases q : j < F.length
    · rw [if_pos q, if_pos q]
    · rw [if_neg q, if_neg q, if_pos (by omega)]
  by_cases q : j < F.length
  · rw [if_pos q] at g
    have hm := hle _ (mem_at q)
    exact ⟨⟨fun _ => by omega, fun _ => q⟩, fun _ => g.symm⟩
  · rw [if_neg q] at g
    exact ⟨⟨fun z => absurd z q, fun z => by omega⟩, fun z => absurd z q⟩
theorem TabM.le {M : Nat} {t : List (List Nat)} (h : TabM M t) (r : Nat) : ∀ e ∈ nrow t r, e ≤ M := fun e he => by
  obtain ⟨j, hj, rfl⟩ := at_mem he
  exact (h.pos r j hj).2
theorem TabM.low {M : Nat} {t : List (List Nat)} (h : TabM M t) : ∀ r j, j < len2 t r → r + 1 ≤ at2 t r j := by
  intro r
  induction r with
  | zero => intro j hj; exact (h.pos 0 j hj).1
  | succ r ih => intro j hj; have := h.st r j hj; have := ih j this.1; omega
/-- The letters up to M. -/
def cutU (M : Nat) (t : List (List Nat)) : List (List Nat) := (List.range M).map fun r => (nrow t r).filter (fun e => decide (e ≤ M))
theorem cutU_row {M r : Nat} (t : List (List Nat)) (h : r < M) : nrow (cutU M t) r = (nrow t r).filter (fun e => decide (e ≤ M)) := by
  unfold cutU; rw [row_map, if_pos h]
theorem cutU_out {M r : Nat} (t : List (List Nat)) (h : M ≤ r) : nrow (cutU M t) r = [] := by
  unfold cutU; rw [row_map, if_neg (by omega)]
theorem TabM.cut {M : Nat} {t : List (List Nat)} (h : TabM (M + 1) t) : TabM M (cutU M t) := by
  have hin : ∀ r j, j < len2 (cutU M t) r → r < M ∧ j < len2 t r ∧ at2 (cutU M t) r j = at2 t r j ∧ at2 t r j ≤ M := fun r j hj => by
    rcases Nat.lt_or_ge r M with e | e
    · have hl : j < len2 t r := by
        unfold len2 at hj ⊢
        rw [cutU_row t e] at hj
        exact Nat.lt_of_lt_of_le hj (List.length_filter_le _ _)
      have s := small_first (h.wk r) (h.le r) j hl
      unfold len2 at hj
      rw [cutU_row t e] at hj
      refine ⟨e, hl, ?_, s.1.1 hj⟩
      unfold at2; rw [cutU_row t e]; exact s.2 hj
    · unfold len2 at hj; rw [cutU_out t e] at hj; simp at hj
  refine ⟨by simp [cutU], fun r j hj => ?_, fun r => ?_, fun r j hj => ?_⟩
  · obtain ⟨_, h2, h3, h4⟩ := hin r j hj
    rw [h3]; exact ⟨(h.pos r j h2).1, h4⟩
  · rcases Nat.lt_or_ge r M with e | e
    · rw [cutU_row t e]; exact (h.wk r).filter _
    · rw [cutU_out t e]; exact List.Pairwise.nil
  · obtain ⟨h1, h2, h3, h4⟩ := hin (r + 1) j hj
    have h5 := h.st r j h2
    have h6 : j < len2 (cutU M t) r := by
      unfold len2; rw [cutU_row t (by omega)]
      exact (small_first (h.wk r) (h.le r) j h5.1).1.2 (by have : at2 t r j ≤ M := by omega
                                                           exact this)
    exact ⟨h6, by rw [h3, (hin r j h6).2.2.1]; exact h5.2⟩
theorem tab_rows {t t' : List (List Nat)} (hl : t.length = t'.length) (h : ∀ r, r < t.length → nrow t r = nrow t' r) : t = t' := by
  refine List.ext_getElem hl fun r h1 h2 => ?_
  have := h r h1
  simpa [nrow, List.getD, h1, h2] using this
theorem TabM.back {M : Nat} {t : List (List Nat)} (h : TabM (M + 1) t) (P : Nat → Nat) (hP : ∀ r, r < M + 1 → P r = len2 t r) : fillU (cutU M t) P (M + 1) (M + 1) = t := by
  refine tab_rows (by simp [fillU, h.rows]) fun r hr => ?_
  have hr' : r < M + 1 := by simpa [fillU] using hr
  rw [fillU_row _ _ _ _ _ hr', hP r hr']
  have e := sorted_split M (nrow t r) (h.wk r) (h.le r)
  rcases Nat.lt_or_ge r M with q | q
  · unfold len2
    rw [cutU_row t q]; exact e.symm
  · have hn : (nrow t r).filter (fun e => decide (e ≤ M)) = [] := by
      rw [List.filter_eq_nil_iff]
      intro z hz
      obtain ⟨j, hj, rfl⟩ := at_mem hz
      have : r + 1 ≤ (nrow t r).getD j 0 := h.low r j hj
      rw [decide_eq_true_eq]; omega
    unfold len2
    rw [cutU_out t q]
    rw [hn] at e
    simpa using e.symm
theorem TabM.fill {M : Nat} {t : List (List Nat)} (h : TabM M t) (P : Nat → Nat) (h1 : ∀ r, r < M → len2 t r ≤ P r) (h2 : ∀ r, r < M → P (r + 1) ≤ len2 t r) : TabM (M + 1) (fillU t P (M + 1) (M + 1)) ∧ ∀ r, r < M + 1 → len2 (fillU t P (M + 1) (M + 1)) r = P r := by
  have hlen : ∀ r, r < M + 1 → len2 (fillU t P (M + 1) (M + 1)) r = P r := fun r hr => by
    unfold len2
    rw [fillU_row _ _ _ _ _ hr, List.length_append, List.length_replicate]
    have e : len2 t r ≤ P r := by
      rcases Nat.lt_or_ge r M with q | q
      · exact h1 r q
      · unfold len2; rw [nrow_out (by rw [h.rows]; exact q)]; exact Nat.zero_le _
    unfold len2 at e ⊢; omega
  have hin : ∀ r j, j < len2 (fillU t P (M + 1) (M + 1)) r → r < M + 1 := fun r j hj => by
    rcases Nat.lt_or_ge r (M + 1) with q | q
    · exact q
    · unfold len2 at hj; rw [fillU_out _ _ _ _ _ q] at hj; simp at hj
  have hat : ∀ r j, j < len2 (fillU t P (M + 1) (M + 1)) r → at2 (fillU t P (M + 1) (M + 1)) r j = if j < len2 t r then at2 t r j else M + 1 := fun r j hj => by
    have hr := hin r j hj
    unfold len2 at hj
    rw [fillU_row _ _ _ _ _ hr, List.length_append, List.length_replicate] at hj
    unfold at2 len2
    rw [fillU_row _ _ _ _ _ hr, app_at]
    rw [if_pos hj]
  refine ⟨⟨by simp [fillU], fun r j hj => ?_, fun r => ?_, fun r j hj => ?_⟩, hlen⟩
  · rw [hat r j hj]
    split
    · rename_i q; have := h.pos r j q; omega
    · omega
  · rcases Nat.lt_or_ge r (M + 1) with q | q
    · rw [fillU_row _ _ _ _ _ q, List.pairwise_append]
      refine ⟨h.wk r, List.pairwise_replicate.2 (Or.inr (Nat.le_refl _)), fun a ha b hb => ?_⟩
      rw [(List.mem_replicate.1 hb).2]
      have := h.le r a ha; omega
    · rw [fillU_out _ _ _ _ _ q]; exact List.Pairwise.nil
  · have q := hin (r + 1) j hj
    have hj1 : j < P (r + 1) := by rw [← hlen (r + 1) q]; exact hj
    have e1 := h1 r (by omega)
    have e2 := h2 r (by omega)
    have hj2 : j < len2 (fillU t P (M + 1) (M + 1)) r := by rw [hlen r (by omega)]; omega
    refine ⟨hj2, ?_⟩
    rw [hat r j hj2, hat (r + 1) j hj, if_pos (by omega)]
    split
    · rename_i z; exact (h.st r j z).2
    · have := (h.pos r j (by omega)).2; omega
theorem cut_fill {M : Nat} {t : List (List Nat)} (h : TabM M t) (P : Nat → Nat) : cutU M (fillU t P (M + 1) (M + 1)) = t := by
  refine tab_rows (by simp [cutU, h.rows]) fun r hr => ?_
  have hr' : r < M := by simpa [cutU] using hr
  rw [cutU_row _ hr', fillU_row _ _ _ _ _ (by omega), List.filter_append]
  have e1 : (nrow t r).filter (fun e => decide (e ≤ M)) = nrow t r := by
    rw [List.filter_eq_self]
    intro z hz
    simpa using h.le r z hz
  have e2 : (List.replicate (P r - len2 t r) (M + 1)).filter (fun e => decide (e ≤ M)) = [] := by
    rw [List.filter_eq_nil_iff]
    intro z hz
    rw [(List.mem_replicate.1 hz).2]; simp
  rw [e1, e2, List.append_nil]

theorem mem_stL : ∀ M (x : Nat → Nat), (∀ k, k < M → k ≤ x k) → (∀ k, k + 1 < M → x k < x (k + 1)) → ∀ t, t ∈ stL M x ↔ TabM M t ∧ ∀ k, k < M → len2 t (M - 1 - k) + k = x k
  | 0, x, _, _, t => by
    simp only [stL, List.mem_singleton]
    constructor
    · rintro rfl
      exact ⟨⟨rfl, fun r j hj => by simp [len2, nrow] at hj, fun r => by simp [nrow], fun r j hj => by simp [len2, nrow] at hj⟩, fun k hk => by omega⟩
    · rintro ⟨h, _⟩; exact List.eq_nil_of_length_eq_zero h.rows
  | M + 1, x, h0, h1, t => by
    simp only [stL, List.mem_flatMap, List.mem_map]
    have hy0 : ∀ y ∈ bxN M x (fun i => x (i + 1) - x i), (∀ k, k < M → k ≤ y k) ∧ (∀ k, k + 1 < M → y k < y (k + 1)) ∧ ∀ k, k < M → x k ≤ y k ∧ y k < x (k + 1) := fun y hy => by
      have hb := ((mem_bxN _ _ _ _).1 hy).1
      have hb' : ∀ k, k < M → x k ≤ y k ∧ y k < x (k + 1) := fun k hk => by have := hb k hk; have := h1 k (by omega); omega
      exact ⟨fun k hk => by have := hb' k hk; have := h0 k (by omega); omega, fun k hk => by have := hb' k (by omega); have := hb' (k + 1) hk; omega, hb'⟩
    constructor
    · rintro ⟨y, hy, s, hs, rfl⟩
      obtain ⟨a1, a2, a3⟩ := hy0 y hy
      obtain ⟨b1, b2⟩ := (mem_stL M y a1 a2 s).1 hs
      have hl : ∀ r, r < M → len2 s r + (M - 1 - r) = y (M - 1 - r) := fun r hr => by
        have := b2 (M - 1 - r) (by omega)
        rw [show M - 1 - (M - 1 - r) = r by omega] at this; exact this
      have hf := b1.fill (fun r => x (M - r) - (M - r)) (fun r hr => by
        have e1 := hl r hr
        have e2 := a3 (M - 1 - r) (by omega)
        rw [show M - 1 - r + 1 = M - r by omega] at e2
        show _ ≤ x (M - r) - (M - r)
        omega) (fun r hr => by
        have e1 := hl r hr
        have e2 := a3 (M - 1 - r) (by omega)
        show x (M - (r + 1)) - (M - (r + 1)) ≤ _
        rw [show M - (r + 1) = M - 1 - r by omega]
        omega)
      refine ⟨hf.1, fun k hk => ?_⟩
      rw [hf.2 _ (by omega)]
      have := h0 k hk
      rw [show M - (M + 1 - 1 - k) = k by omega]; omega
    · rintro ⟨h, hx⟩
      have hc := h.cut
      have hl : ∀ r, r < M + 1 → len2 t r + (M - r) = x (M - r) := fun r hr => by
        have := hx (M - r) (by omega)
        rw [show M + 1 - 1 - (M - r) = r by omega] at this; exact this
      have hP : ∀ r, r < M + 1 → x (M - r) - (M - r) = len2 t r := fun r hr => by have := hl r hr; omega
      have hc1 : ∀ r, r < M → len2 (cutU M t) r ≤ len2 t r ∧ len2 t (r + 1) ≤ len2 (cutU M t) r := fun r hr => by
        refine ⟨?_, ?_⟩
        · unfold len2; rw [cutU_row t hr]; exact List.length_filter_le _ _
        · rcases Nat.lt_or_ge (len2 (cutU M t) r) (len2 t (r + 1)) with q | q
          · have s := h.st r _ q
            have e1 := (h.pos (r + 1) _ q).2
            have e2 := (small_first (h.wk r) (h.le r) _ s.1).1.2 (by have : at2 t r (len2 (cutU M t) r) ≤ M := by omega
                                                                     exact this)
            unfold len2 at e2
            rw [cutU_row t hr] at e2
            exact absurd e2 (Nat.lt_irrefl _)
          · exact q
      refine ⟨fun k => if k < M then len2 (cutU M t) (M - 1 - k) + k else 0, (mem_bxN _ _ _ _).2 ⟨fun k hk => ?_, fun k hk => by rw [if_neg (by omega)]⟩, cutU M t, ?_, h.back _ hP⟩
      · rw [if_pos hk]
        have e1 := hc1 (M - 1 - k) (by omega)
        have e2 := hl (M - k) (by omega)
        have e3 := hl (M - 1 - k) (by omega)
        rw [show M - (M - k) = k by omega] at e2
        rw [show M - (M - 1 - k) = k + 1 by omega] at e3
        rw [show M - 1 - k + 1 = M - k by omega] at e1
        omega
      · refine (mem_stL M _ (fun k hk => by rw [if_pos hk]; omega) (fun k hk => ?_) _).2 ⟨hc, fun k hk => by rw [if_pos hk]⟩
        rw [if_pos (by omega), if_pos hk]
        have e1 := hc1 (M - 1 - k) (by omega)
        have e4 := hc1 (M - 1 - (k + 1)) (by omega)
        rw [show M - 1 - (k + 1) + 1 = M - 1 - k by omega] at e4
        omega
theorem nodup_stL : ∀ M (x : Nat → Nat), (∀ k, k < M → k ≤ x k) → (∀ k, k + 1 < M → x k < x (k + 1)) → (stL M x).Nodup
  | 0, _, _, _ => by simp [stL]
  | M + 1, x, h0, h1 => by
    have hy0 : ∀ y ∈ bxN M x (fun i => x (i + 1) - x i), (∀ k, k < M → k ≤ y k) ∧ (∀ k, k + 1 < M → y k < y (k + 1)) := fun y hy => by
      have hb := ((mem_bxN _ _ _ _).1 hy).1
      have hb' : ∀ k, k < M → x k ≤ y k ∧ y k < x (k + 1) := fun k hk => by have := hb k hk; have := h1 k (by omega); omega
      exact ⟨fun k hk => by have := hb' k hk; have := h0 k (by omega); omega, fun k hk => by have := hb' k (by omega); have := hb' (k + 1) hk; omega⟩
    rw [stL]
    refine nodup_flat _ _ (nodup_bxN _ _ _) (fun y hy => ?_) (fun y hy y' hy' hne z hz hz' => ?_)
    · obtain ⟨a1, a2⟩ := hy0 y hy
      refine nodup_mapI _ _ (fun s hs s' hs' e => ?_) (nodup_stL M y a1 a2)
      rw [← cut_fill ((mem_stL M y a1 a2 s).1 hs).1 (fun r => x (M - r) - (M - r)), e, cut_fill ((mem_stL M y a1 a2 s').1 hs').1]
    · obtain ⟨s, hs, rfl⟩ := List.mem_map.1 hz
      obtain ⟨s', hs', e⟩ := List.mem_map.1 hz'
      obtain ⟨a1, a2⟩ := hy0 y hy
      obtain ⟨b1, b2⟩ := hy0 y' hy'
      have m1 := (mem_stL M y a1 a2 s).1 hs
      have m2 := (mem_stL M y' b1 b2 s').1 hs'
      have es : s' = s := by rw [← cut_fill m2.1 (fun r => x (M - r) - (M - r)), e, cut_fill m1.1]
      refine hne (funext fun k => ?_)
      rcases Nat.lt_or_ge k M with q | q
      · rw [← m1.2 k q, ← m2.2 k q, es]
      · rw [((mem_bxN _ _ _ _).1 hy).2 k q, ((mem_bxN _ _ _ _).1 hy').2 k q]

end Go.Proofs.YtpdlhnniibjfaaiDoor
