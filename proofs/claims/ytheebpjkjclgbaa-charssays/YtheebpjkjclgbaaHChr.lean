/-
  All tableaux with letters up to M, letter by letter: as many as the numbers between tell.
  Just the tableaux with letters up to M are listed, each once.
  Tableaux box by box, as package fill lists them: as many as by strips.
  A quotient of products, lowered factor by factor.
  Partitions as functions; their hooks, turned over.
  Plain mathematics: what makes a partition.
  Plain mathematics: standard tableaux counted down by corners, told by rows; and as many ways lead up as lead down.
  Plain mathematics: strips, and the sums of MURNAGHAN and NAKAYAMA; turned over.
-/
import Derived.Test.YtheebpjkjclgbaaRuC
import Derived.Test.YtheebpjkjclgbaaICnj
namespace Go.Proofs.Ytheebpjkjclgbaa

/-- All y with a i <= y i < a i + w i, i being under k. -/
def bxN : Nat → (Nat → Nat) → (Nat → Nat) → List (Nat → Nat)
  | 0, _, _ => [fun _ => 0]
  | k + 1, a, w => (List.range (w k)).flatMap fun t => (bxN k a w).map fun y => fun i => if i = k then a k + t else y i
theorem mem_bxN : ∀ k (a w y : Nat → Nat), y ∈ bxN k a w ↔ (∀ i, i < k → a i ≤ y i ∧ y i < a i + w i) ∧ ∀ i, k ≤ i → y i = 0
  | 0, a, w, y => by
    simp only [bxN, List.mem_singleton]
    constructor
    · rintro rfl; exact ⟨fun i hi => by omega, fun _ _ => rfl⟩
    · rintro ⟨_, h⟩; exact funext fun i => h i (Nat.zero_le _)
  | k + 1, a, w, y => by
    simp only [bxN, List.mem_flatMap, List.mem_map, List.mem_range]
    constructor
    · rintro ⟨t, ht, y', hy', rfl⟩
      have h := (mem_bxN k a w y').1 hy'
      refine ⟨fun i hi => ?_, fun i hi => ?_⟩
      · by_cases e : i = k
        · subst e; simp only [if_pos]; omega
        · simp only [if_neg e]; exact h.1 i (by omega)
      · dsimp only; rw [if_neg (by omega)]; exact h.2 i (by omega)
    · rintro ⟨h1, h2⟩
      have hk := h1 k (by omega)
      refine ⟨y k - a k, by omega, fun i => if i = k then 0 else y i, (mem_bxN k a w _).2 ⟨fun i hi => by rw [if_neg (by omega)]; exact h1 i (by omega), fun i hi => ?_⟩, funext fun i => ?_⟩
      · by_cases e : i = k
        · rw [if_pos e]
        · rw [if_neg e]; exact h2 i (by omega)
      · by_cases e : i = k
        · subst e; simp only [if_pos]; omega
        · simp only [if_neg e]
theorem nodup_mapI {α β : Type} (f : α → β) : ∀ l : List α, (∀ x ∈ l, ∀ y ∈ l, f x = f y → x = y) → l.Nodup → (l.map f).Nodup := by
  intro l
  induction l with
  | nil => intro _ _; simp
  | cons a l ih =>
    intro h hn
    obtain ⟨ha, hl⟩ := List.nodup_cons.1 hn
    rw [List.map_cons, List.nodup_cons]
    refine ⟨fun hm => ?_, ih (fun x hx y hy => h x (by simp [hx]) y (by simp [hy])) hl⟩
    obtain ⟨b, hb, e⟩ := List.mem_map.1 hm
    exact ha (by rw [← h b (by simp [hb]) a (by simp) e]; exact hb)
theorem nodup_bxN : ∀ k (a w : Nat → Nat), (bxN k a w).Nodup
  | 0, a, w => by simp [bxN]
  | k + 1, a, w => by
    rw [bxN]
    refine nodup_flat _ _ List.nodup_range (fun t _ => ?_) (fun t _ t' _ hne y hy hy' => ?_)
    · refine nodup_mapI _ _ (fun y hy y' hy' e => funext fun i => ?_) (nodup_bxN k a w)
      by_cases q : i = k
      · rw [((mem_bxN k a w y).1 hy).2 i (by omega), ((mem_bxN k a w y').1 hy').2 i (by omega)]
      · have := congrFun e i
        simpa [q] using this
    · obtain ⟨z, _, rfl⟩ := List.mem_map.1 hy
      obtain ⟨z', _, e⟩ := List.mem_map.1 hy'
      have := congrFun e k
      simp at this
      omega
theorem sum_range (f : Nat → Nat) : ∀ n, ((((List.range n).map f).sum : Nat) : Int) = sZ (fun t => (f t : Int)) n
  | 0 => rfl
  | n + 1 => by rw [List.range_succ, List.map_append, List.sum_append, sZ, ← sum_range f n]; simp
theorem sum_flat {α β : Type} (f : α → List β) (F : β → Nat) : ∀ l : List α, ((l.flatMap f).map F).sum = (l.map fun a => ((f a).map F).sum).sum
  | [] => rfl
  | a :: l => by rw [List.flatMap_cons, List.map_append, List.sum_append, sum_flat f F l, List.map_cons, List.sum_cons]
theorem bxN_sum : ∀ k (a w : Nat → Nat) (F : (Nat → Nat) → Nat) (G : (Nat → Int) → Int), (∀ y ∈ bxN k a w, (F y : Int) = G (fun i => (y i : Int))) → ((((bxN k a w).map F).sum : Nat) : Int) = bxS k (fun i => (a i : Int)) w G
  | 0, a, w, F, G, h => by
    simp only [bxN, List.map_cons, List.map_nil, List.sum_cons, List.sum_nil, Nat.add_zero, bxS]
    exact h _ (by simp [bxN])
  | k + 1, a, w, F, G, h => by
    rw [bxN, sum_flat, sum_range, bxS]
    refine sZ_congr _ fun t ht => ?_
    rw [List.map_map]
    refine bxN_sum k a w (F ∘ fun y i => if i = k then a k + t else y i) _ (fun y hy => ?_)
    have e := h (fun i => if i = k then a k + t else y i) (by rw [bxN]; exact List.mem_flatMap.2 ⟨t, List.mem_range.2 ht, List.mem_map.2 ⟨y, hy, rfl⟩⟩)
    simp only [Function.comp]
    rw [e]
    refine congrArg G (funext fun i => ?_)
    unfold upF
    by_cases q : i = k
    · rw [if_pos q, if_pos q]; omega
    · rw [if_neg q, if_neg q]

/-- The table t, its rows filled up to P with x. -/
def fillU (t : List (List Nat)) (P : Nat → Nat) (x n : Nat) : List (List Nat) := (List.range n).map fun r => nrow t r ++ List.replicate (P r - len2 t r) x
/-- The tableaux of numbers x, with letters up to M. -/
def stL : Nat → (Nat → Nat) → List (List (List Nat))
  | 0, _ => [[]]
  | M + 1, x => (bxN M x (fun i => x (i + 1) - x i)).flatMap fun y => (stL M y).map fun t => fillU t (fun r => x (M - r) - (M - r)) (M + 1) (M + 1)
theorem bxS_w : ∀ (k : Nat) (a : Nat → Int) {w w' : Nat → Nat}, (∀ i, i < k → w i = w' i) → ∀ G, bxS k a w G = bxS k a w' G
  | 0, _, _, _, _, _ => rfl
  | k + 1, a, w, w', h, G => by
    rw [bxS, bxS, h k (by omega)]
    exact sZ_congr _ fun t _ => bxS_w k a (fun i hi => h i (by omega)) _
theorem stL_len : ∀ M (x : Nat → Nat), (∀ i, i + 1 < M → x i ≤ x (i + 1)) → ((stL M x).length : Int) = cntG M (fun i => (x i : Int))
  | 0, x, _ => rfl
  | M + 1, x, h => by
    rw [stL, List.length_flatMap, cntG]
    rw [bxN_sum M x _ _ (cntG M) (fun y hy => by
      rw [List.length_map]
      have hb := ((mem_bxN _ _ _ _).1 hy).1
      refine stL_len M y fun i hi => ?_
      have h1 := hb i (by omega)
      have h2 := hb (i + 1) (by omega)
      have h3 := h i (by omega)
      omega)]
    refine bxS_w M _ (fun i hi => ?_) _
    have := h i (by omega)
    omega
end Go.Proofs.Ytheebpjkjclgbaa

namespace Go.Proofs.Ytheebpjkjclgbaa

/-- A tableau of M rows (empty ones among them, perhaps) with letters up to M. -/
structure TabM (M : Nat) (t : List (List Nat)) : Prop where
  rows : t.length = M
  pos : ∀ r j, j < len2 t r → 1 ≤ at2 t r j ∧ at2 t r j ≤ M
  wk : ∀ r, (nrow t r).Pairwise (· ≤ ·)
  st : ∀ r j, j < len2 t (r + 1) → j < len2 t r ∧ at2 t r j < at2 t (r + 1) j
theorem nrow_out {t : List (List Nat)} {r : Nat} (h : t.length ≤ r) : nrow t r = [] := by
  unfold nrow; rw [List.getD, List.getElem?_eq_none h]; rfl
theorem fillU_row (t : List (List Nat)) (P : Nat → Nat) (x n r : Nat) (h : r < n) : nrow (fillU t P x n) r = nrow t r ++ List.replicate (P r - len2 t r) x := by
  unfold fillU; rw [row_map, if_pos h]
theorem fillU_out (t : List (List Nat)) (P : Nat → Nat) (x n r : Nat) (h : n ≤ r) : nrow (fillU t P x n) r = [] := by
  unfold fillU; rw [row_map, if_neg (by omega)]
theorem app_at (l : List Nat) (k x j : Nat) : (l ++ List.replicate k x).getD j 0 = if j < l.length then l.getD j 0 else if j < l.length + k then x else 0 := by
  by_cases h : j < l.length
  · rw [if_pos h]; simp [List.getD, List.getElem?_append_left h]
  · rw [if_neg h]
    simp only [List.getD, List.getElem?_append_right (Nat.le_of_not_lt h), List.getElem?_replicate]
    by_cases h2 : j < l.length + k
    · rw [if_pos h2, if_pos (by omega)]; rfl
    · rw [if_neg h2, if_neg (by omega)]; rfl
/-- In a row in order the small letters come first. -/
theorem small_first {l : List Nat} {x : Nat} (h : l.Pairwise (· ≤ ·)) (hx : ∀ e ∈ l, e ≤ x + 1) (j : Nat) (hj : j < l.length) : (j < (l.filter (fun e => decide (e ≤ x))).length ↔ l.getD j 0 ≤ x) ∧ (j < (l.filter (fun e => decide (e ≤ x))).length → (l.filter (fun e => decide (e ≤ x))).getD j 0 = l.getD j 0) := by
  have e := sorted_split x l h hx
  generalize hF : l.filter (fun e => decide (e ≤ x)) = F at e ⊢
  have hle : ∀ z ∈ F, z ≤ x := fun z hz => by rw [← hF] at hz; simpa using (List.mem_filter.1 hz).2
  have hlen : F.length ≤ l.length := by rw [← hF]; exact List.length_filter_le _ _
  have g : l.getD j 0 = if j < F.length then F.getD j 0 else x + 1 := by
    have := app_at F (l.length - F.length) (x + 1) j
    rw [← e] at this
    rw [this]
    by_cases q : j < F.length
    · rw [if_pos q, if_pos q]
    · rw [if_neg q, if_neg q, if_pos (by omega)]
  by_cases q : j < F.length
  · rw [if_pos q] at g
    have hm := hle _ (mem_at q)
    exact ⟨⟨fun _ => by omega, fun _ => q⟩, fun _ => g.symm⟩
  · rw [if_neg q] at g
    exact ⟨⟨fun z => absurd z q, fun z => by omega⟩, fun z => absurd z q⟩
theorem TabM.le {M : Nat} {t : List (List Nat)} (h : TabM M t) (r : Nat) : ∀ e ∈ nrow t r, e ≤ M := fun e he => by
  obtain ⟨j, hj, rfl⟩ := at_mem he
  exact (h.pos r j hj).2
theorem TabM.low {M : Nat} {t : List (List Nat)} (h : TabM M t) : ∀ r j, j < len2 t r → r + 1 ≤ at2 t r j := by
  intro r
  induction r with
  | zero => intro j hj; exact (h.pos 0 j hj).1
  | succ r ih => intro j hj; have := h.st r j hj; have := ih j this.1; omega
/-- The letters up to M. -/
def cutU (M : Nat) (t : List (List Nat)) : List (List Nat) := (List.range M).map fun r => (nrow t r).filter (fun e => decide (e ≤ M))
theorem cutU_row {M r : Nat} (t : List (List Nat)) (h : r < M) : nrow (cutU M t) r = (nrow t r).filter (fun e => decide (e ≤ M)) := by
  unfold cutU; rw [row_map, if_pos h]
theorem cutU_out {M r : Nat} (t : List (List Nat)) (h : M ≤ r) : nrow (cutU M t) r = [] := by
  unfold cutU; rw [row_map, if_neg (by omega)]
theorem TabM.cut {M : Nat} {t : List (List Nat)} (h : TabM (M + 1) t) : TabM M (cutU M t) := by
  have hin : ∀ r j, j < len2 (cutU M t) r → r < M ∧ j < len2 t r ∧ at2 (cutU M t) r j = at2 t r j ∧ at2 t r j ≤ M := fun r j hj => by
    rcases Nat.lt_or_ge r M with e | e
    · have hl : j < len2 t r := by
        unfold len2 at hj ⊢
        rw [cutU_row t e] at hj
        exact Nat.lt_of_lt_of_le hj (List.length_filter_le _ _)
      have s := small_first (h.wk r) (h.le r) j hl
      unfold len2 at hj
      rw [cutU_row t e] at hj
      refine ⟨e, hl, ?_, s.1.1 hj⟩
      unfold at2; rw [cutU_row t e]; exact s.2 hj
    · unfold len2 at hj; rw [cutU_out t e] at hj; simp at hj
  refine ⟨by simp [cutU], fun r j hj => ?_, fun r => ?_, fun r j hj => ?_⟩
  · obtain ⟨_, h2, h3, h4⟩ := hin r j hj
    rw [h3]; exact ⟨(h.pos r j h2).1, h4⟩
  · rcases Nat.lt_or_ge r M with e | e
    · rw [cutU_row t e]; exact (h.wk r).filter _
    · rw [cutU_out t e]; exact List.Pairwise.nil
  · obtain ⟨h1, h2, h3, h4⟩ := hin (r + 1) j hj
    have h5 := h.st r j h2
    have h6 : j < len2 (cutU M t) r := by
      unfold len2; rw [cutU_row t (by omega)]
      exact (small_first (h.wk r) (h.le r) j h5.1).1.2 (by have : at2 t r j ≤ M := by omega
                                                           exact this)
    exact ⟨h6, by rw [h3, (hin r j h6).2.2.1]; exact h5.2⟩
theorem tab_rows {t t' : List (List Nat)} (hl : t.length = t'.length) (h : ∀ r, r < t.length → nrow t r = nrow t' r) : t = t' := by
  refine List.ext_getElem hl fun r h1 h2 => ?_
  have := h r h1
  simpa [nrow, List.getD, h1, h2] using this
theorem TabM.back {M : Nat} {t : List (List Nat)} (h : TabM (M + 1) t) (P : Nat → Nat) (hP : ∀ r, r < M + 1 → P r = len2 t r) : fillU (cutU M t) P (M + 1) (M + 1) = t := by
  refine tab_rows (by simp [fillU, h.rows]) fun r hr => ?_
  have hr' : r < M + 1 := by simpa [fillU] using hr
  rw [fillU_row _ _ _ _ _ hr', hP r hr']
  have e := sorted_split M (nrow t r) (h.wk r) (h.le r)
  rcases Nat.lt_or_ge r M with q | q
  · unfold len2
    rw [cutU_row t q]; exact e.symm
  · have hn : (nrow t r).filter (fun e => decide (e ≤ M)) = [] := by
      rw [List.filter_eq_nil_iff]
      intro z hz
      obtain ⟨j, hj, rfl⟩ := at_mem hz
      have : r + 1 ≤ (nrow t r).getD j 0 := h.low r j hj
      rw [decide_eq_true_eq]; omega
    unfold len2
    rw [cutU_out t q]
    rw [hn] at e
    simpa using e.symm
theorem TabM.fill {M : Nat} {t : List (List Nat)} (h : TabM M t) (P : Nat → Nat) (h1 : ∀ r, r < M → len2 t r ≤ P r) (h2 : ∀ r, r < M → P (r + 1) ≤ len2 t r) : TabM (M + 1) (fillU t P (M + 1) (M + 1)) ∧ ∀ r, r < M + 1 → len2 (fillU t P (M + 1) (M + 1)) r = P r := by
  have hlen : ∀ r, r < M + 1 → len2 (fillU t P (M + 1) (M + 1)) r = P r := fun r hr => by
    unfold len2
    rw [fillU_row _ _ _ _ _ hr, List.length_append, List.length_replicate]
    have e : len2 t r ≤ P r := by
      rcases Nat.lt_or_ge r M with q | q
      · exact h1 r q
      · unfold len2; rw [nrow_out (by rw [h.rows]; exact q)]; exact Nat.zero_le _
    unfold len2 at e ⊢; omega
  have hin : ∀ r j, j < len2 (fillU t P (M + 1) (M + 1)) r → r < M + 1 := fun r j hj => by
    rcases Nat.lt_or_ge r (M + 1) with q | q
    · exact q
    · unfold len2 at hj; rw [fillU_out _ _ _ _ _ q] at hj; simp at hj
  have hat : ∀ r j, j < len2 (fillU t P (M + 1) (M + 1)) r → at2 (fillU t P (M + 1) (M + 1)) r j = if j < len2 t r then at2 t r j else M + 1 := fun r j hj => by
    have hr := hin r j hj
    unfold len2 at hj
    rw [fillU_row _ _ _ _ _ hr, List.length_append, List.length_replicate] at hj
    unfold at2 len2
    rw [fillU_row _ _ _ _ _ hr, app_at]
    rw [if_pos hj]
  refine ⟨⟨by simp [fillU], fun r j hj => ?_, fun r => ?_, fun r j hj => ?_⟩, hlen⟩
  · rw [hat r j hj]
    split
    · rename_i q; have := h.pos r j q; omega
    · omega
  · rcases Nat.lt_or_ge r (M + 1) with q | q
    · rw [fillU_row _ _ _ _ _ q, List.pairwise_append]
      refine ⟨h.wk r, List.pairwise_replicate.2 (Or.inr (Nat.le_refl _)), fun a ha b hb => ?_⟩
      rw [(List.mem_replicate.1 hb).2]
      have := h.le r a ha; omega
    · rw [fillU_out _ _ _ _ _ q]; exact List.Pairwise.nil
  · have q := hin (r + 1) j hj
    have hj1 : j < P (r + 1) := by rw [← hlen (r + 1) q]; exact hj
    have e1 := h1 r (by omega)
    have e2 := h2 r (by omega)
    have hj2 : j < len2 (fillU t P (M + 1) (M + 1)) r := by rw [hlen r (by omega)]; omega
    refine ⟨hj2, ?_⟩
    rw [hat r j hj2, hat (r + 1) j hj, if_pos (by omega)]
    split
    · rename_i z; exact (h.st r j z).2
    · have := (h.pos r j (by omega)).2; omega
theorem cut_fill {M : Nat} {t : List (List Nat)} (h : TabM M t) (P : Nat → Nat) : cutU M (fillU t P (M + 1) (M + 1)) = t := by
  refine tab_rows (by simp [cutU, h.rows]) fun r hr => ?_
  have hr' : r < M := by simpa [cutU] using hr
  rw [cutU_row _ hr', fillU_row _ _ _ _ _ (by omega), List.filter_append]
  have e1 : (nrow t r).filter (fun e => decide (e ≤ M)) = nrow t r := by
    rw [List.filter_eq_self]
    intro z hz
    simpa using h.le r z hz
  have e2 : (List.replicate (P r - len2 t r) (M + 1)).filter (fun e => decide (e ≤ M)) = [] := by
    rw [List.filter_eq_nil_iff]
    intro z hz
    rw [(List.mem_replicate.1 hz).2]; simp
  rw [e1, e2, List.append_nil]

theorem mem_stL : ∀ M (x : Nat → Nat), (∀ k, k < M → k ≤ x k) → (∀ k, k + 1 < M → x k < x (k + 1)) → ∀ t, t ∈ stL M x ↔ TabM M t ∧ ∀ k, k < M → len2 t (M - 1 - k) + k = x k
  | 0, x, _, _, t => by
    simp only [stL, List.mem_singleton]
    constructor
    · rintro rfl
      exact ⟨⟨rfl, fun r j hj => by simp [len2, nrow] at hj, fun r => by simp [nrow], fun r j hj => by simp [len2, nrow] at hj⟩, fun k hk => by omega⟩
    · rintro ⟨h, _⟩; exact List.eq_nil_of_length_eq_zero h.rows
  | M + 1, x, h0, h1, t => by
    simp only [stL, List.mem_flatMap, List.mem_map]
    have hy0 : ∀ y ∈ bxN M x (fun i => x (i + 1) - x i), (∀ k, k < M → k ≤ y k) ∧ (∀ k, k + 1 < M → y k < y (k + 1)) ∧ ∀ k, k < M → x k ≤ y k ∧ y k < x (k + 1) := fun y hy => by
      have hb := ((mem_bxN _ _ _ _).1 hy).1
      have hb' : ∀ k, k < M → x k ≤ y k ∧ y k < x (k + 1) := fun k hk => by have := hb k hk; have := h1 k (by omega); omega
      exact ⟨fun k hk => by have := hb' k hk; have := h0 k (by omega); omega, fun k hk => by have := hb' k (by omega); have := hb' (k + 1) hk; omega, hb'⟩
    constructor
    · rintro ⟨y, hy, s, hs, rfl⟩
      obtain ⟨a1, a2, a3⟩ := hy0 y hy
      obtain ⟨b1, b2⟩ := (mem_stL M y a1 a2 s).1 hs
      have hl : ∀ r, r < M → len2 s r + (M - 1 - r) = y (M - 1 - r) := fun r hr => by
        have := b2 (M - 1 - r) (by omega)
        rw [show M - 1 - (M - 1 - r) = r by omega] at this; exact this
      have hf := b1.fill (fun r => x (M - r) - (M - r)) (fun r hr => by
        have e1 := hl r hr
        have e2 := a3 (M - 1 - r) (by omega)
        rw [show M - 1 - r + 1 = M - r by omega] at e2
        show _ ≤ x (M - r) - (M - r)
        omega) (fun r hr => by
        have e1 := hl r hr
        have e2 := a3 (M - 1 - r) (by omega)
        show x (M - (r + 1)) - (M - (r + 1)) ≤ _
        rw [show M - (r + 1) = M - 1 - r by omega]
        omega)
      refine ⟨hf.1, fun k hk => ?_⟩
      rw [hf.2 _ (by omega)]
      have := h0 k hk
      rw [show M - (M + 1 - 1 - k) = k by omega]; omega
    · rintro ⟨h, hx⟩
      have hc := h.cut
      have hl : ∀ r, r < M + 1 → len2 t r + (M - r) = x (M - r) := fun r hr => by
        have := hx (M - r) (by omega)
        rw [show M + 1 - 1 - (M - r) = r by omega] at this; exact this
      have hP : ∀ r, r < M + 1 → x (M - r) - (M - r) = len2 t r := fun r hr => by have := hl r hr; omega
      have hc1 : ∀ r, r < M → len2 (cutU M t) r ≤ len2 t r ∧ len2 t (r + 1) ≤ len2 (cutU M t) r := fun r hr => by
        refine ⟨?_, ?_⟩
        · unfold len2; rw [cutU_row t hr]; exact List.length_filter_le _ _
        · rcases Nat.lt_or_ge (len2 (cutU M t) r) (len2 t (r + 1)) with q | q
          · have s := h.st r _ q
            have e1 := (h.pos (r + 1) _ q).2
            have e2 := (small_first (h.wk r) (h.le r) _ s.1).1.2 (by have : at2 t r (len2 (cutU M t) r) ≤ M := by omega
                                                                     exact this)
            unfold len2 at e2
            rw [cutU_row t hr] at e2
            exact absurd e2 (Nat.lt_irrefl _)
          · exact q
      refine ⟨fun k => if k < M then len2 (cutU M t) (M - 1 - k) + k else 0, (mem_bxN _ _ _ _).2 ⟨fun k hk => ?_, fun k hk => by rw [if_neg (by omega)]⟩, cutU M t, ?_, h.back _ hP⟩
      · rw [if_pos hk]
        have e1 := hc1 (M - 1 - k) (by omega)
        have e2 := hl (M - k) (by omega)
        have e3 := hl (M - 1 - k) (by omega)
        rw [show M - (M - k) = k by omega] at e2
        rw [show M - (M - 1 - k) = k + 1 by omega] at e3
        rw [show M - 1 - k + 1 = M - k by omega] at e1
        omega
      · refine (mem_stL M _ (fun k hk => by rw [if_pos hk]; omega) (fun k hk => ?_) _).2 ⟨hc, fun k hk => by rw [if_pos hk]⟩
        rw [if_pos (by omega), if_pos hk]
        have e1 := hc1 (M - 1 - k) (by omega)
        have e4 := hc1 (M - 1 - (k + 1)) (by omega)
        rw [show M - 1 - (k + 1) + 1 = M - 1 - k by omega] at e4
        omega
theorem nodup_stL : ∀ M (x : Nat → Nat), (∀ k, k < M → k ≤ x k) → (∀ k, k + 1 < M → x k < x (k + 1)) → (stL M x).Nodup
  | 0, _, _, _ => by simp [stL]
  | M + 1, x, h0, h1 => by
    have hy0 : ∀ y ∈ bxN M x (fun i => x (i + 1) - x i), (∀ k, k < M → k ≤ y k) ∧ (∀ k, k + 1 < M → y k < y (k + 1)) := fun y hy => by
      have hb := ((mem_bxN _ _ _ _).1 hy).1
      have hb' : ∀ k, k < M → x k ≤ y k ∧ y k < x (k + 1) := fun k hk => by have := hb k hk; have := h1 k (by omega); omega
      exact ⟨fun k hk => by have := hb' k hk; have := h0 k (by omega); omega, fun k hk => by have := hb' k (by omega); have := hb' (k + 1) hk; omega⟩
    rw [stL]
    refine nodup_flat _ _ (nodup_bxN _ _ _) (fun y hy => ?_) (fun y hy y' hy' hne z hz hz' => ?_)
    · obtain ⟨a1, a2⟩ := hy0 y hy
      refine nodup_mapI _ _ (fun s hs s' hs' e => ?_) (nodup_stL M y a1 a2)
      rw [← cut_fill ((mem_stL M y a1 a2 s).1 hs).1 (fun r => x (M - r) - (M - r)), e, cut_fill ((mem_stL M y a1 a2 s').1 hs').1]
    · obtain ⟨s, hs, rfl⟩ := List.mem_map.1 hz
      obtain ⟨s', hs', e⟩ := List.mem_map.1 hz'
      obtain ⟨a1, a2⟩ := hy0 y hy
      obtain ⟨b1, b2⟩ := hy0 y' hy'
      have m1 := (mem_stL M y a1 a2 s).1 hs
      have m2 := (mem_stL M y' b1 b2 s').1 hs'
      have es : s' = s := by rw [← cut_fill m2.1 (fun r => x (M - r) - (M - r)), e, cut_fill m1.1]
      refine hne (funext fun k => ?_)
      rcases Nat.lt_or_ge k M with q | q
      · rw [← m1.2 k q, ← m2.2 k q, es]
      · rw [((mem_bxN _ _ _ _).1 hy).2 k q, ((mem_bxN _ _ _ _).1 hy').2 k q]

end Go.Proofs.Ytheebpjkjclgbaa

namespace Go.Proofs.Ytheebpjkjclgbaa

/-- The least letter that may come. -/
def loT (g : Nat → Nat → Nat) (i j : Nat) : Nat := max (if j = 0 then 1 else g i (j - 1)) (if i = 0 then 0 else g (i - 1) j + 1)
/-- All tables that come of g, the boxes bs being open. -/
def tsr (hi : Nat → Nat → Nat) (c : Nat → Nat) (m : Nat) : List (Nat × Nat) → (Nat → Nat → Nat) → List (List (List Nat))
  | [], g => [tabN c m g]
  | (i, j) :: bs, g => (List.range' (loT g i j) (hi i j + 1 - loT g i j)).flatMap fun x => tsr hi c m bs (upd2 g i j x)
/-- What is above and what is left of a box comes ahead of it. -/
def OrdR : List (Nat × Nat) → Prop
  | [] => True
  | (i, j) :: bs => (i, j) ∉ bs ∧ (0 < i → (i - 1, j) ∉ bs) ∧ (0 < j → (i, j - 1) ∉ bs) ∧ OrdR bs
theorem loT_congr {g g' : Nat → Nat → Nat} {i j : Nat} (h1 : 0 < i → g (i - 1) j = g' (i - 1) j) (h2 : 0 < j → g i (j - 1) = g' i (j - 1)) : loT g i j = loT g' i j := by
  unfold loT
  congr 1
  · split
    · rfl
    · exact h2 (by omega)
  · split
    · rfl
    · rw [h1 (by omega)]
theorem loT_key {i j : Nat} {bs : List (Nat × Nat)} (ho : OrdR ((i, j) :: bs)) {g g' : Nat → Nat → Nat} (h : ∀ a b, (a, b) ∉ (i, j) :: bs → g' a b = g a b) : loT g' i j = loT g i j := by
  obtain ⟨h1, h2, h3, h4⟩ := ho
  exact loT_congr (fun hi => h _ _ (by simp only [List.mem_cons, not_or]; exact ⟨fun e => by have := (Prod.mk.inj e).1; omega, h2 hi⟩)) (fun hj => h _ _ (by simp only [List.mem_cons, not_or]; exact ⟨fun e => by have := (Prod.mk.inj e).2; omega, h3 hj⟩))
theorem mem_tsr (hi : Nat → Nat → Nat) (c : Nat → Nat) (m : Nat) : ∀ (bs : List (Nat × Nat)) (g : Nat → Nat → Nat) (t : List (List Nat)), OrdR bs →
    (t ∈ tsr hi c m bs g ↔ ∃ g', t = tabN c m g' ∧ (∀ i j, (i, j) ∉ bs → g' i j = g i j) ∧ ∀ i j, (i, j) ∈ bs → loT g' i j ≤ g' i j ∧ g' i j ≤ hi i j) := by
  intro bs
  induction bs with
  | nil =>
    intro g t _
    simp only [tsr, List.mem_singleton]
    constructor
    · rintro rfl; exact ⟨g, rfl, fun _ _ _ => rfl, fun i j h => by cases h⟩
    · rintro ⟨g', rfl, h, _⟩
      rw [show g' = g from funext fun i => funext fun j => h i j (by simp)]
  | cons x bs ih =>
    obtain ⟨i, j⟩ := x
    intro g t ho
    have ho' := ho
    obtain ⟨h1, h2, h3, h4⟩ := ho
    simp only [tsr, List.mem_flatMap]
    constructor
    · rintro ⟨x, hx, ht⟩
      obtain ⟨g', rfl, hg, hl⟩ := (ih _ _ h4).1 ht
      have e : g' i j = x := by rw [hg i j h1, upd2_same]
      have hg2 : ∀ a b, (a, b) ∉ (i, j) :: bs → g' a b = g a b := fun a b hab => by
        simp only [List.mem_cons, not_or] at hab
        rw [hg a b hab.2, upd2_other _ (fun e2 => hab.1 (by rw [e2.1, e2.2]))]
      have k1 := loT_key ho' hg2
      have hr := List.mem_range'_1.1 hx
      refine ⟨g', rfl, hg2, fun a b hab => ?_⟩
      rcases List.mem_cons.1 hab with q | q
      · cases q; rw [k1, e]; omega
      · exact hl a b q
    · rintro ⟨g', rfl, hg, hl⟩
      have k1 := loT_key ho' hg
      have l0 := hl i j (by simp)
      refine ⟨g' i j, List.mem_range'_1.2 ⟨by rw [← k1]; exact l0.1, by rw [← k1]; omega⟩, ?_⟩
      refine (ih _ _ h4).2 ⟨g', rfl, fun a b hab => ?_, fun a b hab => hl a b (by simp [hab])⟩
      by_cases e : a = i ∧ b = j
      · obtain ⟨rfl, rfl⟩ := e; rw [upd2_same]
      · rw [upd2_other _ e]
        exact hg a b (by simp only [List.mem_cons, not_or]; exact ⟨fun e2 => e (Prod.mk.inj e2), hab⟩)
theorem nodup_tsr (hi : Nat → Nat → Nat) (c : Nat → Nat) (m : Nat) : ∀ (bs : List (Nat × Nat)) (g : Nat → Nat → Nat), OrdR bs → (∀ p ∈ bs, p.1 < m ∧ p.2 < c p.1) → (tsr hi c m bs g).Nodup := by
  intro bs
  induction bs with
  | nil => intro g _ _; simp [tsr]
  | cons x bs ih =>
    obtain ⟨i, j⟩ := x
    intro g ho hin
    obtain ⟨h1, h2, h3, h4⟩ := ho
    have hij := hin (i, j) (by simp)
    simp only [tsr]
    have hv : ∀ x t, t ∈ tsr hi c m bs (upd2 g i j x) → (t.getD i []).getD j 0 = x := fun x t ht => by
      obtain ⟨g', rfl, hg, _⟩ := (mem_tsr hi c m bs _ _ h4).1 ht
      rw [tabN_at hij.1 hij.2, hg i j h1, upd2_same]
    exact nodup_flat _ _ (List.nodup_range' ..) (fun x _ => ih _ h4 (fun p hp => hin p (by simp [hp]))) (fun x _ y _ hxy z hz hz' => hxy ((hv x z hz).symm.trans (hv y z hz')))
theorem tsr_congr (hi : Nat → Nat → Nat) (c : Nat → Nat) (m : Nat) : ∀ (bs : List (Nat × Nat)) (g g' : Nat → Nat → Nat), OrdR bs → (∀ i j, (i, j) ∉ bs → g i j = g' i j) → tsr hi c m bs g = tsr hi c m bs g' := by
  intro bs
  induction bs with
  | nil => intro g g' _ h; simp only [tsr]; rw [show g = g' from funext fun i => funext fun j => h i j (by simp)]
  | cons x bs ih =>
    obtain ⟨i, j⟩ := x
    intro g g' ho h
    have e1 := loT_key ho (g' := g) (g := g') h
    obtain ⟨h1, h2, h3, h4⟩ := ho
    simp only [tsr]
    rw [e1]
    congr 1
    funext x
    refine ih _ _ h4 fun a b hab => ?_
    by_cases e : a = i ∧ b = j
    · obtain ⟨rfl, rfl⟩ := e; rw [upd2_same, upd2_same]
    · rw [upd2_other _ e, upd2_other _ e]
      exact h _ _ (by simp only [List.mem_cons, not_or]; exact ⟨fun e2 => e (Prod.mk.inj e2), hab⟩)

/-- The boxes from column j of row i on, row by row. -/
def rowX (i j : Nat) : Nat → List (Nat × Nat)
  | 0 => []
  | n + 1 => (i, j) :: rowX i (j + 1) n
def bxR (c : Nat → Nat) : Nat → Nat → List (Nat × Nat)
  | _, 0 => []
  | i, n + 1 => rowX i 0 (c i) ++ bxR c (i + 1) n
theorem mem_rowX : ∀ n i j a b, (a, b) ∈ rowX i j n ↔ a = i ∧ j ≤ b ∧ b < j + n
  | 0, i, j, a, b => by simp only [rowX]; constructor
                        · intro h; cases h
                        · omega
  | n + 1, i, j, a, b => by
    rw [rowX, List.mem_cons, mem_rowX n, Prod.mk.injEq]; omega
theorem mem_bxR (c : Nat → Nat) : ∀ n i a b, (a, b) ∈ bxR c i n ↔ i ≤ a ∧ a < i + n ∧ b < c a
  | 0, i, a, b => by simp only [bxR]; constructor
                     · intro h; cases h
                     · omega
  | n + 1, i, a, b => by
    rw [bxR, List.mem_append, mem_rowX, mem_bxR c n]
    constructor
    · rintro (⟨rfl, h⟩ | h) <;> omega
    · rintro ⟨h1, h2, h3⟩
      by_cases e : a = i
      · subst e; exact Or.inl ⟨rfl, by omega, by omega⟩
      · exact Or.inr ⟨by omega, by omega, h3⟩
theorem ord_bxR (c : Nat → Nat) : ∀ n i, OrdR (bxR c i n)
  | 0, _ => trivial
  | n + 1, i => by
    rw [bxR]
    have key : ∀ k j, OrdR (rowX i j k ++ bxR c (i + 1) n) := by
      intro k
      induction k with
      | zero => intro j; exact ord_bxR c n (i + 1)
      | succ k ih =>
        intro j
        rw [rowX, List.cons_append]
        refine ⟨fun h => ?_, fun hi h => ?_, fun hj h => ?_, ih (j + 1)⟩ <;> rw [List.mem_append, mem_rowX, mem_bxR] at h <;> omega
    exact key (c i) 0

/-- Empty rows behind. -/
def padT (M : Nat) (t : List (List Nat)) : List (List Nat) := t ++ List.replicate (M - t.length) []
theorem padT_row (M : Nat) (t : List (List Nat)) (r : Nat) : nrow (padT M t) r = nrow t r := by
  unfold nrow padT
  simp only [List.getD]
  by_cases h : r < t.length
  · rw [List.getElem?_append_left h]
  · rw [List.getElem?_append_right (Nat.le_of_not_lt h), List.getElem?_eq_none (Nat.le_of_not_lt h), List.getElem?_replicate]
    split <;> rfl
theorem tabN_nrow {c : Nat → Nat} {m : Nat} {g : Nat → Nat → Nat} {r : Nat} : nrow (tabN c m g) r = if r < m then (List.range (c r)).map (g r) else [] := by
  unfold tabN; exact row_map
theorem tabN_lng (c : Nat → Nat) (m : Nat) (g : Nat → Nat → Nat) : (tabN c m g).length = m := by simp [tabN]
theorem tabN_len2 {c : Nat → Nat} {m : Nat} {g : Nat → Nat → Nat} {r : Nat} : len2 (tabN c m g) r = if r < m then c r else 0 := by
  unfold len2; rw [tabN_nrow]; split <;> simp
theorem tabN_at2 {c : Nat → Nat} {m : Nat} {g : Nat → Nat → Nat} {r j : Nat} (hr : r < m) (hj : j < c r) : at2 (tabN c m g) r j = g r j := tabN_at hr hj
/-- The list of package fill is as long as that by strips. -/
theorem tsr_stL {c ht : Nat → Nat} {m M : Nat} (hm : m ≤ M) (hc0 : ∀ r, m ≤ r → c r = 0) (hd : ∀ r, c (r + 1) ≤ c r) (hh : ∀ r j, r < ht j ↔ j < c r) :
    ((tsr (fun i j => M + 1 + i - ht j) c m (bxR c 0 m) (fun _ _ => 0)).map (padT M)).Perm (stL M (xs c M)) := by
  have hx0 : ∀ k, k < M → k ≤ xs c M k := fun k _ => by unfold xs; omega
  have hx1 : ∀ k, k + 1 < M → xs c M k < xs c M (k + 1) := fun k hk => xs_up hd k hk
  have hin : ∀ p ∈ bxR c 0 m, p.1 < m ∧ p.2 < c p.1 := fun p hp => by
    obtain ⟨a, b⟩ := p
    have := (mem_bxR c m 0 a b).1 hp
    exact ⟨by omega, this.2.2⟩
  have hlen : ∀ t ∈ tsr (fun i j => M + 1 + i - ht j) c m (bxR c 0 m) (fun _ _ => 0), t.length = m := fun t ht' => by
    obtain ⟨g', rfl, _, _⟩ := (mem_tsr _ c m _ _ _ (ord_bxR c m 0)).1 ht'
    exact tabN_lng _ _ _
  refine (List.perm_ext_iff_of_nodup (nodup_mapI _ _ (fun s hs s' hs' e => ?_) (nodup_tsr _ c m _ _ (ord_bxR c m 0) hin)) (nodup_stL M _ hx0 hx1)).2 fun t => ?_
  · unfold padT at e
    rw [hlen s hs, hlen s' hs'] at e
    exact List.append_cancel_right e
  · rw [mem_stL M _ hx0 hx1, List.mem_map]
    constructor
    · rintro ⟨s, hs, rfl⟩
      obtain ⟨g, rfl, _, hg⟩ := (mem_tsr _ c m _ _ _ (ord_bxR c m 0)).1 hs
      have hb : ∀ i j, i < m → j < c i → loT g i j ≤ g i j ∧ g i j ≤ M + 1 + i - ht j := fun i j hi hj => hg i j ((mem_bxR c m 0 i j).2 ⟨Nat.zero_le _, by omega, hj⟩)
      have hl2 : ∀ r, len2 (padT M (tabN c m g)) r = c r := fun r => by
        unfold len2; rw [padT_row]
        have := tabN_len2 (c := c) (m := m) (g := g) (r := r)
        unfold len2 at this
        rw [this]
        split
        · rfl
        · exact (hc0 r (by omega)).symm
      have hat : ∀ r j, j < c r → at2 (padT M (tabN c m g)) r j = g r j := fun r j hj => by
        have hr : r < m := by
          rcases Nat.lt_or_ge r m with q | q
          · exact q
          · rw [hc0 r q] at hj; omega
        have := tabN_at2 (m := m) (g := g) hr hj
        unfold at2 at this ⊢
        rw [padT_row]; exact this
      have hrm : ∀ r j, j < c r → r < m := fun r j hj => by
        rcases Nat.lt_or_ge r m with q | q
        · exact q
        · rw [hc0 r q] at hj; omega
      have hpos : ∀ r j, j < c r → 1 ≤ g r j := fun r j => by
        induction j with
        | zero => intro hj; have := (hb r 0 (hrm r 0 hj) hj).1; unfold loT at this; simp at this; omega
        | succ j ih =>
          intro hj
          have h1 := ih (by omega)
          have h2 := (hb r (j + 1) (hrm r _ hj) hj).1
          unfold loT at h2
          rw [if_neg (by omega), show j + 1 - 1 = j by omega] at h2
          omega
      have hwk : ∀ r j, j + 1 < c r → g r j ≤ g r (j + 1) := fun r j hj => by
        have h2 := (hb r (j + 1) (hrm r _ hj) hj).1
        unfold loT at h2
        rw [if_neg (by omega), show j + 1 - 1 = j by omega] at h2
        omega
      refine ⟨⟨?_, fun r j hj => ?_, fun r => ?_, fun r j hj => ?_⟩, fun k hk => ?_⟩
      · unfold padT; rw [List.length_append, tabN_lng, List.length_replicate]; omega
      · rw [hl2] at hj
        rw [hat r j hj]
        have h1 := (hb r j (hrm r j hj) hj).2
        have h2 := (hh r j).2 hj
        exact ⟨hpos r j hj, by omega⟩
      · rw [padT_row, tabN_nrow]
        split
        · rw [List.pairwise_iff_getElem]
          intro a b ha hb' hab
          simp only [List.length_map, List.length_range] at ha hb'
          simp only [List.getElem_map, List.getElem_range]
          obtain ⟨d, rfl⟩ : ∃ d, b = a + d := ⟨b - a, by omega⟩
          clear hab
          induction d with
          | zero => exact Nat.le_refl _
          | succ d ihd => exact Nat.le_trans (ihd (by omega) (by omega)) (hwk r (a + d) hb')
        · exact List.Pairwise.nil
      · rw [hl2] at hj ⊢
        have hj' : j < c r := Nat.lt_of_lt_of_le hj (hd r)
        rw [hat r j hj', hat (r + 1) j hj]
        have h2 := (hb (r + 1) j (hrm _ _ hj) hj).1
        unfold loT at h2
        rw [if_neg (show ¬ r + 1 = 0 by omega), show r + 1 - 1 = r by omega] at h2
        exact ⟨hj', by omega⟩
      · rw [hl2]; rfl
    · rintro ⟨h, hx⟩
      have hl2 : ∀ r, len2 t r = c r := fun r => by
        rcases Nat.lt_or_ge r M with q | q
        · have := hx (M - 1 - r) (by omega)
          unfold xs at this
          rw [show M - 1 - (M - 1 - r) = r by omega] at this
          omega
        · unfold len2; rw [nrow_out (by rw [h.rows]; exact q), hc0 r (by omega)]; rfl
      have hcol : ∀ d i j, j < c (i + d) → at2 t i j + d ≤ at2 t (i + d) j := fun d i j => by
        induction d with
        | zero => intro _; exact Nat.le_refl _
        | succ d ih =>
          intro hj
          have s := h.st (i + d) j (by rw [hl2]; exact hj)
          rw [hl2] at s
          have := ih s.1
          rw [show i + (d + 1) = i + d + 1 by omega]; omega
      have hpw : ∀ i j, j + 1 < c i → at2 t i j ≤ at2 t i (j + 1) := fun i j hj => by
        have hw := h.wk i
        rw [List.pairwise_iff_getElem] at hw
        have hlen2 : (nrow t i).length = c i := hl2 i
        have := hw j (j + 1) (by omega) (by omega) (by omega)
        unfold at2
        simpa [List.getD, hlen2, hj, (show j < c i by omega)] using this
      refine ⟨tabN c m (fun i j => if j < c i then at2 t i j else 0), (mem_tsr _ c m _ _ _ (ord_bxR c m 0)).2 ⟨_, rfl, fun i j hij => ?_, fun i j hij => ?_⟩, ?_⟩
      · by_cases q : j < c i
        · refine absurd ((mem_bxR c m 0 i j).2 ⟨Nat.zero_le _, ?_, q⟩) hij
          rcases Nat.lt_or_ge i m with z | z
          · omega
          · rw [hc0 i z] at q; omega
        · rw [if_neg q]
      · have hj := ((mem_bxR c m 0 i j).1 hij).2.2
        rw [if_pos hj]
        refine ⟨?_, ?_⟩
        · unfold loT
          have hp := (h.pos i j (by rw [hl2]; exact hj)).1
          have e1 : (if j = 0 then 1 else if j - 1 < c i then at2 t i (j - 1) else 0) ≤ at2 t i j := by
            by_cases q : j = 0
            · rw [if_pos q]; exact hp
            · rw [if_neg q, if_pos (by omega)]
              have := hpw i (j - 1) (by omega)
              rw [show j - 1 + 1 = j by omega] at this
              exact this
          have e2 : (if i = 0 then 0 else (if j < c (i - 1) then at2 t (i - 1) j else 0) + 1) ≤ at2 t i j := by
            by_cases q : i = 0
            · rw [if_pos q]; exact Nat.zero_le _
            · rw [if_neg q]
              have s := h.st (i - 1) j (by rw [show i - 1 + 1 = i by omega, hl2]; exact hj)
              rw [hl2, show i - 1 + 1 = i by omega] at s
              rw [if_pos s.1]; omega
          exact Nat.max_le.2 ⟨e1, e2⟩
        · have h1 := (hh i j).2 hj
          have h2 : j < c (ht j - 1) := (hh (ht j - 1) j).1 (by omega)
          have h3 := hcol (ht j - 1 - i) i j (by rw [show i + (ht j - 1 - i) = ht j - 1 by omega]; exact h2)
          rw [show i + (ht j - 1 - i) = ht j - 1 by omega] at h3
          have h4 := (h.pos (ht j - 1) j (by rw [hl2]; exact h2)).2
          omega
      · refine tab_rows ?_ fun r hr => ?_
        · unfold padT; rw [List.length_append, tabN_lng, List.length_replicate, h.rows]; omega
        · rw [padT_row, tabN_nrow]
          have hlr : (nrow t r).length = c r := hl2 r
          split
          · refine List.ext_getElem (by simp [hlr]) fun j h1 h2 => ?_
            have hj : j < c r := by simpa using h1
            simp only [List.getElem_map, List.getElem_range, if_pos hj]
            unfold at2
            simp [List.getD, h2]
          · rename_i q
            rw [hc0 r (by omega)] at hlr
            exact (List.eq_nil_of_length_eq_zero hlr).symm
/-- STANLEY'S, of the list of package fill. -/
theorem tsr_len {c ht : Nat → Nat} {m M : Nat} (hm : m ≤ M) (hc0 : ∀ r, m ≤ r → c r = 0) (hd : ∀ r, c (r + 1) ≤ c r) (hh : ∀ r j, r < ht j ↔ j < c r) :
    pZ (fun i => pZ (hk c M i) (c i)) M * ((tsr (fun i j => M + 1 + i - ht j) c m (bxR c 0 m) (fun _ _ => 0)).length : Int) = ctn c M := by
  have h1 := (tsr_stL hm hc0 hd hh).length_eq
  rw [List.length_map] at h1
  rw [h1, stL_len M _ (fun i hi => Nat.le_of_lt (xs_up hd i hi))]
  exact hook_content M hd
/-- More rows than letters: none. -/
theorem tsr_none {c ht : Nat → Nat} {m M : Nat} (hm : M < m) (hcp : ∀ r, r < m → 0 < c r) (hh : ∀ r j, r < ht j ↔ j < c r) : tsr (fun i j => M + 1 + i - ht j) c m (bxR c 0 m) (fun _ _ => 0) = [] := by
  rw [List.eq_nil_iff_forall_not_mem]
  intro t ht'
  obtain ⟨g, rfl, _, hg⟩ := (mem_tsr _ c m _ _ _ (ord_bxR c m 0)).1 ht'
  have hb : ∀ i, i < m → loT g i 0 ≤ g i 0 ∧ g i 0 ≤ M + 1 + i - ht 0 := fun i hi => hg i 0 ((mem_bxR c m 0 i 0).2 ⟨Nat.zero_le _, by omega, hcp i hi⟩)
  have hge : ∀ i, i < m → i + 1 ≤ g i 0 := fun i => by
    induction i with
    | zero => intro hi; have := (hb 0 hi).1; unfold loT at this; simp at this; omega
    | succ i ih =>
      intro hi
      have h1 := ih (by omega)
      have h2 := (hb (i + 1) hi).1
      unfold loT at h2
      rw [if_neg (show ¬ i + 1 = 0 by omega), show i + 1 - 1 = i by omega] at h2
      omega
  have h1 := hge (m - 1) (by omega)
  have h2 := (hb (m - 1) (by omega)).2
  have h3 : m - 1 < ht 0 := (hh (m - 1) 0).2 (hcp _ (by omega))
  omega

end Go.Proofs.Ytheebpjkjclgbaa

namespace Go.Proofs.Ytheebpjkjclgbaa

def pL : List Nat → Nat
  | [] => 1
  | a :: l => a * pL l
theorem pL_app (l m : List Nat) : pL (l ++ m) = pL l * pL m := by
  induction l with
  | nil => simp [pL]
  | cons a l ih => rw [List.cons_append, pL, pL, ih, Nat.mul_assoc]
theorem pL_pos {l : List Nat} (h : ∀ a ∈ l, 0 < a) : 0 < pL l := by
  induction l with
  | nil => exact Nat.one_pos
  | cons a l ih => exact Nat.mul_pos (h a (by simp)) (ih fun b hb => h b (by simp [hb]))
/-- What d has in common with the numbers, one behind the other, is taken out of both. -/
def lwd : Nat → List Nat → List Nat × Nat
  | d, [] => ([], d)
  | d, f :: l => (f / Nat.gcd f d :: (lwd (d / Nat.gcd f d) l).1, (lwd (d / Nat.gcd f d) l).2)
theorem lwd_dvd : ∀ (l : List Nat) (d : Nat), (lwd d l).2 ∣ d
  | [], d => Nat.dvd_refl _
  | f :: l, d => by rw [lwd]; exact Nat.dvd_trans (lwd_dvd l _) (Nat.div_dvd_of_dvd (Nat.gcd_dvd_right f d))
theorem lwd_pos : ∀ (l : List Nat) (d : Nat), 0 < d → 0 < (lwd d l).2 := fun l _ h => Nat.pos_of_dvd_of_pos (lwd_dvd l _) h
theorem lwd_len : ∀ (l : List Nat) (d : Nat), (lwd d l).1.length = l.length
  | [], _ => rfl
  | f :: l, d => by rw [lwd, List.length_cons, List.length_cons, lwd_len l]
theorem lwd_prod : ∀ (l : List Nat) (d : Nat), 0 < d → pL (lwd d l).1 * d = pL l * (lwd d l).2
  | [], d, _ => by simp [pL, lwd]
  | f :: l, d, h => by
    have hg : 0 < Nat.gcd f d := Nat.gcd_pos_of_pos_right _ h
    have h1 := Nat.div_mul_cancel (Nat.gcd_dvd_left f d)
    have h2 := Nat.div_mul_cancel (Nat.gcd_dvd_right f d)
    have ih := lwd_prod l (d / Nat.gcd f d) (Nat.div_pos (Nat.le_of_dvd h (Nat.gcd_dvd_right f d)) hg)
    rw [lwd]
    show (f / Nat.gcd f d) * pL (lwd (d / Nat.gcd f d) l).1 * d = f * pL l * (lwd (d / Nat.gcd f d) l).2
    generalize hG : Nat.gcd f d = g at *
    calc f / g * pL (lwd (d / g) l).1 * d = f / g * pL (lwd (d / g) l).1 * (d / g * g) := by rw [h2]
      _ = (f / g * g) * (pL (lwd (d / g) l).1 * (d / g)) := by ac_rfl
      _ = f * pL l * (lwd (d / g) l).2 := by rw [h1, ih]; ac_rfl
theorem lwd_cop : ∀ (l : List Nat) (d : Nat), 0 < d → ∀ f ∈ (lwd d l).1, Nat.Coprime f (lwd d l).2
  | [], _, _, f, hf => by cases hf
  | a :: l, d, h, f, hf => by
    have hg : 0 < Nat.gcd a d := Nat.gcd_pos_of_pos_right _ h
    rw [lwd] at hf ⊢
    rcases List.mem_cons.1 hf with rfl | hf
    · exact Nat.Coprime.coprime_dvd_right (lwd_dvd l _) (Nat.coprime_div_gcd_div_gcd hg)
    · exact lwd_cop l _ (Nat.div_pos (Nat.le_of_dvd h (Nat.gcd_dvd_right a d)) hg) f hf
theorem cop_one : ∀ (l : List Nat) (d : Nat), (∀ f ∈ l, Nat.Coprime f d) → d ∣ pL l → d = 1
  | [], d, _, h => Nat.dvd_one.1 h
  | f :: l, d, h1, h2 => by
    refine cop_one l d (fun g hg => h1 g (by simp [hg])) ?_
    exact Nat.Coprime.dvd_of_dvd_mul_left (h1 f (by simp)).symm h2
/-- Where nothing is left over, it goes whole. -/
theorem lwd_exact {l : List Nat} {d R : Nat} (h : 0 < d) (hR : d * R ∣ pL l) : pL (lwd d l).1 * d = pL l ∧ R ∣ pL (lwd d l).1 := by
  have h1 := lwd_prod l d h
  have h2 := lwd_dvd l d
  obtain ⟨r, hr⟩ := h2
  have hp := lwd_pos l d h
  have h3 : pL (lwd d l).1 * r = pL l := by
    refine Nat.eq_of_mul_eq_mul_right hp ?_
    rw [← h1, Nat.mul_assoc, Nat.mul_comm r, ← hr]
  have hr0 : 0 < r := Nat.pos_of_ne_zero fun e => by rw [e, Nat.mul_zero] at hr; omega
  have h4 : (lwd d l).2 * R ∣ pL (lwd d l).1 := by
    rw [← h3] at hR
    refine Nat.dvd_of_mul_dvd_mul_right hr0 ?_
    rw [show (lwd d l).2 * R * r = (lwd d l).2 * r * R by ac_rfl, ← hr]
    exact hR
  have e := cop_one _ _ (lwd_cop l d h) (Nat.dvd_trans ⟨R, rfl⟩ h4)
  rw [e, Nat.mul_one] at h1
  refine ⟨h1, ?_⟩
  rw [e, Nat.one_mul] at h4
  exact h4
def lows : List Nat → List Nat → List Nat
  | [], l => l
  | d :: ds, l => lows ds (lwd d l).1
theorem lows_prod : ∀ (ds l : List Nat), (∀ d ∈ ds, 0 < d) → pL ds ∣ pL l → pL (lows ds l) * pL ds = pL l
  | [], l, _, _ => by simp [lows, pL]
  | d :: ds, l, h, hd => by
    obtain ⟨h1, h2⟩ := lwd_exact (h d (by simp)) hd
    have ih := lows_prod ds (lwd d l).1 (fun e he => h e (by simp [he])) h2
    rw [lows, pL, ← h1, ← ih]
    ac_rfl
theorem lwd_le : ∀ (l : List Nat) (d b : Nat), (∀ f ∈ l, f ≤ b) → ∀ f ∈ (lwd d l).1, f ≤ b
  | [], _, _, _, f, hf => by cases hf
  | a :: l, d, b, h, f, hf => by
    rw [lwd] at hf
    rcases List.mem_cons.1 hf with rfl | hf
    · exact Nat.le_trans (Nat.div_le_self _ _) (h a (by simp))
    · exact lwd_le l _ b (fun g hg => h g (by simp [hg])) f hf
theorem lows_le : ∀ (ds l : List Nat) (b : Nat), (∀ f ∈ l, f ≤ b) → ∀ f ∈ lows ds l, f ≤ b
  | [], _, _, h => h
  | d :: ds, l, b, h => lows_le ds _ b (lwd_le l d b h)
theorem lows_len : ∀ (ds l : List Nat), (lows ds l).length = l.length
  | [], _ => rfl
  | d :: ds, l => by rw [lows, lows_len ds, lwd_len]
/-- The first k done. -/
theorem lwd_app : ∀ (l m : List Nat) (d : Nat), lwd d (l ++ m) = ((lwd d l).1 ++ (lwd (lwd d l).2 m).1, (lwd (lwd d l).2 m).2)
  | [], _, _ => rfl
  | f :: l, m, d => by rw [List.cons_append, lwd, lwd_app l m]; rfl
theorem lows_app : ∀ (ds es l : List Nat), lows (ds ++ es) l = lows es (lows ds l)
  | [], _, _ => rfl
  | _ :: ds, es, _ => lows_app ds es _

end Go.Proofs.Ytheebpjkjclgbaa

namespace Go.Proofs.Ytheebpjkjclgbaa
open Go.RowKit

theorem ptRoom_sum : ∀ (zs : List Int) (r : Int), 0 ≤ ptRoom r zs → sum zs + ptRoom r zs = r
  | [], r, _ => by simp [ptRoom, sum]
  | z :: l, r, h => by
    rw [ptRoom] at h ⊢
    split at h
    · omega
    · rename_i q
      rw [if_neg q, sum]
      have := ptRoom_sum l (r - z) h
      omega
theorem pt_of {zs : List Int} (h : ptC zs = 0) : IsPt zs := by
  unfold ptC at h
  split at h
  · rename_i h1
    split at h
    · omega
    · rename_i h2
      have hg := ptGoB_iff.1 h1
      have h1' : ∀ z ∈ zs, 1 ≤ z := fun z hz => by
        obtain ⟨j, hj, rfl⟩ := List.mem_iff_getElem.1 hz
        have := (hg j hj).1
        simpa [List.getD, hj] using this
      have hs := ptRoom_sum zs 40 (by omega)
      have key : ∀ l : List Int, (∀ z ∈ l, 1 ≤ z) → (l.length : Int) ≤ sum l ∧ ∀ z ∈ l, z ≤ sum l := by
        intro l
        induction l with
        | nil => intro _; exact ⟨by simp [sum], fun z hz => by cases hz⟩
        | cons a l ih =>
          intro hl
          have h3 := ih fun z hz => hl z (by simp [hz])
          have h4 := hl a (by simp)
          refine ⟨by simp only [List.length_cons, sum]; omega, fun z hz => ?_⟩
          rw [sum]
          rcases List.mem_cons.1 hz with rfl | q
          · omega
          · have := h3.2 z q; omega
      have hk := key zs h1'
      exact ⟨hg, by omega, fun z hz => ⟨h1' z hz, by have := hk.2 z hz; omega⟩, by omega⟩
  · omega
theorem of_pt {zs : List Int} (h : IsPt zs) : ptC zs = 0 := by
  unfold ptC
  rw [if_pos (ptGoB_pos h.goes), if_neg (by have := h.fits; omega)]
/-- Part i. -/
def pF (zs : List Int) (i : Nat) : Nat := (zs.getD i 0).toNat
theorem pF_out {zs : List Int} {i : Nat} (h : zs.length ≤ i) : pF zs i = 0 := by
  unfold pF; rw [List.getD, List.getElem?_eq_none h]; rfl
theorem pF_cast {zs : List Int} (h : IsPt zs) (i : Nat) : zs.getD i 0 = (pF zs i : Int) := by
  unfold pF
  by_cases hi : i < zs.length
  · have := (h.goes i hi).1; omega
  · rw [List.getD, List.getElem?_eq_none (by omega)]; rfl
theorem pF_pos {zs : List Int} (h : IsPt zs) {i : Nat} (hi : i < zs.length) : 0 < pF zs i := by
  have := (h.goes i hi).1; unfold pF; omega
theorem pF_anti {zs : List Int} (h : IsPt zs) (i : Nat) : pF zs (i + 1) ≤ pF zs i := by
  by_cases hi : i + 1 < zs.length
  · have := (h.goes (i + 1) hi).2 (by omega)
    rw [Nat.add_sub_cancel] at this
    unfold pF; omega
  · rw [pF_out (by omega)]; exact Nat.zero_le _
theorem pF_le {zs : List Int} (h : IsPt zs) (i : Nat) : pF zs i ≤ 40 := by
  by_cases hi : i < zs.length
  · have := (h.range (zs.getD i 0) (by simp [List.getD, hi])).2; unfold pF; omega
  · rw [pF_out (by omega)]; omega
theorem pF_mono {zs : List Int} (h : IsPt zs) (i d : Nat) : pF zs (i + d) ≤ pF zs i := by
  induction d with
  | zero => exact Nat.le_refl _
  | succ d ih => exact Nat.le_trans (pF_anti h (i + d)) ih
/-- How many parts reach column j. -/
def htF (zs : List Int) (j : Nat) : Nat := (ptCol zs j).toNat
theorem countP_iff (j : Nat) : ∀ (zs : List Int), (∀ i, pF zs (i + 1) ≤ pF zs i) → ∀ r, r < zs.countP (fun z => decide ((j : Int) < z)) ↔ j < pF zs r
  | [], _, r => by simp [pF]
  | z :: l, h, r => by
    have hl : ∀ i, pF l (i + 1) ≤ pF l i := fun i => h (i + 1)
    have e0 : pF (z :: l) 0 = z.toNat := rfl
    have es : ∀ i, pF (z :: l) (i + 1) = pF l i := fun i => rfl
    have hm : ∀ i, pF (z :: l) i ≤ z.toNat := fun i => by
      induction i with
      | zero => exact Nat.le_refl _
      | succ i ih => exact Nat.le_trans (h i) ih
    rw [List.countP_cons]
    by_cases q : (j : Int) < z
    · rw [if_pos (by simpa using q)]
      cases r with
      | zero => rw [e0]; omega
      | succ r => rw [es, ← countP_iff j l hl r]; omega
    · rw [if_neg (by simpa using q)]
      have h0 : l.countP (fun z => decide ((j : Int) < z)) = 0 := by
        rcases Nat.eq_zero_or_pos (l.countP (fun z => decide ((j : Int) < z))) with e | e
        · exact e
        · have := (countP_iff j l hl 0).1 e
          have := hm 1
          rw [es] at this; omega
      rw [h0]
      have := hm r
      omega
theorem htF_iff {zs : List Int} (h : IsPt zs) (r j : Nat) : r < htF zs j ↔ j < pF zs r := by
  rw [← countP_iff j zs (pF_anti h) r]
  unfold htF ptCol; omega
theorem htF_cast {zs : List Int} (j : Nat) : ptCol zs j = (htF zs j : Int) := by
  unfold htF; have := ptCol_nonneg zs j; omega
theorem htF_le {zs : List Int} (h : IsPt zs) (j : Nat) : htF zs j ≤ zs.length := by
  rcases Nat.lt_or_ge zs.length (htF zs j) with q | q
  · have := (htF_iff h zs.length j).1 q
    rw [pF_out (Nat.le_refl _)] at this; omega
  · exact q
theorem cq_iff {q : Nat → Nat} {j K : Nat} (h : ∀ s, j < q s ↔ s < K) : ∀ t, cq q j t = min K t
  | 0 => by simp [cq]
  | t + 1 => by
    rw [cq, cq_iff h t]
    by_cases e : t < K
    · rw [if_pos ((h t).2 e)]; omega
    · rw [if_neg (fun z => e ((h t).1 z))]; omega
/-- The hook of a box. -/
def hkN (zs : List Int) (i j : Nat) : Nat := (pF zs i - 1 - j) + (htF zs j - 1 - i) + 1
theorem hk_is {zs : List Int} (h : IsPt zs) {M i j : Nat} (hM : zs.length ≤ M) (hj : j < pF zs i) : hk (pF zs) M i j = (hkN zs i j : Int) := by
  have h1 := (htF_iff h i j).2 hj
  have h2 := htF_le h j
  unfold hk hkN
  rw [cq_iff (K := htF zs j - 1 - i) (fun s => by rw [← htF_iff h]; omega)]
  have : min (htF zs j - 1 - i) (M - 1 - i) = htF zs j - 1 - i := by omega
  rw [this]; omega
/-- The rows of hooks. -/
def hkR (zs : List Int) : List (List Nat) := (List.range zs.length).map fun i => (List.range (pF zs i)).map (hkN zs i)
theorem pL_range (f : Nat → Nat) : ∀ n, ((pL ((List.range n).map f) : Nat) : Int) = pZ (fun i => (f i : Int)) n
  | 0 => rfl
  | n + 1 => by rw [List.range_succ, List.map_append, pL_app, pZ, Int.natCast_mul, pL_range f n]; simp [pL]
theorem pL_flat : ∀ ls : List (List Nat), pL ls.flatten = pL (ls.map pL)
  | [] => rfl
  | l :: ls => by rw [List.flatten_cons, pL_app, List.map_cons, pL, pL_flat ls]
theorem pZ_one {f : Nat → Int} : ∀ n, (∀ i, i < n → f i = 1) → pZ f n = 1
  | 0, _ => rfl
  | n + 1, h => by rw [pZ, pZ_one n fun i hi => h i (by omega), h n (by omega)]; rfl
/-- A product over a shape, row by row. -/
theorem shape_prod (f : Nat → Nat → Nat) (P : Nat → Nat) {m M : Nat} (hM : m ≤ M) (h0 : ∀ i, m ≤ i → P i = 0) : ((pL ((List.range m).map fun i => (List.range (P i)).map (f i)).flatten : Nat) : Int) = pZ (fun i => pZ (fun j => (f i j : Int)) (P i)) M := by
  rw [pL_flat, List.map_map, show (pL ∘ fun i => (List.range (P i)).map (f i)) = fun i => pL ((List.range (P i)).map (f i)) from rfl, pL_range]
  obtain ⟨d, rfl⟩ : ∃ d, M = m + d := ⟨M - m, by omega⟩
  rw [pZ_add, pZ_one d (fun i _ => by rw [h0 _ (by omega)]; rfl), Int.mul_one]
  exact pZ_congr m fun i _ => pL_range _ _
theorem hkR_prod {zs : List Int} (h : IsPt zs) {M : Nat} (hM : zs.length ≤ M) : ((pL (hkR zs).flatten : Nat) : Int) = pZ (fun i => pZ (hk (pF zs) M i) (pF zs i)) M := by
  unfold hkR
  rw [shape_prod (hkN zs) (pF zs) hM (fun i hi => pF_out hi)]
  exact pZ_congr M fun i _ => pZ_congr _ fun j hj => (hk_is h hM hj).symm
theorem hkR_pos (zs : List Int) : ∀ z ∈ (hkR zs).flatten, 0 < z := fun z hz => by
  obtain ⟨l, hl, hz⟩ := List.mem_flatten.1 hz
  unfold hkR at hl
  obtain ⟨i, _, rfl⟩ := List.mem_map.1 hl
  obtain ⟨j, _, rfl⟩ := List.mem_map.1 hz
  unfold hkN; omega
theorem hkR_le {zs : List Int} (h : IsPt zs) : ∀ z ∈ (hkR zs).flatten, 0 < z ∧ z ≤ 1000 := fun z hz => by
  refine ⟨hkR_pos zs z hz, ?_⟩
  obtain ⟨l, hl, hz⟩ := List.mem_flatten.1 hz
  unfold hkR at hl
  obtain ⟨i, _, rfl⟩ := List.mem_map.1 hl
  obtain ⟨j, _, rfl⟩ := List.mem_map.1 hz
  have h1 := pF_le h i
  have h2 := htF_le h j
  have h3 := h.len
  unfold hkN; omega
/-- How many boxes. -/
def szN (zs : List Int) : Nat := (hkR zs).flatten.length
theorem len_rows (f : Nat → Nat → Nat) (P : Nat → Nat) : ∀ m, (((List.range m).map fun i => (List.range (P i)).map (f i)).flatten.length : Int) = sZ (fun i => (P i : Int)) m
  | 0 => rfl
  | m + 1 => by
    rw [List.range_succ, List.map_append, List.flatten_append, List.length_append, sZ, ← len_rows f P m]
    simp
theorem szN_sum {zs : List Int} {M : Nat} (hM : zs.length ≤ M) : sZ (fun i => (pF zs i : Int)) M = (szN zs : Int) := by
  unfold szN hkR
  rw [len_rows (hkN zs) (pF zs)]
  obtain ⟨d, rfl⟩ : ∃ d, M = zs.length + d := ⟨M - zs.length, by omega⟩
  clear hM
  induction d with
  | zero => rfl
  | succ d ih => rw [← Nat.add_assoc, sZ, ih, pF_out (by omega)]; simp
/-- 1 .. n. -/
def upTo (n : Nat) : List Nat := (List.range n).map (· + 1)
theorem upTo_prod (n : Nat) : ((pL (upTo n) : Nat) : Int) = fct n := by
  unfold upTo fct
  rw [pL_range]
  exact pZ_congr n fun i _ => by omega
/-- The hooks' product divides. -/
theorem std_dvd {zs : List Int} (h : IsPt zs) : pL (hkR zs).flatten ∣ pL (upTo (szN zs)) := by
  have e := hook_fsd (P := pF zs) zs.length (szN zs) (pF_anti h) (szN_sum (Nat.le_refl _))
  rw [← hkR_prod h (Nat.le_refl _), ← upTo_prod] at e
  exact Int.natCast_dvd_natCast.1 ⟨_, e.symm⟩
/-- The factors of the places. -/
def ctR (zs : List Int) (M : Nat) : List (List Nat) := (List.range zs.length).map fun i => (List.range (pF zs i)).map fun j => M + j - i
/-- All tableaux, as package fill lists them. -/
def tabsOf (zs : List Int) (M : Nat) : List (List (List Nat)) := tsr (fun i j => M + 1 + i - htF zs j) (pF zs) zs.length (bxR (pF zs) 0 zs.length) (fun _ _ => 0)
theorem fil_prod {zs : List Int} (h : IsPt zs) {M : Nat} (hM : zs.length ≤ M) : pL (hkR zs).flatten * (tabsOf zs M).length = pL (ctR zs M).flatten := by
  have e := tsr_len (c := pF zs) (ht := htF zs) hM (fun r hr => pF_out hr) (pF_anti h) (htF_iff h)
  rw [← hkR_prod h hM] at e
  have e2 : ((pL (ctR zs M).flatten : Nat) : Int) = ctn (pF zs) M := by
    unfold ctR ctn
    rw [shape_prod (fun i j => M + j - i) (pF zs) hM (fun i hi => pF_out hi)]
    refine pZ_congr M fun i hi => pZ_congr _ fun j _ => ?_
    omega
  rw [← e2] at e
  exact Int.natCast_inj.1 (by rw [Int.natCast_mul]; exact e)
theorem ctR_le {zs : List Int} (h : IsPt zs) {M : Nat} (hM : zs.length ≤ M) (hM2 : M ≤ 99) : ∀ z ∈ (ctR zs M).flatten, 0 < z ∧ z ≤ 1000 := fun z hz => by
  obtain ⟨l, hl, hz⟩ := List.mem_flatten.1 hz
  unfold ctR at hl
  obtain ⟨i, hi, rfl⟩ := List.mem_map.1 hl
  obtain ⟨j, hj, rfl⟩ := List.mem_map.1 hz
  have := List.mem_range.1 hi
  have := List.mem_range.1 hj
  have := pF_le h i
  omega
theorem tabs_pos {zs : List Int} (h : IsPt zs) {M : Nat} (hM : zs.length ≤ M) (hM2 : M ≤ 99) : (tabsOf zs M).length ≠ 0 := fun e => by
  have h1 := fil_prod h hM
  rw [e, Nat.mul_zero] at h1
  have := pL_pos fun a ha => (ctR_le h hM hM2 a ha).1
  omega
theorem tabs_none {zs : List Int} (h : IsPt zs) {M : Nat} (hM : M < zs.length) : tabsOf zs M = [] :=
  tsr_none hM (fun _ hr => pF_pos h hr) (htF_iff h)

theorem tab_atX {n : Nat} {f : Nat → Int} {j : Nat} (h : j < n) : (tab n f).getD j 0 = f j := by simp [tab, List.getD, h]
/-- Turned over. -/
theorem conj_pF {zs : List Int} (h : IsPt zs) (j : Nat) : pF (ptConj zs) j = htF zs j := by
  unfold pF ptConj
  have hl : (tab (zs.getD 0 0).toNat (ptCol zs)).length = pF zs 0 := by simp [tab, pF]
  by_cases hj : j < pF zs 0
  · rw [show (tab (zs.getD 0 0).toNat (ptCol zs)).getD j 0 = ptCol zs j from tab_atX (n := (zs.getD 0 0).toNat) hj]; rfl
  · rw [List.getD, List.getElem?_eq_none (by rw [hl]; omega)]
    have : ¬ 0 < htF zs j := fun q => hj ((htF_iff h 0 j).1 q)
    show (0 : Int).toNat = _
    simp; omega
theorem conj_len (zs : List Int) : (ptConj zs).length = pF zs 0 := by simp [ptConj, tab, pF]
theorem pZ_swap (f : Nat → Nat → Int) (m : Nat) : ∀ n, pZ (fun i => pZ (f i) m) n = pZ (fun j => pZ (fun i => f i j) n) m
  | 0 => by simp only [pZ]; rw [pZ_one m fun _ _ => rfl]
  | n + 1 => by rw [pZ, pZ_swap f m n, ← pZ_mul]; rfl
theorem pZ_pad (f : Nat → Int) {a A : Nat} (h : a ≤ A) : pZ f a = pZ (fun j => if j < a then f j else 1) A := by
  obtain ⟨d, rfl⟩ : ∃ d, A = a + d := ⟨A - a, by omega⟩
  rw [pZ_add, pZ_one d (fun i _ => if_neg (by omega)), Int.mul_one]
  exact pZ_congr a fun i hi => (if_pos hi).symm
theorem sZ_pad (f : Nat → Int) {a A : Nat} (h : a ≤ A) : sZ f a = sZ (fun j => if j < a then f j else 0) A := by
  obtain ⟨d, rfl⟩ : ∃ d, A = a + d := ⟨A - a, by omega⟩
  clear h
  induction d with
  | zero => exact sZ_congr a fun i hi => (if_pos hi).symm
  | succ d ih => rw [← Nat.add_assoc, sZ, ← ih, if_neg (by omega)]; omega
theorem sZ_ones : ∀ n : Nat, sZ (fun _ => 1) n = (n : Int)
  | 0 => rfl
  | n + 1 => by rw [sZ, sZ_ones n]; omega
theorem conj_sum {zs : List Int} (h : IsPt zs) : sZ (fun j => (htF zs j : Int)) (pF zs 0) = sZ (fun i => (pF zs i : Int)) zs.length := by
  have e1 : ∀ i, i < zs.length → (pF zs i : Int) = sZ (fun j => if j < pF zs i then 1 else 0) (pF zs 0) := fun i _ => by
    rw [← sZ_ones (pF zs i), sZ_pad _ (by have := pF_mono h 0 i; rwa [Nat.zero_add] at this)]
  have e2 : ∀ j, j < pF zs 0 → (htF zs j : Int) = sZ (fun i => if i < htF zs j then 1 else 0) zs.length := fun j _ => by
    rw [← sZ_ones (htF zs j), sZ_pad _ (htF_le h j)]
  rw [sZ_congr _ e1, sZ_congr _ e2, sZ_swap]
  refine sZ_congr _ fun i _ => sZ_congr _ fun j _ => ?_
  by_cases q : j < pF zs i
  · rw [if_pos q, if_pos ((htF_iff h i j).2 q)]
  · rw [if_neg q, if_neg (fun z => q ((htF_iff h i j).1 z))]
theorem sum_sZ : ∀ (zs : List Int), (∀ z ∈ zs, 0 ≤ z) → sum zs = sZ (fun i => (pF zs i : Int)) zs.length
  | [], _ => rfl
  | z :: l, h => by
    rw [sum, List.length_cons, sZ_shift, sum_sZ l fun y hy => h y (by simp [hy])]
    have : pF (z :: l) 0 = z.toNat := rfl
    have := h z (by simp)
    have e : ((pF (z :: l) 0 : Nat) : Int) = z := by omega
    rw [e]; rfl
theorem ptRoom_of : ∀ (zs : List Int) (r : Int), (∀ z ∈ zs, 0 ≤ z) → sum zs ≤ r → 0 ≤ ptRoom r zs
  | [], r, _, h => by simp [ptRoom, sum] at h ⊢; omega
  | z :: l, r, h0, h => by
    rw [sum] at h
    have hl : 0 ≤ sum l := by
      have : ∀ l : List Int, (∀ z ∈ l, 0 ≤ z) → 0 ≤ sum l := by
        intro l
        induction l with
        | nil => intro _; simp [sum]
        | cons a l ih => intro hh; rw [sum]; have := ih fun z hz => hh z (by simp [hz]); have := hh a (by simp); omega
      exact this l fun y hy => h0 y (by simp [hy])
    rw [ptRoom, if_neg (by omega)]
    exact ptRoom_of l (r - z) (fun y hy => h0 y (by simp [hy])) (by omega)
theorem conj_pt {zs : List Int} (h : IsPt zs) : IsPt (ptConj zs) := by
  have hat : ∀ j, j < (ptConj zs).length → (ptConj zs).getD j 0 = (htF zs j : Int) := fun j hj => by
    rw [conj_len] at hj
    unfold ptConj
    rw [show (tab (zs.getD 0 0).toNat (ptCol zs)).getD j 0 = ptCol zs j from tab_atX hj, htF_cast]
  have hpos : ∀ j, j < pF zs 0 → 0 < htF zs j := fun j hj => (htF_iff h 0 j).2 hj
  have hanti : ∀ j, htF zs (j + 1) ≤ htF zs j := fun j => by
    rcases Nat.lt_or_ge (htF zs j) (htF zs (j + 1)) with q | q
    · have h1 := (htF_iff h (htF zs j) (j + 1)).1 q
      have h2 := (htF_iff h (htF zs j) j).2 (by omega)
      omega
    · exact q
  have hmem : ∀ z ∈ ptConj zs, 1 ≤ z ∧ z ≤ 40 := fun z hz => by
    obtain ⟨j, hj, rfl⟩ := List.mem_iff_getElem.1 hz
    have e := hat j hj
    rw [List.getD, List.getElem?_eq_getElem hj] at e
    have h1 := hpos j (by rw [← conj_len]; exact hj)
    have h2 := htF_le h j
    have h3 := h.len
    simp only [Option.getD_some] at e
    omega
  refine ⟨fun j hj => ⟨?_, fun h0 => ?_⟩, ?_, hmem, by rw [conj_len]; exact pF_le h 0⟩
  · rw [hat j hj]; have := hpos j (by rw [← conj_len]; exact hj); omega
  · rw [hat j hj, hat (j - 1) (by omega)]
    have := hanti (j - 1)
    rw [show j - 1 + 1 = j by omega] at this
    omega
  · refine ptRoom_of _ _ (fun z hz => by have := hmem z hz; omega) ?_
    rw [sum_sZ _ (fun z hz => by have := hmem z hz; omega), conj_len, sZ_congr _ (fun j _ => by rw [conj_pF h]), conj_sum h, ← sum_sZ zs (fun z hz => by have := h.range z hz; omega)]
    have := ptRoom_sum zs 40 h.fits
    have := h.fits
    omega
theorem conj_htF {zs : List Int} (h : IsPt zs) (i : Nat) : htF (ptConj zs) i = pF zs i := by
  have key : ∀ j, j < htF (ptConj zs) i ↔ j < pF zs i := fun j => by rw [htF_iff (conj_pt h), conj_pF h, htF_iff h]
  rcases Nat.lt_trichotomy (htF (ptConj zs) i) (pF zs i) with q | q | q
  · have := (key _).2 q; omega
  · exact q
  · have := (key _).1 q; omega
theorem conj_hook {zs : List Int} (h : IsPt zs) : pL (hkR (ptConj zs)).flatten = pL (hkR zs).flatten ∧ szN (ptConj zs) = szN zs := by
  refine ⟨?_, ?_⟩
  · have e1 : ((pL (hkR zs).flatten : Nat) : Int) = pZ (fun i => pZ (fun j => if j < pF zs i then (hkN zs i j : Int) else 1) (pF zs 0)) zs.length := by
      unfold hkR
      rw [shape_prod (hkN zs) (pF zs) (Nat.le_refl _) (fun i hi => pF_out hi)]
      exact pZ_congr _ fun i _ => pZ_pad _ (by have := pF_mono h 0 i; rwa [Nat.zero_add] at this)
    have e2 : ((pL (hkR (ptConj zs)).flatten : Nat) : Int) = pZ (fun j => pZ (fun i => if i < htF zs j then (hkN zs i j : Int) else 1) zs.length) (pF zs 0) := by
      unfold hkR
      rw [shape_prod (hkN (ptConj zs)) (pF (ptConj zs)) (Nat.le_refl _) (fun i hi => pF_out hi), conj_len]
      refine pZ_congr _ fun j _ => ?_
      rw [conj_pF h, pZ_pad _ (htF_le h j)]
      refine pZ_congr _ fun i _ => ?_
      by_cases q : i < htF zs j
      · rw [if_pos q, if_pos q]
        unfold hkN
        rw [conj_pF h, conj_htF h]; omega
      · rw [if_neg q, if_neg q]
    rw [pZ_swap] at e1
    refine Int.natCast_inj.1 ?_
    rw [e1, e2]
    refine pZ_congr _ fun j _ => pZ_congr _ fun i _ => ?_
    by_cases q : i < htF zs j
    · rw [if_pos q, if_pos ((htF_iff h i j).1 q)]
    · rw [if_neg q, if_neg (fun z => q ((htF_iff h i j).2 z))]
  · have a := szN_sum (zs := ptConj zs) (Nat.le_refl _)
    have b := szN_sum (zs := zs) (Nat.le_refl _)
    rw [conj_len, sZ_congr _ (fun j _ => by rw [conj_pF h]), conj_sum h, b] at a
    exact (Int.natCast_inj.1 a).symm

end Go.Proofs.Ytheebpjkjclgbaa

namespace Go.Proofs.Ytheebpjkjclgbaa

theorem pt_mk {qs : List Int} (hg : PtGoes 1 0 qs) (hs : sum qs ≤ 40) : IsPt qs := pt_of (by
  have h0 : ∀ z ∈ qs, 0 ≤ z := fun z hz => by
    obtain ⟨j, hj, rfl⟩ := List.mem_iff_getElem.1 hz
    have := (hg j hj).1
    simp [List.getD, hj] at this
    omega
  unfold ptC
  rw [if_pos (ptGoB_pos hg), if_neg (by have := ptRoom_of qs 40 h0 hs; omega)])
theorem szN_40 {zs : List Int} (h : IsPt zs) : szN zs ≤ 40 := by
  have h1 := szN_sum (zs := zs) (Nat.le_refl _)
  rw [← sum_sZ zs (fun z hz => by have := h.range z hz; omega)] at h1
  have h2 := ptRoom_sum zs 40 h.fits
  have := h.fits
  omega

end Go.Proofs.Ytheebpjkjclgbaa

namespace Go.Proofs.Ytheebpjkjclgbaa

theorem fsd_congr : ∀ (n m : Nat) {x y : Nat → Int}, (∀ k, k < m → x k = y k) → fsd n m x = fsd n m y
  | 0, _, _, _, _ => rfl
  | n + 1, m, x, y, h => by
    simp only [fsd]
    refine sZ_congr m fun k hk => ?_
    have h1 := h k hk
    have h2 : k = 0 ∨ x (k - 1) = y (k - 1) := by
      rcases Nat.eq_zero_or_pos k with h0 | h0
      · exact .inl h0
      · exact .inr (h (k - 1) (by omega))
    have e : (1 ≤ x k ∧ (k = 0 ∨ x (k - 1) < x k - 1)) ↔ (1 ≤ y k ∧ (k = 0 ∨ y (k - 1) < y k - 1)) := by
      rcases h2 with h2 | h2
      · rw [h1]; simp [h2]
      · rw [h1, h2]
    have ef : fsd n m (upF x k (x k - 1)) = fsd n m (upF y k (y k - 1)) := fsd_congr n m fun q hq => by
      unfold upF
      split
      · rw [h1]
      · exact h q hq
    by_cases hc : 1 ≤ x k ∧ (k = 0 ∨ x (k - 1) < x k - 1)
    · rw [if_pos hc, if_pos (e.1 hc), ef]
    · rw [if_neg hc, if_neg (fun c => hc (e.2 c))]

theorem sZ_rev (f : Nat → Int) : ∀ n, sZ f n = sZ (fun i => f (n - 1 - i)) n
  | 0 => rfl
  | n + 1 => by
    have h : ∀ (g : Nat → Int) (m : Nat), sZ g (m + 1) = g 0 + sZ (fun i => g (i + 1)) m := by
      intro g m
      induction m with
      | zero => simp [sZ]
      | succ m ih => rw [sZ, ih, sZ]; omega
    rw [h (fun i => f (n + 1 - 1 - i)), sZ, sZ_rev f n]
    rw [Int.add_comm]
    congr 1
    exact sZ_congr n fun i hi => by congr 1; omega

/-- One box less in row i. -/
def lessB (P : Nat → Nat) (i : Nat) : Nat → Nat := fun r => if r = i then P i - 1 else P r

theorem fsd_rows {P : Nat → Nat} {M : Nat} (n : Nat) (h0 : P M = 0) :
    fsd (n + 1) M (fun k => (xs P M k : Int)) = sZ (fun i => if P (i + 1) < P i then fsd n M (fun k => (xs (lessB P i) M k : Int)) else 0) M := by
  simp only [fsd]
  rw [sZ_rev]
  refine sZ_congr M fun i hi => ?_
  have hx : xs P M (M - 1 - i) = P i + (M - 1 - i) := by unfold xs; congr 1; congr 1; omega
  have hc : (1 ≤ ((xs P M (M - 1 - i) : Nat) : Int) ∧ (M - 1 - i = 0 ∨ ((xs P M (M - 1 - i - 1) : Nat) : Int) < ((xs P M (M - 1 - i) : Nat) : Int) - 1)) ↔ P (i + 1) < P i := by
    rw [hx]
    rcases Nat.eq_zero_or_pos (M - 1 - i) with hz | hz
    · have : i + 1 = M := by omega
      rw [this, h0, hz]
      constructor
      · intro ⟨a, _⟩; omega
      · intro a; exact ⟨by omega, .inl rfl⟩
    · have hx1 : xs P M (M - 1 - i - 1) = P (i + 1) + (M - 1 - i - 1) := by unfold xs; congr 1; congr 1; omega
      rw [hx1]
      omega
  by_cases hd : P (i + 1) < P i
  · rw [if_pos (hc.2 hd), if_pos hd]
    refine fsd_congr n M fun k hk => ?_
    unfold upF
    by_cases hki : k = M - 1 - i
    · have : M - 1 - k = i := by omega
      rw [if_pos hki, hx]
      unfold xs lessB
      rw [if_pos this]
      omega
    · rw [if_neg hki]
      unfold xs lessB
      rw [if_neg (by omega)]
  · rw [if_neg (fun c => hd (hc.1 c)), if_neg hd]

/-- One box more in row i. -/
def moreB (P : Nat → Nat) (i : Nat) : Nat → Nat := fun r => if r = i then P i + 1 else P r
def eqB (m : Nat) (x y : Nat → Nat) : Prop := ∀ i, i < m → x i = y i
instance (m : Nat) (x y : Nat → Nat) : Decidable (eqB m x y) := inferInstanceAs (Decidable (∀ i, i < m → x i = y i))
/-- Ways up from x to y, and ways down. -/
def wUp (m : Nat) : Nat → (Nat → Nat) → (Nat → Nat) → Int
  | 0, x, y => if eqB m x y then 1 else 0
  | n + 1, x, y => sZ (fun i => if x i < y i ∧ (i = 0 ∨ x i < x (i - 1)) then wUp m n (moreB x i) y else 0) m
def wDn (m : Nat) : Nat → (Nat → Nat) → (Nat → Nat) → Int
  | 0, x, y => if eqB m x y then 1 else 0
  | n + 1, x, y => sZ (fun k => if y (k + 1) < y k ∧ x k < y k then wDn m n x (lessB y k) else 0) m

theorem sZ_if (c : Prop) [Decidable c] (f : Nat → Int) (n : Nat) : (if c then sZ f n else 0) = sZ (fun i => if c then f i else 0) n := by
  split
  · rfl
  · exact (sZ_zero fun _ _ => rfl).symm
theorem moreB_anti {x : Nat → Nat} {i : Nat} (h : ∀ i, x (i + 1) ≤ x i) (hi : i = 0 ∨ x i < x (i - 1)) : ∀ r, moreB x i (r + 1) ≤ moreB x i r := fun r => by
  unfold moreB
  have := h r
  by_cases h1 : r + 1 = i
  · have h2 : r ≠ i := by omega
    have h3 : i - 1 = r := by omega
    rw [if_pos h1, if_neg h2]
    rw [h3] at hi
    omega
  · rw [if_neg h1]
    split
    · subst r; omega
    · exact this
theorem lessB_anti {y : Nat → Nat} {k : Nat} (h : ∀ i, y (i + 1) ≤ y i) (hk : y (k + 1) < y k) : ∀ r, lessB y k (r + 1) ≤ lessB y k r := fun r => by
  unfold lessB
  have := h r
  by_cases h1 : r = k
  · subst r
    rw [if_pos rfl, if_neg (by omega)]
    omega
  · rw [if_neg h1]
    split
    · subst k; omega
    · exact this

theorem up_dn (m : Nat) : ∀ (n : Nat) (x y : Nat → Nat), (∀ i, x (i + 1) ≤ x i) → (∀ i, y (i + 1) ≤ y i) → y m = 0 → wUp m n x y = wDn m n x y
  | 0, _, _, _, _, _ => rfl
  | 1, x, y, hx, hy, hm => by
    simp only [wUp, wDn]
    refine sZ_congr m fun i hi => ?_
    have e1 : (x i < y i ∧ (i = 0 ∨ x i < x (i - 1))) ∧ eqB m (moreB x i) y ↔ (y (i + 1) < y i ∧ x i < y i) ∧ eqB m x (lessB y i) := by
      constructor
      · intro ⟨⟨a, b⟩, c⟩
        have ci := c i hi
        unfold moreB at ci; rw [if_pos rfl] at ci
        have c1 : y (i + 1) < y i := by
          by_cases h1 : i + 1 < m
          · have := c (i + 1) h1
            unfold moreB at this; rw [if_neg (by omega)] at this
            have := hx i
            omega
          · have : i + 1 = m := by omega
            rw [this, hm]; omega
        refine ⟨⟨c1, a⟩, fun r hr => ?_⟩
        have cr := c r hr
        unfold moreB at cr; unfold lessB
        by_cases h1 : r = i
        · subst r; rw [if_pos rfl]; omega
        · rw [if_neg h1] at cr ⊢; exact cr
      · intro ⟨⟨a, b⟩, c⟩
        have ci := c i hi
        unfold lessB at ci; rw [if_pos rfl] at ci
        refine ⟨⟨b, ?_⟩, fun r hr => ?_⟩
        · rcases Nat.eq_zero_or_pos i with h0 | h0
          · exact .inl h0
          · have := c (i - 1) (by omega)
            unfold lessB at this; rw [if_neg (by omega)] at this
            have h2 := hy (i - 1)
            rw [show i - 1 + 1 = i by omega] at h2
            exact .inr (by omega)
        · have cr := c r hr
          unfold lessB at cr; unfold moreB
          by_cases h1 : r = i
          · subst r; rw [if_pos rfl]; omega
          · rw [if_neg h1] at cr ⊢; exact cr
    by_cases h : (x i < y i ∧ (i = 0 ∨ x i < x (i - 1))) ∧ eqB m (moreB x i) y
    · have h' := e1.1 h
      rw [if_pos h.1, if_pos h.2, if_pos h'.1, if_pos h'.2]
    · have h' : ¬ _ := fun c => h (e1.2 c)
      have l : ∀ (c d : Prop) [Decidable c] [Decidable d], ¬ (c ∧ d) → (if c then (if d then (1 : Int) else 0) else 0) = 0 := by
        intro c d _ _ hn
        split
        · split
          · exact absurd ⟨‹_›, ‹_›⟩ hn
          · rfl
        · rfl
      rw [l _ _ h, l _ _ h']
  | n + 2, x, y, hx, hy, hm => by
    have eL : wUp m (n + 2) x y = sZ (fun i => sZ (fun k => if x i < y i ∧ (i = 0 ∨ x i < x (i - 1)) then (if y (k + 1) < y k ∧ moreB x i k < y k then wDn m n (moreB x i) (lessB y k) else 0) else 0) m) m := by
      rw [wUp]
      refine sZ_congr m fun i hi => ?_
      rw [← sZ_if]
      by_cases h : x i < y i ∧ (i = 0 ∨ x i < x (i - 1))
      · rw [if_pos h, if_pos h, up_dn m (n + 1) (moreB x i) y (moreB_anti hx h.2) hy hm, wDn]
      · rw [if_neg h, if_neg h]
    have eR : wDn m (n + 2) x y = sZ (fun k => sZ (fun i => if y (k + 1) < y k ∧ x k < y k then (if x i < lessB y k i ∧ (i = 0 ∨ x i < x (i - 1)) then wUp m n (moreB x i) (lessB y k) else 0) else 0) m) m := by
      rw [wDn]
      refine sZ_congr m fun k hk => ?_
      rw [← sZ_if]
      by_cases h : y (k + 1) < y k ∧ x k < y k
      · rw [if_pos h, if_pos h, ← up_dn m (n + 1) x (lessB y k) hx (lessB_anti hy h.1) (by unfold lessB; rw [if_neg (by omega)]; exact hm), wUp]
      · rw [if_neg h, if_neg h]
    rw [eL, eR, sZ_swap]
    refine sZ_congr m fun k hk => sZ_congr m fun i hi => ?_
    have e : (x i < y i ∧ (i = 0 ∨ x i < x (i - 1))) ∧ (y (k + 1) < y k ∧ moreB x i k < y k) ↔ (y (k + 1) < y k ∧ x k < y k) ∧ (x i < lessB y k i ∧ (i = 0 ∨ x i < x (i - 1))) := by
      unfold moreB lessB
      by_cases h1 : k = i
      · subst k
        rw [if_pos rfl, if_pos rfl]
        omega
      · rw [if_neg h1, if_neg (fun e => h1 e.symm)]
        omega
    have l : ∀ (c d : Prop) [Decidable c] [Decidable d] (v : Int), (if c then (if d then v else 0) else 0) = if c ∧ d then v else 0 := by
      intro c d _ _ v
      by_cases hc : c
      · by_cases hd : d
        · rw [if_pos hc, if_pos hd, if_pos ⟨hc, hd⟩]
        · rw [if_pos hc, if_neg hd, if_neg (fun q => hd q.2)]
      · rw [if_neg hc, if_neg (fun q => hc q.1)]
    rw [l, l]
    by_cases h : (x i < y i ∧ (i = 0 ∨ x i < x (i - 1))) ∧ (y (k + 1) < y k ∧ moreB x i k < y k)
    · rw [if_pos h, if_pos (e.1 h)]
      exact (up_dn m n _ _ (moreB_anti hx h.1.2) (lessB_anti hy h.2.1) (by unfold lessB; rw [if_neg (by omega)]; exact hm)).symm
    · rw [if_neg h, if_neg (fun q => h (e.2 q))]

theorem sum_dn {y : Nat → Nat} {k : Nat} (h : 0 < y k) : ∀ m, k < m → sZ (fun i => (lessB y k i : Int)) m = sZ (fun i => (y i : Int)) m - 1
  | 0, hk => absurd hk (Nat.not_lt_zero k)
  | m + 1, hk => by
    simp only [sZ]
    by_cases h1 : k = m
    · subst k
      rw [sZ_congr (f := fun i => (lessB y m i : Int)) (g := fun i => (y i : Int)) m fun i hi => by unfold lessB; rw [if_neg (by omega)]]
      unfold lessB; rw [if_pos rfl]; omega
    · rw [sum_dn h m (by omega)]
      unfold lessB; rw [if_neg (by omega)]; omega

theorem dn_fsd (m : Nat) : ∀ (n : Nat) (y : Nat → Nat), y m = 0 → sZ (fun i => (y i : Int)) m = n → wDn m n (fun _ => 0) y = fsd n m (fun k => (xs y m k : Int))
  | 0, y, _, hs => by
    have ht := sZ_tight (f := fun _ => 0) (g := fun i => (y i : Int)) m (fun i _ => by omega) (by rw [hs, sZ_zero fun _ _ => rfl]; exact Int.le_refl _)
    have he : eqB m (fun _ => 0) y := fun i hi => by have := ht i hi; show 0 = y i; omega
    rw [wDn, if_pos he]
    rfl
  | n + 1, y, hm, hs => by
    rw [wDn, fsd_rows n hm]
    refine sZ_congr m fun k hk => ?_
    by_cases h : y (k + 1) < y k
    · rw [if_pos ⟨h, by omega⟩, if_pos h]
      exact dn_fsd m n (lessB y k) (by unfold lessB; rw [if_neg (by omega)]; exact hm) (by rw [sum_dn (by omega) m hk, hs]; omega)
    · rw [if_neg (fun q => h q.1), if_neg h]

/-- As many ways lead up, letter by letter, as there are standard tableaux. -/
theorem up_fsd {m n : Nat} {y : Nat → Nat} (hy : ∀ i, y (i + 1) ≤ y i) (hm : y m = 0) (hs : sZ (fun i => (y i : Int)) m = n) : wUp m n (fun _ => 0) y = fsd n m (fun k => (xs y m k : Int)) := by
  rw [up_dn m n _ y (fun _ => Nat.le_refl _) hy hm, dn_fsd m n y hm hs]

end Go.Proofs.Ytheebpjkjclgbaa

namespace Go.Proofs.Ytheebpjkjclgbaa

theorem sg_add (a : Nat) : ∀ b, sg (a + b) = sg a * sg b
  | 0 => by simp [sg]
  | b + 1 => by rw [← Nat.add_assoc, sg, sg_add a b, sg, Int.mul_neg]
theorem sg_sq (a : Nat) : sg a * sg a = 1 := by
  induction a with
  | zero => rfl
  | succ a ih => rw [sg, Int.neg_mul_neg]; exact ih
theorem sg_two (a : Nat) : sg (a + 2) = sg a := by simp [sg]
theorem sg_mod (a : Nat) : sg a = if a % 2 = 0 then 1 else -1 := by
  induction a with
  | zero => rfl
  | succ a ih =>
    rw [sg, ih]
    by_cases h : a % 2 = 0
    · rw [if_pos h, if_neg (by omega)]
    · rw [if_neg h, if_pos (by omega)]; rfl

/-- The rows without the strip of the hook at row i and column j. -/
def rmF (P : Nat → Nat) (i j r : Nat) : Nat := if r < i then P r else if j < P (r + 1) then P (r + 1) - 1 else min (P r) j
/-- Q is P turned over. -/
def Cj (P Q : Nat → Nat) : Prop := ∀ r c, c < P r ↔ r < Q c
theorem Cj.symm {P Q : Nat → Nat} (h : Cj P Q) : Cj Q P := fun r c => (h c r).symm
theorem Cj.anti {P Q : Nat → Nat} (h : Cj P Q) (r : Nat) : P (r + 1) ≤ P r := by
  rcases Nat.lt_or_ge (P r) (P (r + 1)) with q | q
  · have h1 := (h (r + 1) (P r)).1 q
    have h2 := (h r (P r)).2 (by omega)
    omega
  · exact q
theorem rm_iff {P Q : Nat → Nat} (h : Cj P Q) {i j : Nat} (r c : Nat) : c < rmF P i j r ↔ if i ≤ r ∧ j ≤ c then c + 1 < P (r + 1) else c < P r := by
  have ha := h.anti r
  unfold rmF
  by_cases h1 : r < i
  · rw [if_pos h1, if_neg (by omega)]
  · rw [if_neg h1]
    by_cases h3 : j < P (r + 1)
    · rw [if_pos h3]
      by_cases h2 : j ≤ c
      · rw [if_pos ⟨by omega, h2⟩]; omega
      · rw [if_neg (by omega)]; omega
    · rw [if_neg h3]
      by_cases h2 : j ≤ c
      · rw [if_pos ⟨by omega, h2⟩]; omega
      · rw [if_neg (by omega)]; omega
theorem rm_cj {P Q : Nat → Nat} (h : Cj P Q) (i j : Nat) : Cj (rmF P i j) (rmF Q j i) := fun r c => by
  rw [rm_iff h, rm_iff h.symm]
  by_cases hc : i ≤ r ∧ j ≤ c
  · rw [if_pos hc, if_pos ⟨hc.2, hc.1⟩]; exact h (r + 1) (c + 1)
  · rw [if_neg hc, if_neg (fun q => hc ⟨q.2, q.1⟩)]; exact h r c
/-- The sum, over all boxes. -/
def chi2 (m M : Nat) : List Nat → (Nat → Nat) → (Nat → Nat) → Int
  | [], _, _ => 1
  | k :: cs, P, Q => sZ (fun i => sZ (fun j => if j < P i ∧ P i + Q j = i + j + 1 + k then sg (Q j - 1 - i) * chi2 m M cs (rmF P i j) (rmF Q j i) else 0) M) m
/-- How much longer than 1 the cycles are. -/
def lsS : List Nat → Nat
  | [] => 0
  | k :: cs => k - 1 + lsS cs
theorem chi2_conj (m M : Nat) : ∀ (cs : List Nat) (P Q : Nat → Nat), Cj P Q → chi2 M m cs Q P = sg (lsS cs) * chi2 m M cs P Q
  | [], _, _, _ => by simp [chi2, lsS, sg]
  | k :: cs, P, Q, h => by
    rw [chi2, chi2, sZ_swap, ← sZ_mul]
    refine sZ_congr m fun i _ => ?_
    rw [← sZ_mul]
    refine sZ_congr M fun j _ => ?_
    have hij := h i j
    by_cases hc : j < P i ∧ P i + Q j = i + j + 1 + k
    · have h1 := hij.1 hc.1
      rw [if_pos hc, if_pos ⟨h1, by omega⟩, chi2_conj m M cs _ _ (rm_cj h i j), lsS, sg_add]
      have e : k - 1 = (P i - 1 - j) + (Q j - 1 - i) := by omega
      have e2 : sg (k - 1) * sg (Q j - 1 - i) = sg (P i - 1 - j) := by rw [e, sg_add, Int.mul_assoc, sg_sq, Int.mul_one]
      rw [← e2]
      simp only [Int.mul_assoc]
      congr 1
      rw [← Int.mul_assoc, ← Int.mul_assoc, Int.mul_comm (sg (Q j - 1 - i))]
    · rw [if_neg hc, if_neg (fun q => hc ⟨hij.2 q.1, by omega⟩), Int.mul_zero]

/-- The rows that are left, ahead of the cut. -/
def lfL (zs : List Int) (i j : Nat) : List Int := (List.range zs.length).map fun r => ((rmF (pF zs) i j r : Nat) : Int)
/-- How many rows are left. -/
def lfN (zs : List Int) (i j : Nat) : Nat := (lfL zs i j).findIdx (fun z => z == 0)
/-- What is left of the partition. -/
def stP (zs : List Int) (i j : Nat) : List Int := (lfL zs i j).take (lfN zs i j)
theorem lfL_len (zs : List Int) (i j : Nat) : (lfL zs i j).length = zs.length := by simp [lfL]
theorem lfL_at {zs : List Int} {i j r : Nat} (hr : r < zs.length) : (lfL zs i j).getD r 0 = ((rmF (pF zs) i j r : Nat) : Int) := by simp [lfL, List.getD, hr]
theorem pt_cj {zs : List Int} (h : IsPt zs) : Cj (pF zs) (htF zs) := fun r c => (htF_iff h r c).symm
theorem lfN_le (zs : List Int) (i j : Nat) : lfN zs i j ≤ zs.length := by
  have := List.findIdx_le_length (xs := lfL zs i j) (p := fun z => z == 0)
  rw [lfL_len] at this; exact this
theorem rm_anti {zs : List Int} (h : IsPt zs) (i j r : Nat) : rmF (pF zs) i j (r + 1) ≤ rmF (pF zs) i j r := (rm_cj (pt_cj h) i j).anti r
theorem rm_mono {zs : List Int} (h : IsPt zs) (i j r d : Nat) : rmF (pF zs) i j (r + d) ≤ rmF (pF zs) i j r := by
  induction d with
  | zero => exact Nat.le_refl _
  | succ d ih => exact Nat.le_trans (rm_anti h i j (r + d)) ih
theorem rm_out {zs : List Int} {i j r : Nat} (hi : i < zs.length) (hr : zs.length ≤ r) : rmF (pF zs) i j r = 0 := by
  unfold rmF
  rw [if_neg (by omega), pF_out (i := r + 1) (by omega), pF_out hr]
  simp
theorem rm_le {zs : List Int} (h : IsPt zs) (i j r : Nat) : rmF (pF zs) i j r ≤ pF zs r := by
  have := pF_anti h r
  unfold rmF; split
  · exact Nat.le_refl _
  · split <;> omega
theorem lfN_zero {zs : List Int} (h : IsPt zs) {i j r : Nat} (hi : i < zs.length) (hr : lfN zs i j ≤ r) : rmF (pF zs) i j r = 0 := by
  rcases Nat.lt_or_ge (lfN zs i j) zs.length with q | q
  · have hl : lfN zs i j < (lfL zs i j).length := by rw [lfL_len]; exact q
    have h1 := List.findIdx_getElem (xs := lfL zs i j) (p := fun z => z == 0) (w := hl)
    have h2 : (lfL zs i j)[lfN zs i j] = 0 := beq_iff_eq.1 h1
    have h3 := lfL_at (zs := zs) (i := i) (j := j) q
    rw [List.getD, List.getElem?_eq_getElem hl, Option.getD_some, h2] at h3
    obtain ⟨d, rfl⟩ : ∃ d, r = lfN zs i j + d := ⟨r - lfN zs i j, by omega⟩
    have := rm_mono h i j (lfN zs i j) d
    omega
  · exact rm_out hi (by omega)
theorem lfN_pos {zs : List Int} {i j r : Nat} (hr : r < lfN zs i j) : 0 < rmF (pF zs) i j r := by
  have hn := lfN_le zs i j
  have hl : r < (lfL zs i j).length := by rw [lfL_len]; omega
  have h1 := List.not_of_lt_findIdx (xs := lfL zs i j) (p := fun z => z == 0) hr
  have h3 := lfL_at (zs := zs) (i := i) (j := j) (r := r) (by omega)
  rw [List.getD, List.getElem?_eq_getElem hl, Option.getD_some] at h3
  rw [h3] at h1
  rcases Nat.eq_zero_or_pos (rmF (pF zs) i j r) with e | e
  · rw [e] at h1; simp at h1
  · exact e
theorem stP_len (zs : List Int) (i j : Nat) : (stP zs i j).length = lfN zs i j := by
  unfold stP; rw [List.length_take, lfL_len]; have := lfN_le zs i j; omega
theorem pF_stP {zs : List Int} (h : IsPt zs) {i j : Nat} (hi : i < zs.length) (r : Nat) : pF (stP zs i j) r = rmF (pF zs) i j r := by
  by_cases hr : r < lfN zs i j
  · have hn := lfN_le zs i j
    unfold pF stP
    rw [List.getD, List.getElem?_take, if_pos hr, ← List.getD, lfL_at (by omega)]
    rfl
  · rw [pF_out (by rw [stP_len]; omega), lfN_zero h hi (by omega)]
theorem stP_pt {zs : List Int} (h : IsPt zs) {i j : Nat} (hi : i < zs.length) : IsPt (stP zs i j) := by
  have hat : ∀ r, r < (stP zs i j).length → (stP zs i j).getD r 0 = ((rmF (pF zs) i j r : Nat) : Int) := fun r hr => by
    rw [stP_len] at hr
    have hn := lfN_le zs i j
    unfold stP
    rw [List.getD, List.getElem?_take, if_pos hr, ← List.getD, lfL_at (by omega)]
  have hg : PtGoes 1 0 (stP zs i j) := fun r hr => by
    refine ⟨?_, fun h0 => ?_⟩
    · rw [hat r hr]
      have := lfN_pos (zs := zs) (i := i) (j := j) (r := r) (by rw [← stP_len]; exact hr)
      omega
    · rw [hat r hr, hat (r - 1) (by omega)]
      have := rm_anti h i j (r - 1)
      rw [show r - 1 + 1 = r by omega] at this
      omega
  refine pt_mk hg ?_
  have hz : ∀ z ∈ stP zs i j, 0 ≤ z := fun z hz => by
    obtain ⟨r, hr, rfl⟩ := List.mem_iff_getElem.1 hz
    have := (hg r hr).1
    simp only [List.getD, List.getElem?_eq_getElem hr, Option.getD_some] at this
    omega
  rw [sum_sZ _ hz]
  have h2 : ∀ m, m ≤ zs.length → sZ (fun r => ((pF (stP zs i j) r : Nat) : Int)) m ≤ sZ (fun r => ((pF zs r : Nat) : Int)) m := fun m => by
    induction m with
    | zero => intro _; exact Int.le_refl _
    | succ m ih =>
      intro hm
      rw [sZ, sZ]
      have h3 := ih (by omega)
      have h4 := rm_le h i j m
      rw [← pF_stP h hi] at h4
      omega
  have h5 := h2 (stP zs i j).length (by rw [stP_len]; exact lfN_le zs i j)
  have h6 : ∀ d, sZ (fun r => ((pF zs r : Nat) : Int)) (stP zs i j).length ≤ sZ (fun r => ((pF zs r : Nat) : Int)) ((stP zs i j).length + d) := fun d => by
    induction d with
    | zero => exact Int.le_refl _
    | succ d ih => rw [← Nat.add_assoc, sZ]; omega
  have h7 := h6 (zs.length - (stP zs i j).length)
  rw [show (stP zs i j).length + (zs.length - (stP zs i j).length) = zs.length by have := lfN_le zs i j; rw [stP_len]; omega, szN_sum (Nat.le_refl _)] at h7
  have h8 := szN_sum (zs := zs) (Nat.le_refl _)
  rw [← sum_sZ zs (fun z hz => by have := h.range z hz; omega)] at h8
  have h9 := ptRoom_sum zs 40 h.fits
  have h10 := h.fits
  omega
theorem htF_stP {zs : List Int} (h : IsPt zs) {i j : Nat} (hi : i < zs.length) (c : Nat) : htF (stP zs i j) c = rmF (htF zs) j i c := by
  have key : ∀ r, r < htF (stP zs i j) c ↔ r < rmF (htF zs) j i c := fun r => by
    rw [htF_iff (stP_pt h hi), pF_stP h hi]; exact rm_cj (pt_cj h) i j r c
  rcases Nat.lt_trichotomy (htF (stP zs i j) c) (rmF (htF zs) j i c) with q | q | q
  · have := (key _).2 q; omega
  · exact q
  · have := (key _).1 q; omega

/-- The strips of length k that begin in row i. -/
def stAt (zs : List Int) (k i : Nat) : List (List Int × Nat) := (List.range (pF zs i)).flatMap fun j => if hkN zs i j = k then [(stP zs i j, htF zs j - 1 - i)] else []
/-- Those of the last t rows, from below. -/
def stUp (zs : List Int) (k t : Nat) : List (List Int × Nat) := (List.range t).flatMap fun s => stAt zs k (zs.length - 1 - s)
def stpL (zs : List Int) (k : Nat) : List (List Int × Nat) := stUp zs k zs.length
theorem stUp_succ (zs : List Int) (k t : Nat) : stUp zs k (t + 1) = stUp zs k t ++ stAt zs k (zs.length - 1 - t) := by
  unfold stUp; rw [List.range_succ, List.flatMap_append]; simp
/-- The character. -/
def chi : List Nat → List Int → Int
  | [], _ => 1
  | k :: cs, zs => ((stpL zs k).map fun s => sg s.2 * chi cs s.1).sum
theorem sumI_flat {α : Type} (g : α → Int) (f : Nat → List α) : ∀ m, (((List.range m).flatMap f).map g).sum = sZ (fun i => ((f i).map g).sum) m
  | 0 => rfl
  | m + 1 => by rw [List.range_succ, List.flatMap_append, List.map_append, List.sum_append, sZ, ← sumI_flat g f m]; simp
theorem sZ_padX {f : Nat → Int} {m : Nat} : ∀ d, (∀ i, m ≤ i → f i = 0) → sZ f (m + d) = sZ f m
  | 0, _ => rfl
  | d + 1, h => by rw [← Nat.add_assoc, sZ, sZ_padX d h, h _ (by omega), Int.add_zero]
theorem chi_step (k : Nat) (cs : List Nat) (zs : List Int) : chi (k :: cs) zs = sZ (fun i => sZ (fun j => if hkN zs i j = k then sg (htF zs j - 1 - i) * chi cs (stP zs i j) else 0) (pF zs i)) zs.length := by
  rw [chi]
  unfold stpL stUp
  rw [sumI_flat, sZ_rev (fun i => sZ _ (pF zs i))]
  refine sZ_congr _ fun s _ => ?_
  unfold stAt
  rw [sumI_flat]
  refine sZ_congr _ fun j _ => ?_
  split <;> simp
theorem chi_is {m M : Nat} : ∀ (cs : List Nat) (zs : List Int), IsPt zs → zs.length ≤ m → pF zs 0 ≤ M → chi cs zs = chi2 m M cs (pF zs) (htF zs)
  | [], _, _, _, _ => rfl
  | k :: cs, zs, h, hm, hM => by
    rw [chi_step, chi2]
    obtain ⟨d, rfl⟩ : ∃ d, m = zs.length + d := ⟨m - zs.length, by omega⟩
    rw [sZ_padX d (fun i hi => sZ_zero fun j _ => if_neg (by rw [pF_out hi]; omega))]
    refine sZ_congr _ fun i hi => ?_
    have hle : pF zs i ≤ M := by have := pF_mono h 0 i; rw [Nat.zero_add] at this; omega
    obtain ⟨d2, rfl⟩ : ∃ d2, M = pF zs i + d2 := ⟨M - pF zs i, by omega⟩
    rw [sZ_padX d2 (fun j hj => if_neg (by omega))]
    refine sZ_congr _ fun j hj => ?_
    have h1 := (htF_iff h i j).2 hj
    have e : hkN zs i j = k ↔ j < pF zs i ∧ pF zs i + htF zs j = i + j + 1 + k := by unfold hkN; omega
    by_cases hc : hkN zs i j = k
    · have hlen : (stP zs i j).length ≤ zs.length := by rw [stP_len]; exact lfN_le zs i j
      rw [if_pos hc, if_pos (e.1 hc), chi_is (m := zs.length + d) (M := pF zs i + d2) cs (stP zs i j) (stP_pt h hi) (by omega) (by rw [pF_stP h hi]; have := rm_le h i j 0; omega), show pF (stP zs i j) = rmF (pF zs) i j from funext (pF_stP h hi), show htF (stP zs i j) = rmF (htF zs) j i from funext (htF_stP h hi)]
    · rw [if_neg hc, if_neg (fun q => hc (e.2 q))]
/-- Turned over. -/
theorem chi_conj {zs : List Int} (h : IsPt zs) (cs : List Nat) : chi cs (ptConj zs) = sg (lsS cs) * chi cs zs := by
  have h1 : htF zs 0 ≤ zs.length := htF_le h 0
  rw [chi_is (m := pF zs 0) (M := zs.length) cs (ptConj zs) (conj_pt h) (by rw [conj_len]; exact Nat.le_refl _) (by rw [conj_pF h]; exact h1), chi_is (m := zs.length) (M := pF zs 0) cs zs h (Nat.le_refl _) (Nat.le_refl _), show pF (ptConj zs) = htF zs from funext (conj_pF h), show htF (ptConj zs) = pF zs from funext (conj_htF h)]
  exact chi2_conj zs.length (pF zs 0) cs _ _ (pt_cj h)

theorem flat_one {α : Type} {f : Nat → List α} {j : Nat} : ∀ n, j < n → (∀ i, i < n → i ≠ j → f i = []) → (List.range n).flatMap f = f j
  | 0, h, _ => absurd h (Nat.not_lt_zero _)
  | n + 1, h, h0 => by
    rw [List.range_succ, List.flatMap_append, List.flatMap_singleton]
    by_cases e : j = n
    · subst e
      have : (List.range j).flatMap f = [] := List.flatMap_eq_nil_iff.2 fun i hi => h0 i (by have := List.mem_range.1 hi; omega) (by have := List.mem_range.1 hi; omega)
      rw [this, List.nil_append]
    · rw [flat_one n (by omega) (fun i hi => h0 i (by omega)), h0 n (by omega) (fun q => e q.symm), List.append_nil]
theorem ht_mono {zs : List Int} (h : IsPt zs) (j d : Nat) : htF zs (j + d) ≤ htF zs j := by
  induction d with
  | zero => exact Nat.le_refl _
  | succ d ih => exact Nat.le_trans ((pt_cj h).symm.anti (j + d)) ih
theorem hk_fall {zs : List Int} (h : IsPt zs) {i j j' : Nat} (h1 : j < j') (h2 : j' < pF zs i) : hkN zs i j' < hkN zs i j := by
  have h3 := ht_mono h j (j' - j)
  rw [show j + (j' - j) = j' by omega] at h3
  unfold hkN; omega
theorem stAt_one {zs : List Int} (h : IsPt zs) {i j k : Nat} (hj : j < pF zs i) (hk : hkN zs i j = k) : stAt zs k i = [(stP zs i j, htF zs j - 1 - i)] := by
  unfold stAt
  rw [flat_one (j := j) _ hj (fun j' h1 h2 => if_neg (fun e => ?_)), if_pos hk]
  rcases Nat.lt_or_gt_of_ne h2 with q | q
  · have := hk_fall h q hj; omega
  · have := hk_fall h q h1; omega
theorem stAt_none {zs : List Int} {i k : Nat} (hk : ∀ j, j < pF zs i → hkN zs i j ≠ k) : stAt zs k i = [] :=
  List.flatMap_eq_nil_iff.2 fun j hj => if_neg (hk j (List.mem_range.1 hj))
theorem stAt_len {zs : List Int} (h : IsPt zs) (k i : Nat) : (stAt zs k i).length ≤ 1 := by
  by_cases q : ∃ j, j < pF zs i ∧ hkN zs i j = k
  · obtain ⟨j, h1, h2⟩ := q
    rw [stAt_one h h1 h2]; simp
  · rw [stAt_none (fun j h1 h2 => q ⟨j, h1, h2⟩)]; simp
theorem stUp_len {zs : List Int} (h : IsPt zs) (k : Nat) : ∀ t, (stUp zs k t).length ≤ t
  | 0 => by simp [stUp]
  | t + 1 => by rw [stUp_succ, List.length_append]; have := stUp_len h k t; have := stAt_len h k (zs.length - 1 - t); omega
/-- What is in the list. -/
theorem stpL_mem {zs : List Int} (h : IsPt zs) {k : Nat} : ∀ s ∈ stpL zs k, IsPt s.1 ∧ s.1.length ≤ zs.length ∧ s.2 ≤ 40 := fun s hs => by
  unfold stpL stUp at hs
  obtain ⟨t, ht, hs⟩ := List.mem_flatMap.1 hs
  have ht := List.mem_range.1 ht
  unfold stAt at hs
  obtain ⟨j, hj, hs⟩ := List.mem_flatMap.1 hs
  split at hs
  · rw [List.mem_singleton] at hs
    subst hs
    refine ⟨stP_pt h (by omega), ?_, ?_⟩
    · show (stP zs _ j).length ≤ _; rw [stP_len]; exact lfN_le _ _ _
    · show htF zs j - 1 - _ ≤ 40; have := htF_le h j; have := h.len; omega
  · cases hs
theorem pt_ext {a b : List Int} (ha : IsPt a) (hb : IsPt b) (h : ∀ r, pF a r = pF b r) : a = b := by
  have hl : a.length = b.length := by
    rcases Nat.lt_trichotomy a.length b.length with q | q | q
    · have := pF_pos hb q; rw [← h, pF_out (Nat.le_refl _)] at this; omega
    · exact q
    · have := pF_pos ha q; rw [h, pF_out (Nat.le_refl _)] at this; omega
  refine List.ext_getElem hl fun i h1 h2 => ?_
  have e1 := pF_cast ha i
  have e2 := pF_cast hb i
  rw [List.getD, List.getElem?_eq_getElem h1, Option.getD_some] at e1
  rw [List.getD, List.getElem?_eq_getElem h2, Option.getD_some] at e2
  rw [e1, e2, h]
/-- A bound. -/
theorem sum_bd (B : Nat) : ∀ l : List Int, (∀ z ∈ l, z.natAbs ≤ B) → l.sum.natAbs ≤ l.length * B
  | [], _ => by simp
  | z :: l, h => by
    have h1 := h z (by simp)
    have h2 := sum_bd B l fun y hy => h y (by simp [hy])
    rw [List.sum_cons, List.length_cons, Nat.succ_mul]
    omega
theorem sg_abs (a : Nat) (z : Int) : (sg a * z).natAbs = z.natAbs := by
  rw [sg_mod]; split <;> simp
theorem chi_bd : ∀ (cs : List Nat) (zs : List Int), IsPt zs → zs.length ≤ 12 → (chi cs zs).natAbs ≤ 12 ^ cs.length
  | [], _, _, _ => by simp [chi]
  | k :: cs, zs, h, hl => by
    rw [chi]
    have h1 := sum_bd (12 ^ cs.length) ((stpL zs k).map fun s => sg s.2 * chi cs s.1) (fun z hz => by
      obtain ⟨s, hs, rfl⟩ := List.mem_map.1 hz
      have hm := stpL_mem h s hs
      rw [sg_abs]
      exact chi_bd cs s.1 hm.1 (by omega))
    have h2 := stUp_len h k zs.length
    rw [List.length_map] at h1
    rw [List.length_cons, Nat.pow_succ]
    refine Nat.le_trans h1 ?_
    rw [Nat.mul_comm (12 ^ cs.length)]
    exact Nat.mul_le_mul_right _ (by show (stUp zs k zs.length).length ≤ 12; omega)

end Go.Proofs.Ytheebpjkjclgbaa
