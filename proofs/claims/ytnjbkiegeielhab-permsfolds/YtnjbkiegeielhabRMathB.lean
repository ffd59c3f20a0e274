/-
  Cycles of a permutation, there and back, and how many there are: plain facts on lists of numbers.
-/
import Derived.Test.YtnjbkiegeielhabRMath
namespace Go.Proofs.Ytnjbkiegeielhab

theorem nodup_of_counts : ∀ {l : List Int}, (∀ a, l.countP (fun z => decide (z = a)) ≤ 1) → l.Nodup := by
  intro l
  induction l with
  | nil => intro _; simp
  | cons y l ih =>
    intro h
    rw [List.nodup_cons]
    refine ⟨?_, ih (fun a => ?_)⟩
    · intro hy
      have h1 := h y
      rw [List.countP_cons] at h1
      have : 0 < l.countP (fun z => decide (z = y)) := List.countP_pos_iff.2 ⟨y, hy, by simp⟩
      rw [if_pos (by simp)] at h1
      omega
    · have := h a
      rw [List.countP_cons] at this
      omega

/-- A list of n numbers from 1 to n that has them all has none twice. -/
theorem perm_of_all {l : List Int} (h40 : l.length ≤ 40) (hb : ∀ z ∈ l, 1 ≤ z ∧ z ≤ l.length) (ha : ∀ v : Nat, v < l.length → (v : Int) + 1 ∈ l) : IsPerm l := by
  refine ⟨h40, fun z hz => (hb z hz).1, fun z hz => (hb z hz).2, nodup_of_counts ?_⟩
  have hs := S_counts l.length l hb
  have hge : ∀ v, v < l.length → 1 ≤ l.countP (fun z => decide (z = (v : Int) + 1)) := fun v hv => List.countP_pos_iff.2 ⟨_, ha v hv, by simp⟩
  have key : ∀ n, n ≤ l.length → ∀ m, m < n → S n (fun v => l.countP (fun z => decide (z = (v : Int) + 1))) + 1 ≥ n + l.countP (fun z => decide (z = (m : Int) + 1)) := by
    intro n
    induction n with
    | zero => intro _ m hm; omega
    | succ n ih =>
      intro hn m hm
      rw [S]
      by_cases e : m = n
      · subst e
        have : m ≤ S m (fun v => l.countP (fun z => decide (z = (v : Int) + 1))) := by
          have := S_le (n := m) (f := fun _ => 1) (g := fun v => l.countP (fun z => decide (z = (v : Int) + 1))) (fun i hi => hge i (by omega))
          rw [S_one] at this; exact this
        omega
      · have := ih (by omega) m (by omega)
        have := hge n (by omega)
        omega
  intro a
  by_cases h : 1 ≤ a ∧ a ≤ l.length
  · have := key l.length (Nat.le_refl _) (a - 1).toNat (by omega)
    rw [hs, show (((a - 1).toNat : Nat) : Int) + 1 = a by omega] at this
    omega
  · have : l.countP (fun z => decide (z = a)) = 0 := by
      rw [List.countP_eq_zero]; intro z hz; simp; intro e; subst e; exact h (hb z hz)
    omega

/-- What a round of numbers writes: each one's next, the last one's the first. -/
def ring (b : List Int) (i : Nat) : Int × Int := (b.getD i 0, if i + 1 < b.length then b.getD (i + 1) 0 else b.getD 0 0)

theorem edges_run (n : Int) (rest : List Int) (hr : rest ≠ [] → n < rest.headD 0) : ∀ (b : List Int), (∀ y ∈ b, y < n) → ∀ (x : Int), x ≤ n →
    edges n (x :: b ++ rest) = (List.range (b.length + 1)).map (fun i => ((x :: b).getD i 0, if i + 1 < b.length + 1 then (x :: b).getD (i + 1) 0 else n)) ++ edges n rest := by
  intro b
  induction b with
  | nil =>
    intro _ x hx
    show edges n (x :: rest) = _
    rw [edges, show max n x = n by omega, if_neg (by intro h; have := hr h.1; omega)]
    simp
  | cons y b ih =>
    intro hb x hx
    show edges n (x :: (y :: b ++ rest)) = _
    have hy := hb y (by simp)
    rw [edges, show max n x = n by omega, ih (fun z hz => hb z (by simp [hz])) y (by omega)]
    rw [if_pos ⟨by simp, by simpa using hy⟩]
    rw [List.length_cons, List.range_succ_eq_map (n := b.length + 1), List.map_cons, List.map_map, List.cons_append]
    congr 1
    congr 1
    apply List.map_congr_left
    intro j _
    simp [Function.comp]

theorem edges_ring (g n : Int) (hg : g ≤ n) (rest : List Int) (hr : rest ≠ [] → n < rest.headD 0) (b : List Int) (hb : ∀ y ∈ b, y < n) :
    edges g (n :: b ++ rest) = (List.range (b.length + 1)).map (ring (n :: b)) ++ edges n rest := by
  have h1 : edges g (n :: b ++ rest) = edges n (n :: b ++ rest) := by
    show edges g (n :: (b ++ rest)) = edges n (n :: (b ++ rest))
    rw [edges, edges, show max g n = n by omega, show max n n = n by omega]
  rw [h1, edges_run n rest hr b hb n (Int.le_refl _)]
  rfl

/-- A list without repetition parts into rounds, each from its greatest number on. -/
theorem parted : ∀ (k : Nat) (q : List Int) (g : Int), q.length ≤ k → q.Nodup → (q ≠ [] → g < q.headD 0) →
    ∃ bs : List (List Int), bs.flatten = q ∧ (∀ b ∈ bs, b ≠ [] ∧ (∀ y ∈ b, y ≤ b.headD 0) ∧ g < b.headD 0 ∧ ∀ i, i < b.length → ring b i ∈ edges g q) ∧ bs.Pairwise (fun b c => b.headD 0 < c.headD 0) := by
  intro k
  induction k with
  | zero =>
    intro q g hl _ _
    have : q = [] := List.eq_nil_of_length_eq_zero (by omega)
    subst this
    exact ⟨[], rfl, by simp, by simp⟩
  | succ k ih =>
    intro q g hl hn hg
    cases q with
    | nil => exact ⟨[], rfl, by simp, by simp⟩
    | cons n l =>
      have hgn : g < n := by simpa using hg (by simp)
      -- the numbers behind that are less
      have hsplit : ∀ l : List Int, ∃ b rest, l = b ++ rest ∧ (∀ y ∈ b, y < n) ∧ (rest ≠ [] → ¬ rest.headD 0 < n) := by
        intro l
        induction l with
        | nil => exact ⟨[], [], rfl, by simp, by simp⟩
        | cons y l ih2 =>
          by_cases hy : y < n
          · obtain ⟨b, rest, e, h1, h2⟩ := ih2
            exact ⟨y :: b, rest, by rw [e]; rfl, by intro z hz; rcases List.mem_cons.1 hz with rfl | hz; exact hy; exact h1 z hz, h2⟩
          · exact ⟨[], y :: l, rfl, by simp, by intro _; simpa using hy⟩
      obtain ⟨b, rest, rfl, hb, hr⟩ := hsplit l
      have hnd : (n :: b ++ rest).Nodup := hn
      rw [List.nodup_append] at hnd
      have hr' : rest ≠ [] → n < rest.headD 0 := by
        intro hne
        have h1 := hr hne
        have h2 : rest.headD 0 ∈ rest := by
          cases rest with
          | nil => exact absurd rfl hne
          | cons y rest => simp
        have h3 := hnd.2.2 n (by simp) _ h2
        omega
      have hE := edges_ring g n (by omega) rest hr' b hb
      obtain ⟨bs, e, h1, h2⟩ := ih rest n (by simp at hl; omega) hnd.2.1 hr'
      have hE' : edges g (n :: (b ++ rest)) = (List.range (b.length + 1)).map (ring (n :: b)) ++ edges n rest := hE
      refine ⟨(n :: b) :: bs, by simp [e], ?_, ?_⟩
      · intro c hc
        rcases List.mem_cons.1 hc with rfl | hc
        · refine ⟨by simp, ?_, by simpa using hgn, ?_⟩
          · intro y hy
            rcases List.mem_cons.1 hy with rfl | hy
            · simp
            · have := hb y hy; simp; omega
          · intro i hi
            rw [hE']
            exact List.mem_append_left _ (List.mem_map.2 ⟨i, List.mem_range.2 (by simpa using hi), rfl⟩)
        · obtain ⟨a1, a2, a3, a4⟩ := h1 c hc
          refine ⟨a1, a2, by omega, fun i hi => ?_⟩
          rw [hE']
          exact List.mem_append_right _ (a4 i hi)
      · rw [List.pairwise_cons]
        refine ⟨fun c hc => ?_, h2⟩
        have := (h1 c hc).2.2.1
        simpa using this

/-- What Unrounds makes of q: the permutation r with these edges; its blocks are q's. -/
theorem unrounds_blocks {q r : List Int} (hq : IsPerm q) (hl : r.length = q.length) (he : ∀ e ∈ edges 0 q, app r e.1 = e.2) :
    IsPerm r ∧ ∃ bs, Blocks r bs ∧ bs.flatten = q := by
  obtain ⟨bs, e, h1, h2⟩ := parted q.length q 0 (Nat.le_refl _) hq.once (by
    intro hne
    cases q with
    | nil => exact absurd rfl hne
    | cons x q => have := hq.low x (by simp); simp; omega)
  have hmemq : ∀ b ∈ bs, ∀ x ∈ b, 1 ≤ x ∧ x ≤ q.length := by
    intro b hb x hx
    have : x ∈ q := by rw [← e]; exact List.mem_flatten.2 ⟨b, hb, hx⟩
    exact ⟨hq.low x this, hq.high x this⟩
  have hbn : ∀ b ∈ bs, b.Nodup := by
    intro b hb
    have := hq.once
    rw [← e] at this
    obtain ⟨s, t, rfl⟩ := List.append_of_mem hb
    rw [List.flatten_append, List.flatten_cons, List.nodup_append, List.nodup_append] at this
    exact this.2.1.1
  have hnext : ∀ b ∈ bs, ∀ i, i < b.length → app r (b.getD i 0) = (ring b i).2 := fun b hb i hi => he _ ((h1 b hb).2.2.2 i hi)
  have hring : ∀ b ∈ bs, ∀ i, i < b.length → (ring b i).2 ∈ b := by
    intro b hb i hi
    unfold ring
    show (if _ then _ else _) ∈ b
    split
    · exact pmem (by assumption)
    · exact pmem (by omega)
  -- each number is in a block
  have hin : ∀ x : Int, 1 ≤ x → x ≤ q.length → ∃ b ∈ bs, ∃ i, i < b.length ∧ b.getD i 0 = x := by
    intro x h3 h4
    have := hq.all h3 h4
    rw [← e] at this
    obtain ⟨b, hb, hx⟩ := List.mem_flatten.1 this
    obtain ⟨i, hi, hi2⟩ := List.mem_iff_getElem.1 hx
    exact ⟨b, hb, i, hi, by rw [List.getD_eq_getElem?_getD, List.getElem?_eq_getElem hi, hi2]; rfl⟩
  have hr : IsPerm r := by
    refine perm_of_all (by rw [hl]; exact hq.len) ?_ ?_
    · intro z hz
      obtain ⟨t, ht, ht2⟩ := List.mem_iff_getElem.1 hz
      obtain ⟨b, hb, i, hi, hx⟩ := hin ((t : Int) + 1) (by omega) (by omega)
      have h3 := hnext b hb i hi
      have h4 := hmemq b hb _ (hring b hb i hi)
      rw [hx] at h3
      have h5 : app r ((t : Int) + 1) = z := by
        unfold app
        rw [show ((t : Int) + 1).toNat - 1 = t by omega, List.getD_eq_getElem?_getD, List.getElem?_eq_getElem ht, ht2]; rfl
      rw [h5] at h3
      rw [h3, hl]; exact h4
    · intro v hv
      obtain ⟨b, hb, i, hi, hx⟩ := hin ((v : Int) + 1) (by omega) (by omega)
      -- the one ahead of it
      have : ∃ j, j < b.length ∧ (ring b j).2 = (v : Int) + 1 := by
        by_cases h0 : i = 0
        · refine ⟨b.length - 1, by omega, ?_⟩
          unfold ring
          show (if _ then _ else _) = _
          rw [if_neg (by omega)]
          subst h0; exact hx
        · refine ⟨i - 1, by omega, ?_⟩
          unfold ring
          show (if _ then _ else _) = _
          rw [if_pos (by omega), show i - 1 + 1 = i by omega]; exact hx
      obtain ⟨j, hj, hje⟩ := this
      have h3 := hnext b hb j hj
      rw [hje] at h3
      have h4 := hmemq b hb _ (pmem hj)
      rw [← h3]
      exact pmem (by omega)
  refine ⟨hr, bs, ⟨?_, h2, ?_⟩, e⟩
  · intro b hb
    obtain ⟨a1, a2, a3, a4⟩ := h1 b hb
    have hpos : 0 < b.length := by cases b with
      | nil => exact absurd rfl a1
      | cons x b => simp
    have hh : b.headD 0 = b.getD 0 0 := by cases b with
      | nil => rfl
      | cons x b => rfl
    have hit : ∀ j, j < b.length → iter r (b.getD 0 0) j = b.getD j 0 := by
      intro j
      induction j with
      | zero => intro _; rfl
      | succ j ih =>
        intro hj
        show app r (iter r (b.getD 0 0) j) = _
        rw [ih (by omega), hnext b hb j (by omega)]
        unfold ring
        show (if _ then _ else _) = _
        rw [if_pos hj]
    have hback : iter r (b.getD 0 0) b.length = b.getD 0 0 := by
      obtain ⟨k, hk⟩ : ∃ k, b.length = k + 1 := ⟨b.length - 1, by omega⟩
      rw [hk]
      show app r (iter r (b.getD 0 0) k) = _
      rw [hit k (by omega), hnext b hb k (by omega)]
      unfold ring
      show (if _ then _ else _) = _
      rw [if_neg (by omega)]
    have hm := hmemq b hb _ (pmem hpos)
    have hlen : b.length ≤ r.length := by
      have : b.length ≤ bs.flatten.length := by
        obtain ⟨s, t, rfl⟩ := List.append_of_mem hb
        simp; omega
      rw [e] at this; omega
    refine ⟨⟨b.getD 0 0, b.length, ⟨by omega, hlen, hback, ?_⟩, ?_, hm.1, by omega⟩, a2⟩
    · intro j hj1 hj2 hc
      rw [hit j hj2] at hc
      have := nodup_inj (hbn b hb) hj2 hpos hc
      omega
    · apply List.ext_getElem
      · rw [path_length]
      · intro j hj1 hj2
        have h3 := hit j hj1
        have h4 : (path r (b.getD 0 0) b.length)[j] = iter r (b.getD 0 0) j := by simp [path]
        rw [h4, h3, List.getD_eq_getElem?_getD, List.getElem?_eq_getElem hj1]; rfl
  · intro x h3 h4
    obtain ⟨b, hb, i, hi, hx⟩ := hin x h3 (by omega)
    exact ⟨b, hb, by rw [← hx]; exact pmem hi⟩

/-- Numbers above all ahead. -/
def tops : Int → List Int → Nat
  | _, [] => 0
  | g, x :: l => if g < x then tops x l + 1 else tops g l

theorem tops_skip (g : Int) : ∀ (b rest : List Int), (∀ y ∈ b, y ≤ g) → tops g (b ++ rest) = tops g rest := by
  intro b
  induction b with
  | nil => intro _ _; rfl
  | cons y b ih =>
    intro rest h
    show tops g (y :: (b ++ rest)) = _
    have := h y (by simp)
    rw [tops, if_neg (by omega), ih rest (fun z hz => h z (by simp [hz]))]

theorem tops_blocks : ∀ (bs : List (List Int)) (g : Int), (∀ b ∈ bs, b ≠ [] ∧ (∀ y ∈ b, y ≤ b.headD 0) ∧ g < b.headD 0) → bs.Pairwise (fun b c => b.headD 0 < c.headD 0) → tops g bs.flatten = bs.length := by
  intro bs
  induction bs with
  | nil => intro _ _ _; rfl
  | cons b bs ih =>
    intro g h hp
    rw [List.pairwise_cons] at hp
    obtain ⟨h1, h2, h3⟩ := h b (by simp)
    cases b with
    | nil => exact absurd rfl h1
    | cons x b =>
      simp only [List.headD_cons] at h2 h3 hp
      rw [List.flatten_cons, List.cons_append, tops, if_pos h3, tops_skip x b _ (fun y hy => h2 y (by simp [hy]))]
      rw [ih x (fun c hc => ⟨(h c (by simp [hc])).1, (h c (by simp [hc])).2.1, hp.1 c hc⟩) hp.2]
      rfl

theorem Blocks.tops {p : List Int} (hp : IsPerm p) {bs : List (List Int)} (h : Blocks p bs) : tops 0 bs.flatten = bs.length :=
  tops_blocks bs 0 (fun b hb => ⟨(h.each b hb).ne, (h.each b hb).top, by have := (h.each b hb).bounds hp (h.each b hb).head_mem; omega⟩) h.rise

/-- One block fewer that is not yet seen. -/
theorem count_less : ∀ (bs : List (List Int)) (f f' : List Int → Bool) (b0 : List Int), bs.Pairwise (fun b c => b.headD 0 < c.headD 0) → b0 ∈ bs → f b0 = true → f' b0 = false → (∀ b ∈ bs, b ≠ b0 → f' b = f b) → bs.countP f' + 1 = bs.countP f := by
  intro bs
  induction bs with
  | nil => intro f f' b0 _ h; simp at h
  | cons b bs ih =>
    intro f f' b0 hp hin hf hf' ho
    rw [List.pairwise_cons] at hp
    rw [List.countP_cons, List.countP_cons]
    by_cases e : b = b0
    · subst e
      have : bs.countP f' = bs.countP f := by
        apply List.countP_congr
        intro c hc
        rw [ho c (by simp [hc]) (by intro e; subst e; have := hp.1 c hc; omega)]
      rw [this, hf, hf']; simp
    · have h1 : b0 ∈ bs := by
        rcases List.mem_cons.1 hin with h | h
        · exact absurd h.symm e
        · exact h
      have := ih f f' b0 hp.2 h1 hf hf' (fun c hc => ho c (by simp [hc]))
      rw [ho b (by simp) e]; omega

end Go.Proofs.Ytnjbkiegeielhab
