/-
  SCHENSTED, GREENE: no choice of places has more letters than the tableau's first rows (columns): plain facts.
-/
import Derived.Test.YtpbmcaoomcippadISid
namespace Go.Proofs.Ytpbmcaoomcippad

/-- A letter and the number of its subsequence; 0: left out. -/
abbrev Cl := List (Int × Nat)
/-- How letters of one subsequence stand to each other: never falling, or always falling. -/
def okk (s : Bool) (a b : Int) : Prop := if s then b < a else a ≤ b
def Val (s : Bool) (l : Cl) : Prop := l.Pairwise (fun a b => a.2 = b.2 → 0 < a.2 → okk s a.1 b.1)
def Has (s : Bool) (k n : Nat) (w : List Int) : Prop := ∃ l : Cl, l.map Prod.fst = w ∧ (∀ c ∈ l, c.2 ≤ k) ∧ Val s l ∧ l.countP (fun c => decide (0 < c.2)) = n

def sw (c d e : Nat) : Nat := if e = c then d else if e = d then c else e
def swL (c d : Nat) (l : Cl) : Cl := l.map (fun p => (p.1, sw c d p.2))
theorem swL_fst (c d : Nat) (l : Cl) : (swL c d l).map Prod.fst = l.map Prod.fst := by simp [swL]
theorem sw_pos {c d e : Nat} (hc : 0 < c) (hd : 0 < d) : 0 < sw c d e ↔ 0 < e := by unfold sw; split <;> (try split) <;> omega
theorem swL_count {c d : Nat} (hc : 0 < c) (hd : 0 < d) (l : Cl) : (swL c d l).countP (fun c => decide (0 < c.2)) = l.countP (fun c => decide (0 < c.2)) := by
  unfold swL
  rw [List.countP_map]
  refine List.countP_congr (fun p _ => ?_)
  simp only [Function.comp, decide_eq_true_eq]
  exact sw_pos hc hd
theorem swL_le {c d k : Nat} (hc : c ≤ k) (hd : d ≤ k) {l : Cl} (h : ∀ p ∈ l, p.2 ≤ k) : ∀ p ∈ swL c d l, p.2 ≤ k := fun p hp => by
  obtain ⟨q, hq, rfl⟩ := List.mem_map.1 hp
  have := h q hq
  simp only [sw]; split <;> (try split) <;> omega
theorem sw_inj {c d e f : Nat} : sw c d e = sw c d f → e = f := by unfold sw; intro h; split at h <;> split at h <;> (try split at h) <;> (try split at h) <;> omega
theorem swL_val {s : Bool} {c d : Nat} (hc : 0 < c) (hd : 0 < d) {l : Cl} (h : Val s l) : Val s (swL c d l) := by
  unfold Val swL
  rw [List.pairwise_map]
  refine h.imp (fun {a b} hab e hp => ?_)
  simp only at e hp
  exact hab (sw_inj e) ((sw_pos hc hd).1 hp)

/-- What is to be shown where three letters change their order, and perhaps two subsequences their ends. -/
theorem val_three {s : Bool} {A B : Cl} {m1 m2 m3 : Int × Nat} : Val s (A ++ [m1, m2, m3] ++ B) ↔
    Val s A ∧ Val s B ∧ (m1.2 = m2.2 → 0 < m1.2 → okk s m1.1 m2.1) ∧ (m1.2 = m3.2 → 0 < m1.2 → okk s m1.1 m3.1) ∧ (m2.2 = m3.2 → 0 < m2.2 → okk s m2.1 m3.1) ∧
    (∀ a ∈ A, ∀ m ∈ [m1, m2, m3], a.2 = m.2 → 0 < a.2 → okk s a.1 m.1) ∧ (∀ m ∈ [m1, m2, m3], ∀ b ∈ B, m.2 = b.2 → 0 < m.2 → okk s m.1 b.1) ∧ (∀ a ∈ A, ∀ b ∈ B, a.2 = b.2 → 0 < a.2 → okk s a.1 b.1) := by
  unfold Val
  rw [List.pairwise_append, List.pairwise_append]
  constructor
  · rintro ⟨⟨h1, h2, h3⟩, h4, h5⟩
    simp only [List.pairwise_cons, List.mem_cons, List.not_mem_nil, or_false] at h2
    refine ⟨h1, h4, h2.1 m2 (Or.inl rfl), h2.1 m3 (Or.inr rfl), h2.2.1 m3 rfl, h3, fun m hm b hb => h5 m (List.mem_append_right _ hm) b hb, fun a ha b hb => h5 a (List.mem_append_left _ ha) b hb⟩
  · rintro ⟨h1, h4, p12, p13, p23, h3, h5, h6⟩
    refine ⟨⟨h1, ?_, h3⟩, h4, fun a ha b hb => ?_⟩
    · simp only [List.pairwise_cons, List.mem_cons, List.not_mem_nil, or_false]
      refine ⟨fun q hq => ?_, fun q hq => ?_, fun q hq => hq.elim, List.Pairwise.nil⟩
      · rcases hq with rfl | rfl
        · exact p12
        · exact p13
      · subst hq; exact p23
    · rcases List.mem_append.1 ha with ha | ha
      · exact h6 a ha b hb
      · exact h5 a ha b hb

theorem split_map {A B C : List Int} {l : Cl} (h : l.map Prod.fst = A ++ B ++ C) : ∃ la lb lc, l = la ++ lb ++ lc ∧ la.map Prod.fst = A ∧ lb.map Prod.fst = B ∧ lc.map Prod.fst = C := by
  obtain ⟨l1, lc, rfl, h1, h2⟩ := List.map_eq_append_iff.1 h
  obtain ⟨la, lb, rfl, h3, h4⟩ := List.map_eq_append_iff.1 h1
  exact ⟨la, lb, lc, rfl, h3, h4, h2⟩
theorem three_map {x y z : Int} {l : Cl} (h : l.map Prod.fst = [x, y, z]) : ∃ a b c : Nat, l = [(x, a), (y, b), (z, c)] := by
  match l, h with
  | [(p, a), (q, b), (r, c)], h =>
    simp only [List.map_cons, List.map_nil, List.cons.injEq, and_true] at h
    exact ⟨a, b, c, by rw [h.1, h.2.1, h.2.2]⟩
  | [], h => simp at h
  | [_], h => simp at h
  | [_, _], h => simp at h
  | _ :: _ :: _ :: _ :: _, h => simp at h

theorem sw_cases (c d e : Nat) : (e = c ∧ sw c d e = d) ∨ (e ≠ c ∧ e = d ∧ sw c d e = c) ∨ (e ≠ c ∧ e ≠ d ∧ sw c d e = e) := by
  unfold sw
  by_cases h : e = c
  · left; exact ⟨h, if_pos h⟩
  · rw [if_neg h]
    by_cases h2 : e = d
    · right; left; exact ⟨h, h2, if_pos h2⟩
    · right; right; exact ⟨h, h2, if_neg h2⟩

/-- The two that change places are of one subsequence: the third one, M, makes it good. Told by the new letters' colours. -/
theorem has_swap {s : Bool} {k n : Nat} {A B : Cl} {m1 m2 m3 p1 p2 p3 : Int × Nat} {u : List Int} {c d : Nat} (hc : 0 < c) (hd : 0 < d) (hck : c ≤ k) (hdk : d ≤ k)
    (hk : ∀ q ∈ A ++ [m1, m2, m3] ++ B, q.2 ≤ k) (hn : (A ++ [m1, m2, m3] ++ B).countP (fun c => decide (0 < c.2)) = n)
    (hv : Val s (A ++ [m1, m2, m3] ++ B))
    (hu : u = A.map Prod.fst ++ [p1.1, p2.1, p3.1] ++ B.map Prod.fst) (hp : ∀ q ∈ [p1, p2, p3], 0 < q.2 ∧ q.2 ≤ k) (hm : ∀ q ∈ [m1, m2, m3], 0 < q.2)
    (h12 : p1.2 = p2.2 → okk s p1.1 p2.1) (h13 : p1.2 = p3.2 → okk s p1.1 p3.1) (h23 : p2.2 = p3.2 → okk s p2.1 p3.1)
    (hA : ∀ a : Int × Nat, (∀ m ∈ [m1, m2, m3], a.2 = m.2 → 0 < a.2 → okk s a.1 m.1) → ∀ p ∈ [p1, p2, p3], a.2 = p.2 → 0 < a.2 → okk s a.1 p.1)
    (hB : ∀ b : Int × Nat, (∀ m ∈ [m1, m2, m3], m.2 = b.2 → 0 < m.2 → okk s m.1 b.1) → ∀ p ∈ [p1, p2, p3], p.2 = sw c d b.2 → 0 < p.2 → okk s p.1 b.1)
    (hAB : ∀ a b : Int × Nat, (∀ m ∈ [m1, m2, m3], a.2 = m.2 → 0 < a.2 → okk s a.1 m.1) → (∀ m ∈ [m1, m2, m3], m.2 = b.2 → 0 < m.2 → okk s m.1 b.1) → (a.2 = b.2 → 0 < a.2 → okk s a.1 b.1) → a.2 = sw c d b.2 → 0 < a.2 → okk s a.1 b.1) :
    Has s k n u := by
  obtain ⟨v1, v2, v3, v4, v5, v6, v7, v8⟩ := val_three.1 hv
  refine ⟨A ++ [p1, p2, p3] ++ swL c d B, ?_, fun q hq => ?_, val_three.2 ⟨v1, swL_val hc hd v2, fun e _ => h12 e, fun e _ => h13 e, fun e _ => h23 e, fun a ha => hA a (v6 a ha), fun p hp2 b hb => ?_, fun a ha b hb => ?_⟩, ?_⟩
  · rw [List.map_append, List.map_append, swL_fst, hu]; rfl
  · rcases List.mem_append.1 hq with h | h
    · rcases List.mem_append.1 h with h | h
      · exact hk q (List.mem_append_left _ (List.mem_append_left _ h))
      · exact (hp q h).2
    · exact swL_le hck hdk (fun p hp3 => hk p (List.mem_append_right _ hp3)) q h
  · obtain ⟨b0, hb0, rfl⟩ := List.mem_map.1 hb
    exact hB b0 (fun m hm2 => v7 m hm2 b0 hb0) p hp2
  · obtain ⟨b0, hb0, rfl⟩ := List.mem_map.1 hb
    exact hAB a b0 (v6 a ha) (fun m hm2 => v7 m hm2 b0 hb0) (v8 a ha b0 hb0)
  · rw [← hn]
    simp only [List.countP_append, swL_count hc hd]
    have e1 : [p1, p2, p3].countP (fun c => decide (0 < c.2)) = 3 := by rw [List.countP_eq_length.2 (fun q hq => by simpa using (hp q hq).1)]; rfl
    have e2 : [m1, m2, m3].countP (fun c => decide (0 < c.2)) = 3 := by rw [List.countP_eq_length.2 (fun q hq => by simpa using hm q hq)]; rfl
    rw [e1, e2]
/-- The same where no ends change. -/
theorem has_keep {s : Bool} {k n : Nat} {A B : Cl} {m1 m2 m3 p1 p2 p3 : Int × Nat} {u : List Int}
    (hk : ∀ q ∈ A ++ [m1, m2, m3] ++ B, q.2 ≤ k) (hn : (A ++ [m1, m2, m3] ++ B).countP (fun c => decide (0 < c.2)) = n)
    (hv : Val s (A ++ [m1, m2, m3] ++ B))
    (hu : u = A.map Prod.fst ++ [p1.1, p2.1, p3.1] ++ B.map Prod.fst) (hp : ∀ q ∈ [p1, p2, p3], q.2 ≤ k)
    (hcnt : [p1, p2, p3].countP (fun c => decide (0 < c.2)) = [m1, m2, m3].countP (fun c => decide (0 < c.2)))
    (h12 : p1.2 = p2.2 → 0 < p1.2 → okk s p1.1 p2.1) (h13 : p1.2 = p3.2 → 0 < p1.2 → okk s p1.1 p3.1) (h23 : p2.2 = p3.2 → 0 < p2.2 → okk s p2.1 p3.1)
    (hA : ∀ a : Int × Nat, (∀ m ∈ [m1, m2, m3], a.2 = m.2 → 0 < a.2 → okk s a.1 m.1) → ∀ p ∈ [p1, p2, p3], a.2 = p.2 → 0 < a.2 → okk s a.1 p.1)
    (hB : ∀ b : Int × Nat, (∀ m ∈ [m1, m2, m3], m.2 = b.2 → 0 < m.2 → okk s m.1 b.1) → ∀ p ∈ [p1, p2, p3], p.2 = b.2 → 0 < p.2 → okk s p.1 b.1) :
    Has s k n u := by
  obtain ⟨v1, v2, v3, v4, v5, v6, v7, v8⟩ := val_three.1 hv
  refine ⟨A ++ [p1, p2, p3] ++ B, by rw [List.map_append, List.map_append, hu]; rfl, fun q hq => ?_, val_three.2 ⟨v1, v2, h12, h13, h23, fun a ha => hA a (v6 a ha), fun p hp2 b hb => hB b (fun m hm2 => v7 m hm2 b hb) p hp2, v8⟩, ?_⟩
  · rcases List.mem_append.1 hq with h | h
    · rcases List.mem_append.1 h with h | h
      · exact hk q (List.mem_append_left _ (List.mem_append_left _ h))
      · exact hp q h
    · exact hk q (List.mem_append_right _ h)
  · rw [← hn]; simp only [List.countP_append, hcnt]

theorem all3 {P : Int × Nat → Prop} {a b c : Int × Nat} : (∀ m ∈ [a, b, c], P m) ↔ P a ∧ P b ∧ P c := by simp

theorem has_k3 {s : Bool} {k n : Nat} {a b : List Int} {u v : List Int} (h : K3 u v ∨ K3 v u) (hh : Has s k n (a ++ u ++ b)) : Has s k n (a ++ v ++ b) := by
  obtain ⟨l, h1, h2, h3, h4⟩ := hh
  obtain ⟨la, lb, lc, rfl, e1, e2, e3⟩ := split_map h1
  have fin : ∀ {x y z : Int}, a ++ [x, y, z] ++ b = la.map Prod.fst ++ [x, y, z] ++ lc.map Prod.fst := by rw [e1, e3]; intros; rfl
  rcases h with (⟨x, y, z, hxy, hyz, rfl, rfl⟩ | ⟨x, y, z, hxy, hyz, rfl, rfl⟩) | (⟨x, y, z, hxy, hyz, rfl, rfl⟩ | ⟨x, y, z, hxy, hyz, rfl, rfl⟩)
  · -- y x z to y z x
    obtain ⟨d, c, c', rfl⟩ := three_map e2
    obtain ⟨-, -, q1, q2, q3, -, -, -⟩ := val_three.1 h3
    have k1 := h2 (y, d) (by simp); have k2 := h2 (x, c) (by simp); have k3 := h2 (z, c') (by simp)
    simp only at q1 q2 q3 k1 k2 k3
    by_cases hcc : c = c' ∧ 0 < c ∧ s = false
    · obtain ⟨rfl, hc, rfl⟩ := hcc
      simp only [okk, Bool.false_eq_true, if_false] at q1 q2 q3
      by_cases hd : d = 0
      · subst hd
        refine has_keep (p1 := (y, c)) (p2 := (z, c)) (p3 := (x, 0)) h2 h4 h3 fin ?_ ?_ ?_ ?_ ?_ (fun p hp => ?_) (fun p hp => ?_)
        · rw [all3]; exact ⟨k2, k2, by simp⟩
        · simp [hc]
        · simp only [okk]; intros; simp; omega
        · simp only [okk]; intros; simp; omega
        · simp only [okk]; intros; simp; omega
        · rw [all3] at hp ⊢; simp only [okk, Bool.false_eq_true, if_false] at hp ⊢; omega
        · rw [all3] at hp ⊢; simp only [okk, Bool.false_eq_true, if_false] at hp ⊢; omega
      · have hdc : d ≠ c := fun e => by have := q1 e (by omega); omega
        refine has_swap (c := c) (d := d) (p1 := (y, d)) (p2 := (z, d)) (p3 := (x, c)) hc (by omega) k2 k1 h2 h4 h3 fin ?_ ?_ ?_ ?_ ?_ (fun p hp => ?_) (fun p hp => ?_) (fun p q hp hq hpq => ?_)
        · rw [all3]; simp only; omega
        · rw [all3]; simp only; omega
        · simp only [okk]; intros; simp; omega
        · simp only [okk]; intros; simp; omega
        · simp only [okk]; intros; simp; omega
        · rw [all3] at hp ⊢; simp only [okk, Bool.false_eq_true, if_false] at hp ⊢; omega
        · rw [all3] at hp ⊢; simp only [okk, Bool.false_eq_true, if_false] at hp ⊢
          have := sw_cases c d p.2; omega
        · rw [all3] at hp hq; simp only [okk, Bool.false_eq_true, if_false] at hp hq hpq ⊢
          have := sw_cases c d q.2; omega
    · refine has_keep (p1 := (y, d)) (p2 := (z, c')) (p3 := (x, c)) h2 h4 h3 fin ?_ ?_ ?_ ?_ ?_ (fun p hp => ?_) (fun p hp => ?_)
      · rw [all3]; exact ⟨k1, k3, k2⟩
      · simp only [List.countP_cons, List.countP_nil]; omega
      · exact q2
      · exact q1
      · intro e hp
        cases s with
        | false => exact absurd ⟨e.symm, by simp only at e hp; omega, rfl⟩ hcc
        | true => simp only [okk, if_true]; omega
      · rw [all3] at hp ⊢; exact ⟨hp.1, hp.2.2, hp.2.1⟩
      · rw [all3] at hp ⊢; exact ⟨hp.1, hp.2.2, hp.2.1⟩
  · -- x z y to z x y
    obtain ⟨c, c', d, rfl⟩ := three_map e2
    obtain ⟨-, -, q1, q2, q3, -, -, -⟩ := val_three.1 h3
    have k1 := h2 (x, c) (by simp); have k2 := h2 (z, c') (by simp); have k3 := h2 (y, d) (by simp)
    simp only at q1 q2 q3 k1 k2 k3
    by_cases hcc : c = c' ∧ 0 < c ∧ s = false
    · obtain ⟨rfl, hc, rfl⟩ := hcc
      simp only [okk, Bool.false_eq_true, if_false] at q1 q2 q3
      by_cases hd : d = 0
      · subst hd
        refine has_keep (p1 := (z, 0)) (p2 := (x, c)) (p3 := (y, c)) h2 h4 h3 fin ?_ ?_ ?_ ?_ ?_ (fun p hp => ?_) (fun p hp => ?_)
        · rw [all3]; exact ⟨by simp, k2, k2⟩
        · simp [hc]
        · simp only [okk]; intros; simp; omega
        · simp only [okk]; intros; simp; omega
        · simp only [okk]; intros; simp; omega
        · rw [all3] at hp ⊢; simp only [okk, Bool.false_eq_true, if_false] at hp ⊢; omega
        · rw [all3] at hp ⊢; simp only [okk, Bool.false_eq_true, if_false] at hp ⊢; omega
      · have hdc : d ≠ c := fun e => by have := q3 e.symm (by omega); omega
        refine has_swap (c := c) (d := d) (p1 := (z, d)) (p2 := (x, c)) (p3 := (y, c)) hc (by omega) k2 k3 h2 h4 h3 fin ?_ ?_ ?_ ?_ ?_ (fun p hp => ?_) (fun p hp => ?_) (fun p q hp hq hpq => ?_)
        · rw [all3]; simp only; omega
        · rw [all3]; simp only; omega
        · simp only [okk]; intros; simp; omega
        · simp only [okk]; intros; simp; omega
        · simp only [okk]; intros; simp; omega
        · rw [all3] at hp ⊢; simp only [okk, Bool.false_eq_true, if_false] at hp ⊢; omega
        · rw [all3] at hp ⊢; simp only [okk, Bool.false_eq_true, if_false] at hp ⊢
          have := sw_cases c d p.2; omega
        · rw [all3] at hp hq; simp only [okk, Bool.false_eq_true, if_false] at hp hq hpq ⊢
          have := sw_cases c d q.2; omega
    · refine has_keep (p1 := (z, c')) (p2 := (x, c)) (p3 := (y, d)) h2 h4 h3 fin ?_ ?_ ?_ ?_ ?_ (fun p hp => ?_) (fun p hp => ?_)
      · rw [all3]; exact ⟨k2, k1, k3⟩
      · simp only [List.countP_cons, List.countP_nil]; omega
      · intro e hp
        cases s with
        | false => exact absurd ⟨e.symm, by simp only at e hp; omega, rfl⟩ hcc
        | true => simp only [okk, if_true]; omega
      · exact q3
      · exact q2
      · rw [all3] at hp ⊢; exact ⟨hp.2.1, hp.1, hp.2.2⟩
      · rw [all3] at hp ⊢; exact ⟨hp.2.1, hp.1, hp.2.2⟩
  · -- y z x to y x z
    obtain ⟨d, c, c', rfl⟩ := three_map e2
    obtain ⟨-, -, q1, q2, q3, -, -, -⟩ := val_three.1 h3
    have k1 := h2 (y, d) (by simp); have k2 := h2 (z, c) (by simp); have k3 := h2 (x, c') (by simp)
    simp only at q1 q2 q3 k1 k2 k3
    by_cases hcc : c = c' ∧ 0 < c ∧ s = true
    · obtain ⟨rfl, hc, rfl⟩ := hcc
      simp only [okk, if_true] at q1 q2 q3
      by_cases hd : d = 0
      · subst hd
        refine has_keep (p1 := (y, c)) (p2 := (x, c)) (p3 := (z, 0)) h2 h4 h3 fin ?_ ?_ ?_ ?_ ?_ (fun p hp => ?_) (fun p hp => ?_)
        · rw [all3]; exact ⟨k2, k2, by simp⟩
        · simp [hc]
        · simp only [okk]; intros; simp; omega
        · simp only [okk]; intros; simp; omega
        · simp only [okk]; intros; simp; omega
        · rw [all3] at hp ⊢; simp only [okk, if_true] at hp ⊢; omega
        · rw [all3] at hp ⊢; simp only [okk, if_true] at hp ⊢; omega
      · have hdc : d ≠ c := fun e => by have := q1 e (by omega); omega
        refine has_swap (c := c) (d := d) (p1 := (y, d)) (p2 := (x, d)) (p3 := (z, c)) hc (by omega) k2 k1 h2 h4 h3 fin ?_ ?_ ?_ ?_ ?_ (fun p hp => ?_) (fun p hp => ?_) (fun p q hp hq hpq => ?_)
        · rw [all3]; simp only; omega
        · rw [all3]; simp only; omega
        · simp only [okk]; intros; simp; omega
        · simp only [okk]; intros; simp; omega
        · simp only [okk]; intros; simp; omega
        · rw [all3] at hp ⊢; simp only [okk, if_true] at hp ⊢; omega
        · rw [all3] at hp ⊢; simp only [okk, if_true] at hp ⊢
          have := sw_cases c d p.2; omega
        · rw [all3] at hp hq; simp only [okk, if_true] at hp hq hpq ⊢
          have := sw_cases c d q.2; omega
    · refine has_keep (p1 := (y, d)) (p2 := (x, c')) (p3 := (z, c)) h2 h4 h3 fin ?_ ?_ ?_ ?_ ?_ (fun p hp => ?_) (fun p hp => ?_)
      · rw [all3]; exact ⟨k1, k3, k2⟩
      · simp only [List.countP_cons, List.countP_nil]; omega
      · exact q2
      · exact q1
      · intro e hp
        cases s with
        | true => exact absurd ⟨e.symm, by simp only at e hp; omega, rfl⟩ hcc
        | false => simp only [okk, Bool.false_eq_true, if_false]; omega
      · rw [all3] at hp ⊢; exact ⟨hp.1, hp.2.2, hp.2.1⟩
      · rw [all3] at hp ⊢; exact ⟨hp.1, hp.2.2, hp.2.1⟩
  · -- z x y to x z y
    obtain ⟨c, c', d, rfl⟩ := three_map e2
    obtain ⟨-, -, q1, q2, q3, -, -, -⟩ := val_three.1 h3
    have k1 := h2 (z, c) (by simp); have k2 := h2 (x, c') (by simp); have k3 := h2 (y, d) (by simp)
    simp only at q1 q2 q3 k1 k2 k3
    by_cases hcc : c = c' ∧ 0 < c ∧ s = true
    · obtain ⟨rfl, hc, rfl⟩ := hcc
      simp only [okk, if_true] at q1 q2 q3
      by_cases hd : d = 0
      · subst hd
        refine has_keep (p1 := (x, 0)) (p2 := (z, c)) (p3 := (y, c)) h2 h4 h3 fin ?_ ?_ ?_ ?_ ?_ (fun p hp => ?_) (fun p hp => ?_)
        · rw [all3]; exact ⟨by simp, k2, k2⟩
        · simp [hc]
        · simp only [okk]; intros; simp; omega
        · simp only [okk]; intros; simp; omega
        · simp only [okk]; intros; simp; omega
        · rw [all3] at hp ⊢; simp only [okk, if_true] at hp ⊢; omega
        · rw [all3] at hp ⊢; simp only [okk, if_true] at hp ⊢; omega
      · have hdc : d ≠ c := fun e => by have := q3 e.symm (by omega); omega
        refine has_swap (c := c) (d := d) (p1 := (x, d)) (p2 := (z, c)) (p3 := (y, c)) hc (by omega) k2 k3 h2 h4 h3 fin ?_ ?_ ?_ ?_ ?_ (fun p hp => ?_) (fun p hp => ?_) (fun p q hp hq hpq => ?_)
        · rw [all3]; simp only; omega
        · rw [all3]; simp only; omega
        · simp only [okk]; intros; simp; omega
        · simp only [okk]; intros; simp; omega
        · simp only [okk]; intros; simp; omega
        · rw [all3] at hp ⊢; simp only [okk, if_true] at hp ⊢; omega
        · rw [all3] at hp ⊢; simp only [okk, if_true] at hp ⊢
          have := sw_cases c d p.2; omega
        · rw [all3] at hp hq; simp only [okk, if_true] at hp hq hpq ⊢
          have := sw_cases c d q.2; omega
    · refine has_keep (p1 := (x, c')) (p2 := (z, c)) (p3 := (y, d)) h2 h4 h3 fin ?_ ?_ ?_ ?_ ?_ (fun p hp => ?_) (fun p hp => ?_)
      · rw [all3]; exact ⟨k2, k1, k3⟩
      · simp only [List.countP_cons, List.countP_nil]; omega
      · intro e hp
        cases s with
        | true => exact absurd ⟨e.symm, by simp only at e hp; omega, rfl⟩ hcc
        | false => simp only [okk, Bool.false_eq_true, if_false]; omega
      · exact q3
      · exact q2
      · rw [all3] at hp ⊢; exact ⟨hp.2.1, hp.1, hp.2.2⟩
      · rw [all3] at hp ⊢; exact ⟨hp.2.1, hp.1, hp.2.2⟩

def SameHas (s : Bool) (u v : List Int) : Prop := ∀ k n a b, Has s k n (a ++ u ++ b) ↔ Has s k n (a ++ v ++ b)
theorem plac_has (s : Bool) : Plac (SameHas s) := by
  refine ⟨fun u k n a b => Iff.rfl, fun h k n a b => (h k n a b).symm, fun h1 h2 k n a b => (h1 k n a b).trans (h2 k n a b), fun c d u v h k n a b => ?_, fun {u v} h k n a b => ⟨has_k3 (Or.inl h), has_k3 (Or.inr h)⟩⟩
  have := h k n (a ++ c) (d ++ b)
  simpa using this
/-- What holds of a word's tableau holds of the word. -/
theorem has_P (s : Bool) (k n : Nat) (w : List Int) : Has s k n w ↔ Has s k n (wrd (insW [] w)) := by
  have := word_of (plac_has s) w k n [] []
  simpa using this

end Go.Proofs.Ytpbmcaoomcippad
