/-
  Demoted: a slide back: plain facts.
-/
import Derived.Test.YtjciandmpfcfjaaSPro
namespace Go.Proofs.Ytjciandmpfcfjaa

/-- No letter twice, the hole aside. -/
def Dis (i j : Nat) (s : List (List Int)) : Prop := ∀ a b c d, b < (row s a).length → d < (row s c).length → ¬ one i j a b → ¬ one i j c d → box s a b = box s c d → a = c ∧ b = d
theorem Dis.move {i j p q : Nat} {s : List (List Int)} (h : Dis i j s) (hj : j < (row s i).length) (hq : q < (row s p).length) (hne : ¬ (p = i ∧ q = j)) : Dis p q (sb s i j (box s p q)) := by
  have hbx := sb_box hj (box s p q)
  intro a b c d h1 h2 n1 n2 e
  rw [sb_len] at h1 h2
  rw [hbx, hbx] at e
  by_cases e1 : a = i ∧ b = j
  · rw [if_pos e1] at e
    by_cases e2 : c = i ∧ d = j
    · exact ⟨e1.1.trans e2.1.symm, e1.2.trans e2.2.symm⟩
    · rw [if_neg e2] at e
      have := h p q c d hq h2 hne e2 e
      exact absurd ⟨this.1.symm, this.2.symm⟩ n2
  · rw [if_neg e1] at e
    by_cases e2 : c = i ∧ d = j
    · rw [if_pos e2] at e
      exact absurd (h a b p q h1 hq e1 hne e) n1
    · rw [if_neg e2] at e
      exact h a b c d h1 h2 e1 e2 e

theorem er_sb (s : List (List Int)) (i j : Nat) (x : Int) : er (sb s i j x) i j = er s i j := by
  unfold er
  rw [sb_row, if_pos rfl]
  unfold sb
  rw [List.set_set]
  congr 1
  rw [erase_at, erase_at]
  congr 1
  · rw [List.take_set_of_le (Nat.le_refl _)]
  · rw [List.drop_set_of_lt (by omega)]
theorem sb_self {s : List (List Int)} {i j : Nat} : sb s i j (box s i j) = s := by
  unfold sb box
  rw [set_same rfl]
  refine ext_row (by simp) (fun a _ => ?_)
  rw [set_row]
  by_cases q : a = i ∧ i < s.length
  · rw [if_pos q, q.1]
  · rw [if_neg q]

/-- The hole goes up. -/
theorem Hol.up {s : List (List Int)} {i j : Nat} (k : Hol (fun _ => 0) s (i + 1) j) (hc : 0 < j → box s (i + 1) (j - 1) < box s i j) :
    Hol (fun _ => 0) (sb s (i + 1) j (box s i j)) i j ∧ Eqv (sword (fun _ => 0) (er s (i + 1) j)) (sword (fun _ => 0) (er (sb s (i + 1) j (box s i j)) i j)) := by
  have hlt := k.lt
  have hsh := k.sk.shp.shorter' (a := i) (b := i + 1) (by omega)
  have hbx := sb_box hlt (box s i j)
  have no : ∀ a b, a ≠ i + 1 → ¬ one (i + 1) j a b := fun a b h q => h q.1
  have sk : Sk (one i j) (fun _ => 0) (sb s (i + 1) j (box s i j)) := by
    refine ⟨sb_shp k.sk.shp _ _ _, fun _ => Nat.le_refl _, fun _ => Nat.zero_le _, fun a b hb => by omega, fun a b h1 h2 hx => ?_, fun a b c h1 h2 h3 hx hy => ?_, fun a c b h1 h2 h3 hx hy => ?_⟩
    · rw [sb_len] at h2
      rw [hbx]
      by_cases e : a = i + 1 ∧ b = j
      · rw [if_pos e]; exact k.sk.pos i j (by omega) (by omega) (no _ _ (by omega))
      · rw [if_neg e]; exact k.sk.pos a b h1 h2 e
    · rw [sb_len] at h3
      rw [hbx, hbx]
      by_cases e : a = i + 1 ∧ b = j
      · rw [if_pos e, if_neg (fun q => by omega)]
        have h3' : c < (Go.Proofs.Ytjciandmpfcfjaa.row s (i + 1)).length := by rw [← e.1]; exact h3
        have q1 := k.sk.along i j c (by omega) (by omega) (by omega) (no _ _ (by omega)) (no _ _ (by omega))
        have q2 := k.sk.down i (i + 1) c (by omega) (by omega) h3' (no _ _ (by omega)) (fun q => by have := q.2; omega)
        rw [e.1]; omega
      · rw [if_neg e]
        by_cases e2 : a = i + 1 ∧ c = j
        · rw [if_pos e2, e2.1]
          have hc' := hc (by omega)
          by_cases q : b = j - 1
          · rw [q]; omega
          · have := k.sk.along (i + 1) b (j - 1) (by omega) (by omega) (by omega) (fun z => by have := z.2; omega) (fun z => by have := z.2; omega)
            omega
        · rw [if_neg e2]; exact k.sk.along a b c h1 h2 h3 e e2
    · rw [sb_len] at h3
      rw [hbx, hbx]
      by_cases e : a = i + 1 ∧ b = j
      · rw [if_pos e, if_neg (fun q => by omega), e.2]
        exact k.sk.down i c j (by omega) (by omega) (by rw [← e.2]; exact h3) (no _ _ (by omega)) (no _ _ (by omega))
      · rw [if_neg e]
        by_cases e2 : c = i + 1 ∧ b = j
        · rw [if_pos e2]
          have : a ≠ i := fun q => hx ⟨q, e2.2⟩
          rw [e2.2]
          exact k.sk.down a i j (by omega) (by omega) (by omega) (no _ _ (by omega)) (no _ _ (by omega))
        · rw [if_neg e2]; exact k.sk.down a c b h1 h2 h3 e e2
  refine ⟨⟨sk, Nat.zero_le _, by rw [sb_len]; omega⟩, ?_⟩
  have hb1 : box (sb s (i + 1) j (box s i j)) (i + 1) j = box s i j := by rw [hbx, if_pos ⟨rfl, rfl⟩]
  have hb2 : box (sb s (i + 1) j (box s i j)) i j = box s i j := by rw [hbx, if_neg (fun q => by omega)]
  have := er_below sk (Nat.zero_le _) (by rw [sb_len]; exact hlt) (fun q => by
    rw [sb_len] at q
    rw [hb1, hbx, if_neg (fun z => by omega)]
    exact k.sk.along i j (j + 1) (by omega) (by omega) q (no _ _ (by omega)) (no _ _ (by omega)))
  rw [hb1] at this
  have e : sb (sb s (i + 1) j (box s i j)) i j (box s i j) = sb s (i + 1) j (box s i j) := by
    conv => lhs; arg 4; rw [← hb2]
    exact sb_self
  rw [e, er_sb] at this
  exact this.symm

/-- The hole goes left. -/
theorem Hol.lefts {s : List (List Int)} {i j : Nat} (k : Hol (fun _ => 0) s i (j + 1)) (hc : 0 < i → box s (i - 1) (j + 1) < box s i j) :
    Hol (fun _ => 0) (sb s i (j + 1) (box s i j)) i j ∧ Eqv (sword (fun _ => 0) (er s i (j + 1))) (sword (fun _ => 0) (er (sb s i (j + 1) (box s i j)) i j)) := by
  have hlt := k.lt
  have hbx := sb_box hlt (box s i j)
  have no : ∀ a b, b ≠ j + 1 → ¬ one i (j + 1) a b := fun a b h q => h q.2
  have no2 : ∀ a b, a ≠ i → ¬ one i (j + 1) a b := fun a b h q => h q.1
  have sk : Sk (one i j) (fun _ => 0) (sb s i (j + 1) (box s i j)) := by
    refine ⟨sb_shp k.sk.shp _ _ _, fun _ => Nat.le_refl _, fun _ => Nat.zero_le _, fun a b hb => by omega, fun a b h1 h2 hx => ?_, fun a b c h1 h2 h3 hx hy => ?_, fun a c b h1 h2 h3 hx hy => ?_⟩
    · rw [sb_len] at h2
      rw [hbx]
      by_cases e : a = i ∧ b = j + 1
      · rw [if_pos e]; exact k.sk.pos i j (by omega) (by omega) (no _ _ (by omega))
      · rw [if_neg e]; exact k.sk.pos a b h1 h2 e
    · rw [sb_len] at h3
      rw [hbx, hbx]
      by_cases e : a = i ∧ b = j + 1
      · rw [if_pos e, if_neg (fun q => by omega), e.1]
        exact k.sk.along i j c (by omega) (by omega) (by rw [← e.1]; exact h3) (no _ _ (by omega)) (no _ _ (by omega))
      · rw [if_neg e]
        by_cases e2 : a = i ∧ c = j + 1
        · rw [if_pos e2, e2.1]
          have : b ≠ j := fun q => hx ⟨e2.1, q⟩
          exact k.sk.along i b j (by omega) (by omega) (by omega) (no _ _ (by omega)) (no _ _ (by omega))
        · rw [if_neg e2]; exact k.sk.along a b c h1 h2 h3 e e2
    · rw [sb_len] at h3
      rw [hbx, hbx]
      by_cases e : a = i ∧ b = j + 1
      · rw [if_pos e, if_neg (fun q => by omega), e.2]
        have h3' : j + 1 < (Go.Proofs.Ytjciandmpfcfjaa.row s c).length := by rw [← e.2]; exact h3
        have q1 := k.sk.down i c j (by omega) (by omega) (by omega) (no _ _ (by omega)) (no _ _ (by omega))
        have q2 := k.sk.along c j (j + 1) (by omega) (by omega) h3' (no _ _ (by omega)) (no2 _ _ (by omega))
        omega
      · rw [if_neg e]
        by_cases e2 : c = i ∧ b = j + 1
        · rw [if_pos e2, e2.2]
          have hc' := hc (by omega)
          by_cases q : a = i - 1
          · rw [q]; exact hc'
          · have := k.sk.down a (i - 1) (j + 1) (by omega) (by omega) (by have := k.sk.shp.shorter' (a := i - 1) (b := i) (by omega); omega) (no2 _ _ (by omega)) (no2 _ _ (by omega))
            omega
        · rw [if_neg e2]; exact k.sk.down a c b h1 h2 h3 e e2
  refine ⟨⟨sk, Nat.zero_le _, by rw [sb_len]; omega⟩, ?_⟩
  have hb1 : box (sb s i (j + 1) (box s i j)) i (j + 1) = box s i j := by rw [hbx, if_pos ⟨rfl, rfl⟩]
  have hb2 : box (sb s i (j + 1) (box s i j)) i j = box s i j := by rw [hbx, if_neg (fun q => by omega)]
  have := er_right (s := sb s i (j + 1) (box s i j)) (i := i) (j := j) (by rw [sb_len]; exact hlt)
  rw [hb1] at this
  have e : sb (sb s i (j + 1) (box s i j)) i j (box s i j) = sb s i (j + 1) (box s i j) := by
    conv => lhs; arg 4; rw [← hb2]
    exact sb_self
  rw [e, er_sb] at this
  rw [this]; exact Eqv.refl _

/-- The way back. -/
def mb : Nat → List (List Int) → Nat → Nat → List (List Int)
  | 0, s, _, _ => s
  | n + 1, s, i, j => if j = 0 ∨ (0 < i ∧ box s i (j - 1) < box s (i - 1) j) then mb n (sb s i j (box s (i - 1) j)) (i - 1) j else mb n (sb s i j (box s i (j - 1))) i (j - 1)
theorem mb_step (n : Nat) (s : List (List Int)) (i j : Nat) : mb (n + 1) s i j = if j = 0 ∨ (0 < i ∧ box s i (j - 1) < box s (i - 1) j) then mb n (sb s i j (box s (i - 1) j)) (i - 1) j else mb n (sb s i j (box s i (j - 1))) i (j - 1) := rfl
theorem mb_down {s : List (List Int)} {i j : Nat} (k : Hol (fun _ => 0) s i j) (hd : Dis i j s) (h0 : 0 < i + j) (c : j = 0 ∨ (0 < i ∧ box s i (j - 1) < box s (i - 1) j)) :
    0 < i ∧ Hol (fun _ => 0) (sb s i j (box s (i - 1) j)) (i - 1) j ∧ Dis (i - 1) j (sb s i j (box s (i - 1) j)) ∧ Eqv (sword (fun _ => 0) (er s i j)) (sword (fun _ => 0) (er (sb s i j (box s (i - 1) j)) (i - 1) j)) := by
  have hi : 0 < i := by rcases c with c | c <;> omega
  obtain ⟨i, rfl⟩ : ∃ m, i = m + 1 := ⟨i - 1, by omega⟩
  obtain ⟨k1, k2⟩ := Hol.up k (fun q => by rcases c with c | c
                                           · omega
                                           · simpa using c.2)
  refine ⟨hi, by simpa using k1, ?_, by simpa using k2⟩
  have := k.sk.shp.shorter' (a := i) (b := i + 1) (by omega)
  have := k.lt
  exact hd.move k.lt (by simpa using (by omega : j < (row s i).length)) (fun q => by have := q.1; omega)
theorem mb_left {s : List (List Int)} {i j : Nat} (k : Hol (fun _ => 0) s i j) (hd : Dis i j s) (c : ¬ (j = 0 ∨ (0 < i ∧ box s i (j - 1) < box s (i - 1) j))) :
    0 < j ∧ Hol (fun _ => 0) (sb s i j (box s i (j - 1))) i (j - 1) ∧ Dis i (j - 1) (sb s i j (box s i (j - 1))) ∧ Eqv (sword (fun _ => 0) (er s i j)) (sword (fun _ => 0) (er (sb s i j (box s i (j - 1))) i (j - 1))) := by
  have hj : 0 < j := by omega
  obtain ⟨j, rfl⟩ : ∃ m, j = m + 1 := ⟨j - 1, by omega⟩
  have hlt := k.lt
  simp only [Nat.add_sub_cancel] at c ⊢
  obtain ⟨k1, k2⟩ := Hol.lefts k (fun q => by
    have h1 : ¬ box s i j < box s (i - 1) (j + 1) := fun z => c (Or.inr ⟨q, z⟩)
    have hsh := k.sk.shp.shorter' (a := i - 1) (b := i) (by omega)
    have h2 : box s i j ≠ box s (i - 1) (j + 1) := fun z => by
      have := hd i j (i - 1) (j + 1) (by omega) (by omega) (fun y => by have := y.2; omega) (fun y => by have := y.1; omega) z
      omega
    omega)
  exact ⟨hj, k1, hd.move hlt (by omega) (fun q => by have := q.2; omega), k2⟩
theorem mb_ok : ∀ (n : Nat) (s : List (List Int)) (i j : Nat), i + j = n → Hol (fun _ => 0) s i j → Dis i j s →
    Hol (fun _ => 0) (mb n s i j) 0 0 ∧ (mb n s i j).length = s.length ∧ (∀ a, (row (mb n s i j) a).length = (row s a).length) ∧ Eqv (sword (fun _ => 0) (er s i j)) (sword (fun _ => 0) (er (mb n s i j) 0 0)) := by
  intro n
  induction n with
  | zero =>
    intro s i j hn k _
    obtain ⟨rfl, rfl⟩ : i = 0 ∧ j = 0 := by omega
    exact ⟨k, rfl, fun _ => rfl, Eqv.refl _⟩
  | succ n ih =>
    intro s i j hn k hd
    rw [mb_step]
    by_cases c : j = 0 ∨ (0 < i ∧ box s i (j - 1) < box s (i - 1) j)
    · rw [if_pos c]
      obtain ⟨k0, k1, k2, k3⟩ := mb_down k hd (by omega) c
      obtain ⟨g1, g2, g3, g4⟩ := ih _ _ _ (by omega) k1 k2
      exact ⟨g1, by rw [g2, sb_length], fun a => by rw [g3, sb_len], k3.trans g4⟩
    · rw [if_neg c]
      obtain ⟨k0, k1, k2, k3⟩ := mb_left k hd c
      obtain ⟨g1, g2, g3, g4⟩ := ih _ _ _ (by omega) k1 k2
      exact ⟨g1, by rw [g2, sb_length], fun a => by rw [g3, sb_len], k3.trans g4⟩

/-- Demoted: n stands in row i, column j. -/
def dm (t : List (List Int)) (i j : Nat) : List (List Int) := rais 1 (sb (mb (i + j) t i j) 0 0 0)
theorem fill_first {s : List (List Int)} (k : Hol (fun _ => 0) s 0 0) : T (sb s 0 0 0) := by
  have hbx := sb_box (s := s) (i := 0) (j := 0) k.lt 0
  refine T_row.2 (fun i hi => ?_)
  rw [sb_length] at hi
  refine ⟨by rw [sb_len]; exact k.sk.shp.1 i hi, fun j hj => ?_, by rw [sb_len, sb_len]; exact k.sk.shp.shorter' (by omega), fun j hj => ?_⟩
  · rw [sb_len] at hj
    show box _ i j ≤ box _ i (j + 1)
    rw [hbx, hbx, if_neg (c := i = 0 ∧ j + 1 = 0) (fun q => by omega)]
    by_cases e : i = 0 ∧ j = 0
    · rw [if_pos e]; have := k.sk.pos i (j + 1) (by omega) hj (fun q => by have := q.2; omega); omega
    · rw [if_neg e]; exact k.sk.along i j (j + 1) (by omega) (by omega) hj e (fun q => by have := q.2; omega)
  · rw [sb_len] at hj
    show box _ i j < box _ (i + 1) j
    rw [hbx, hbx, if_neg (c := i + 1 = 0 ∧ j = 0) (fun q => by omega)]
    by_cases e : i = 0 ∧ j = 0
    · rw [if_pos e]; have := k.sk.pos (i + 1) j (by omega) hj (fun q => by have := q.1; omega); omega
    · rw [if_neg e]; exact k.sk.down i (i + 1) j (by omega) (by omega) hj e (fun q => by have := q.1; omega)
theorem Std.dis {n : Nat} {t : List (List Int)} (h : Std n t) (i j : Nat) : Dis i j t := by
  intro a b c d h1 h2 _ _ e
  refine Classical.byContradiction (fun q => ?_)
  have m := mem_sword_er h1 h2 (fun z => q ⟨z.1.symm, z.2.symm⟩)
  obtain ⟨u, v, e1, e2⟩ := wrd_sb h1 (Go.Proofs.Ytjciandmpfcfjaa.box t a b)
  rw [sb_self] at e1
  have hn := h.perm.once
  rw [e1] at hn
  have := (List.nodup_cons.1 (List.perm_middle.nodup_iff.1 hn)).1
  rw [e2, ← e] at m
  exact this m
theorem Std.last {n : Nat} {t : List (List Int)} (h : Std n t) {i j : Nat} (hj : j < (row t i).length) (hn : Go.Proofs.Ytjciandmpfcfjaa.box t i j = n) : sword (fun _ => 0) (er t i j) = (wrd t).filter (fun z => decide (z ≤ (n : Int) - 1)) := by
  obtain ⟨u, v, e1, e2⟩ := wrd_sb hj (Go.Proofs.Ytjciandmpfcfjaa.box t i j)
  have e3 := e1
  rw [sb_self] at e3
  have hnd := h.perm.once
  rw [e3] at hnd
  have hne := (List.nodup_cons.1 (List.perm_middle.nodup_iff.1 hnd)).1
  have := sword_er hj (x := Go.Proofs.Ytjciandmpfcfjaa.box t i j) (p := fun z => decide (z ≤ (n : Int) - 1)) (by rw [hn]; simp; omega) (fun z hz => by
    rw [e2] at hz
    have q1 : z ∈ wrd t := by
      rw [e3, List.mem_append, List.mem_cons]
      rcases List.mem_append.1 hz with q | q
      · exact Or.inl q
      · exact Or.inr (Or.inr q)
    have q2 := (h.low z q1).2
    have q3 : z ≠ n := fun q => hne (by rw [hn, ← q]; exact hz)
    simp; omega)
  rw [sb_self] at this
  exact this.symm
theorem dm_ok {n : Nat} {t : List (List Int)} (h : Std n t) {i j : Nat} (hj : j < (row t i).length) (hn : Go.Proofs.Ytjciandmpfcfjaa.box t i j = n) : Std n (dm t i j) ∧ Prom n (dm t i j) t := by
  have k : Hol (fun _ => 0) t i j := ⟨T_sk h.tab h.pos _, Nat.zero_le _, hj⟩
  obtain ⟨g1, g2, g3, g4⟩ := mb_ok (i + j) t i j rfl k (h.dis i j)
  rw [h.last hj hn] at g4
  unfold dm
  obtain ⟨s, hs⟩ : ∃ s, s = mb (i + j) t i j := ⟨_, rfl⟩
  rw [← hs] at g1 g2 g3 g4 ⊢
  have hlt := g1.lt
  have hlet : ∀ z ∈ sword (fun _ => 0) (er s 0 0), 1 ≤ z ∧ z ≤ (n : Int) - 1 := fun z hz => by
    have := g4.perm.mem_iff.2 hz
    have q := List.mem_filter.1 this
    have q1 := (h.low z q.1).1
    have q2 := q.2
    simp at q2; exact ⟨q1, q2⟩
  obtain ⟨u, v, e1, e2⟩ := wrd_sb hlt 0
  have hnd : (u ++ v).Nodup := by rw [← e2]; exact g4.perm.nodup_iff.1 (nodup_filter _ h.perm.once)
  have hn2 : (wrd (sb s 0 0 0)).Nodup := by
    rw [e1]
    refine (List.perm_middle.nodup_iff).2 (List.nodup_cons.2 ⟨fun q => ?_, hnd⟩)
    have := (hlet _ (by rw [e2]; exact q)).1
    omega
  have hlen : (wrd (sb s 0 0 0)).length = n := by
    rw [(wrd_perm _).length_eq, flat_sum, sb_length, g2, ← h.len, (wrd_perm t).length_eq, flat_sum]
    exact S_congr (fun a _ => by rw [sb_len, g3])
  have hpos : 0 < n := by have := (h.box hj).1; rw [hn] at this; omega
  have hw2 : (wrd (sb s 0 0 0)).filter (fun z => decide (0 < z)) = sword (fun _ => 0) (er s 0 0) :=
    sword_er hlt (by simp) (fun z hz => by have := (hlet z hz).1; simp; omega)
  refine ⟨⟨rais_T (fill_first g1), ?_, by rw [wrd_rais, List.length_map]; exact hlen⟩, fun a => by rw [rais_len, sb_len, g3], ?_⟩
  · rw [wrd_rais]
    refine perm_of (n := n) (nodup_map_add _ hn2) (fun z hz => ?_) (by rw [List.length_map]; exact hlen) (by have := h.perm.len; rw [h.len] at this; exact this)
    obtain ⟨y, hy, rfl⟩ := List.mem_map.1 hz
    rw [e1, List.mem_append, List.mem_cons] at hy
    have : y = 0 ∨ y ∈ u ++ v := by
      rw [List.mem_append]
      rcases hy with q | q | q
      · exact Or.inr (Or.inl q)
      · exact Or.inl q
      · exact Or.inr (Or.inr q)
    rcases this with q | q
    · rw [q]; omega
    · have := hlet y (by rw [e2]; exact q); omega
  · refine g4.trans (Eqv.of ?_)
    rw [wrd_rais, ← hw2, List.filter_map, List.map_map]
    have e : (wrd (sb s 0 0 0)).filter ((fun z => decide (1 < z)) ∘ (· + 1)) = (wrd (sb s 0 0 0)).filter (fun z => decide (0 < z)) := List.filter_congr (fun z _ => by
      simp only [Function.comp_apply]; exact decide_eq_decide.2 (by omega))
    rw [e]
    conv => lhs; rw [← List.map_id ((wrd (sb s 0 0 0)).filter (fun z => decide (0 < z)))]
    exact List.map_congr_left (fun z _ => by simp; omega)

end Go.Proofs.Ytjciandmpfcfjaa
