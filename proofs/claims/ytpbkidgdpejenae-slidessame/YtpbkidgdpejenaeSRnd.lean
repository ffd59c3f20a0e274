/-
  Promoted, demoted: plain facts.
  Demoted: a slide back: plain facts.
  SCHUETZENBERGER'S rounds: a box of rows of one length, promoted as often as it has boxes, is as it was: plain facts.
-/
import Derived.Test.YtpbkidgdpejenaeSLat
namespace Go.Proofs.Ytpbkidgdpejenae

/-- u is what is made of t by taking 1 away. -/
structure Prom (n : Nat) (t u : List (List Int)) : Prop where
  lens : sameShape u t
  word : Eqv ((wrd u).filter (fun z => decide (z ≤ (n : Int) - 1))) (((wrd t).filter (fun z => decide (1 < z))).map (· + (-1)))

theorem len_of_shape {t u : List (List Int)} (ht : Shp t) (hu : Shp u) (h : sameShape t u) : t.length = u.length := by
  refine Nat.le_antisymm (Nat.le_of_not_lt (fun c => ?_)) (Nat.le_of_not_lt (fun c => ?_))
  · have := ht.1 _ c
    rw [h, row_out (Nat.le_refl _)] at this; simp at this
  · have := hu.1 _ c
    rw [← h, row_out (Nat.le_refl _)] at this; simp at this
theorem Std.box {n : Nat} {t : List (List Int)} (h : Std n t) {a b : Nat} (hb : b < (row t a).length) : 1 ≤ Go.Proofs.Ytpbkidgdpejenae.box t a b ∧ Go.Proofs.Ytpbkidgdpejenae.box t a b ≤ n :=
  h.low _ (wrd_mem.2 (box_mem (row_lt hb) hb))
/-- A standard tableau is told by its shape and by what is below the last number. -/
theorem std_uniq {n : Nat} {t u : List (List Int)} (ht : Std n t) (hu : Std n u) (hs : sameShape t u) (h : Eqv ((wrd t).filter (fun z => decide (z ≤ (n : Int) - 1))) ((wrd u).filter (fun z => decide (z ≤ (n : Int) - 1)))) : t = u := by
  have e : rs ((n : Int) - 1) t = rs ((n : Int) - 1) u := by
    refine T_uniq (T_rs _ _ ht.tab) (T_rs _ _ hu.tab) ?_
    rw [wrd_rs _ _ ht.tab, wrd_rs _ _ hu.tab]; exact h
  refine ext_row (len_of_shape ht.tab.shp hu.tab.shp hs) (fun a _ => ext_getD (hs a) (fun b hb => ?_))
  show Go.Proofs.Ytpbkidgdpejenae.box t a b = Go.Proofs.Ytpbkidgdpejenae.box u a b
  have hb2 : b < (row u a).length := by rw [← hs a]; exact hb
  obtain ⟨p1, p2⟩ := rs_box t ((n : Int) - 1) ht.tab a b
  obtain ⟨q1, q2⟩ := rs_box u ((n : Int) - 1) hu.tab a b
  rw [e] at p1 p2
  by_cases c : b < (row (rs ((n : Int) - 1) u) a).length
  · rw [← p2 c, q2 c]
  · have h1 : ¬ Go.Proofs.Ytpbkidgdpejenae.box t a b ≤ (n : Int) - 1 := fun k => c (p1.2 ⟨hb, k⟩)
    have h2 : ¬ Go.Proofs.Ytpbkidgdpejenae.box u a b ≤ (n : Int) - 1 := fun k => c (q1.2 ⟨hb2, k⟩)
    have := (ht.box hb).2
    have := (hu.box hb2).2
    omega
theorem Prom.uniq {n : Nat} {t u v : List (List Int)} (h : Prom n t u) (k : Prom n t v) (hu : Std n u) (hv : Std n v) : u = v :=
  std_uniq hu hv (fun a => by rw [h.lens, k.lens]) (h.word.trans k.word.symm)
theorem map_filter_shift (w : List Int) (d k : Int) : (w.map (· + d)).filter (fun z => decide (z ≤ k)) = (w.filter (fun z => decide (z ≤ k - d))).map (· + d) := by
  rw [List.filter_map]
  congr 1
  refine List.filter_congr (fun z _ => ?_)
  simp only [Function.comp_apply]
  exact decide_eq_decide.2 (by omega)
/-- Turned over it goes the other way. -/
theorem Prom.turn {n : Nat} {t u : List (List Int)} (h : Prom n t u) (ht : Std n t) (hu : Std n u) : Prom n (evT n u) (evT n t) := by
  refine ⟨fun a => by rw [evT_shape ht, evT_shape hu, h.lens], ?_⟩
  have k1 := (evT_word n t).filter (fun z => decide (z ≤ (n : Int) - 1)) (fun x y z h1 h2 h3 h4 => by simp at h3 h4 ⊢; omega)
  have k2 := ((evT_word n u).filter (fun z => decide (1 < z)) (fun x y z h1 h2 h3 h4 => by simp at h3 h4 ⊢; omega)).shift (-1)
  refine k1.trans (Eqv.trans ?_ k2.symm)
  rw [star_filter]
  have e1 : (wrd t).filter (fun z => decide ((n : Int) + 1 - ((n : Int) - 1) ≤ z)) = (wrd t).filter (fun z => decide (1 < z)) := List.filter_congr (fun z _ => decide_eq_decide.2 (by omega))
  rw [e1]
  have e2 : ((star (n + 1) (wrd u)).filter (fun z => decide (1 < z))).map (· + (-1)) = star n ((wrd u).filter (fun z => decide (z ≤ (n : Int) - 1))) := by
    unfold star
    rw [List.filter_reverse, List.filter_map, List.map_reverse, List.map_map]
    congr 1
    have : (wrd u).filter ((fun z => decide (1 < z)) ∘ fun z => (n : Int) + 1 - z) = (wrd u).filter (fun z => decide (z ≤ (n : Int) - 1)) := List.filter_congr (fun z _ => by
      simp only [Function.comp_apply]; exact decide_eq_decide.2 (by omega))
    rw [this]
    exact List.map_congr_left (fun z _ => by simp; omega)
  rw [e2]
  have e3 := (h.word.star n).symm
  refine Eqv.trans (Eqv.of ?_) e3
  unfold star
  rw [List.map_map]
  congr 1
  exact List.map_congr_left (fun z _ => by simp; omega)
theorem Prom.inj {n : Nat} {t t' u : List (List Int)} (h : Prom n t u) (k : Prom n t' u) (ht : Std n t) (ht' : Std n t') (hu : Std n u) : t = t' := by
  have := (h.turn ht hu).uniq (k.turn ht' hu) (evT_std ht) (evT_std ht')
  rw [← evT_evT ht, ← evT_evT ht', this]
/-- Demoted by turning over, promoting, turning back. -/
theorem Prom.back {n : Nat} {x t y : List (List Int)} (h : Prom n x t) (hx : Std n x) (ht : Std n t) (hy : Prom n (evT n t) y) (hys : Std n y) : evT n y = x := by
  have := hy.uniq (h.turn hx ht) hys (evT_std hx)
  rw [this, evT_evT hx]

/-- Each letter more by so much. -/
def rais (d : Int) (t : List (List Int)) : List (List Int) := t.map (List.map (· + d))
theorem rais_row (d : Int) (t : List (List Int)) (a : Nat) : row (rais d t) a = (row t a).map (· + d) := by
  unfold row rais
  simp only [List.getD, List.getElem?_map]
  cases t[a]? <;> simp
theorem rais_len (d : Int) (t : List (List Int)) (a : Nat) : (row (rais d t) a).length = (row t a).length := by rw [rais_row]; simp
theorem rais_length (d : Int) (t : List (List Int)) : (rais d t).length = t.length := by simp [rais]
theorem rais_box {d : Int} {t : List (List Int)} {a b : Nat} (hb : b < (row t a).length) : Go.Proofs.Ytpbkidgdpejenae.box (rais d t) a b = Go.Proofs.Ytpbkidgdpejenae.box t a b + d := by
  unfold Go.Proofs.Ytpbkidgdpejenae.box
  rw [rais_row]
  simp [List.getD, List.getElem?_eq_getElem hb]
theorem rais_T {d : Int} {t : List (List Int)} (h : T t) : T (rais d t) := by
  have hr := T_row.1 h
  refine T_row.2 (fun i hi => ?_)
  rw [rais_length] at hi
  obtain ⟨h1, h2, h3, h4⟩ := hr i hi
  refine ⟨by rw [rais_len]; exact h1, fun j hj => ?_, by rw [rais_len, rais_len]; exact h3, fun j hj => ?_⟩
  · rw [rais_len] at hj
    have q1 := rais_box (d := d) (t := t) (a := i) (b := j) (by omega)
    have q2 := rais_box (d := d) (t := t) (a := i) (b := j + 1) hj
    have := h2 j hj
    unfold Go.Proofs.Ytpbkidgdpejenae.box at q1 q2; omega
  · rw [rais_len] at hj
    have q1 := rais_box (d := d) (t := t) (a := i) (b := j) (by omega)
    have q2 := rais_box (d := d) (t := t) (a := i + 1) (b := j) hj
    have := h4 j hj
    unfold Go.Proofs.Ytpbkidgdpejenae.box at q1 q2; omega
theorem wrd_rais (d : Int) (t : List (List Int)) : wrd (rais d t) = (wrd t).map (· + d) := wrd_map _ t

/-- The word with one letter put in a box. -/
theorem wrd_sb {s : List (List Int)} {i j : Nat} (hj : j < (row s i).length) (x : Int) : ∃ u v, wrd (sb s i j x) = u ++ x :: v ∧ sword (fun _ => 0) (er s i j) = u ++ v := by
  have hi := row_lt hj
  refine ⟨sword (fun _ => 0) (s.drop (i + 1)) ++ (row s i).take j, (row s i).drop (j + 1) ++ sword (fun _ => 0) (s.take i), ?_, ?_⟩
  · rw [← sword_zero]
    unfold sb
    rw [sword1 _ hi, List.drop_zero, List.set_eq_take_append_cons_drop, if_pos hj]
    simp
  · unfold er
    rw [sword1 _ hi, List.drop_zero, erase_at]
    simp
theorem sword_er {s : List (List Int)} {i j : Nat} (hj : j < (row s i).length) {x : Int} {p : Int → Bool} (hx : p x = false) (hp : ∀ z ∈ sword (fun _ => 0) (er s i j), p z = true) : (wrd (sb s i j x)).filter p = sword (fun _ => 0) (er s i j) := by
  obtain ⟨u, v, e1, e2⟩ := wrd_sb hj x
  rw [e1, e2, List.filter_append, List.filter_cons, if_neg (by rw [hx]; simp)]
  rw [e2] at hp
  rw [List.filter_eq_self.2 (fun z hz => hp z (List.mem_append.2 (Or.inl hz))), List.filter_eq_self.2 (fun z hz => hp z (List.mem_append.2 (Or.inr hz)))]

/-- A great letter in the corner where the way ended. -/
theorem fill_corner {s : List (List Int)} {i j : Nat} (k : Hol (fun _ => 0) s i j) (c1 : (row s i).length = j + 1) (c2 : (row s (i + 1)).length ≤ j) {x : Int} (hx : ∀ a b, b < (row s a).length → ¬ one i j a b → box s a b < x) (h1 : 1 ≤ x) : T (sb s i j x) := by
  have hbx := sb_box (s := s) (i := i) (j := j) k.lt x
  refine sk_T ⟨sb_shp k.sk.shp _ _ _, fun _ => Nat.le_refl _, fun _ => Nat.zero_le _, fun a b hb => by omega, fun a b _ h3 _ => ?_, fun a b c _ h3 h4 _ _ => ?_, fun a c b h2 _ h4 _ _ => ?_⟩
  · rw [sb_len] at h3
    rw [hbx]
    by_cases e : a = i ∧ b = j
    · rw [if_pos e]; exact h1
    · rw [if_neg e]; exact k.sk.pos a b (by omega) h3 e
  · rw [sb_len] at h4
    rw [hbx, hbx]
    by_cases e : a = i ∧ b = j
    · rw [e.1] at h4; omega
    · rw [if_neg e]
      by_cases e2 : a = i ∧ c = j
      · rw [if_pos e2]; have := hx a b (by omega) e; omega
      · rw [if_neg e2]; exact k.sk.along a b c (by omega) h3 h4 e e2
  · rw [sb_len] at h4
    rw [hbx, hbx]
    by_cases e : a = i ∧ b = j
    · have := k.sk.shp.shorter' (a := i + 1) (b := c) (by omega); omega
    · rw [if_neg e]
      by_cases e2 : c = i ∧ b = j
      · rw [if_pos e2]; exact hx a b (by have := k.sk.shp.shorter' (a := a) (b := c) (by omega); omega) e
      · rw [if_neg e2]; exact k.sk.down a c b h2 (by omega) h4 e e2
theorem mem_sword_er {s : List (List Int)} {i j a b : Nat} (hj : j < (row s i).length) (hb : b < (row s a).length) (hne : ¬ one i j a b) : box s a b ∈ sword (fun _ => 0) (er s i j) := by
  have hi := row_lt hj
  have ha := row_lt hb
  unfold er
  rw [sword1 _ hi, List.drop_zero, erase_at, sword_zero, sword_zero]
  rcases Nat.lt_trichotomy a i with c | c | c
  · refine List.mem_append.2 (Or.inr (wrd_mem.2 ?_))
    refine List.mem_flatten.2 ⟨row s a, ?_, getD_mem hb⟩
    refine List.mem_iff_getElem.2 ⟨a, by rw [List.length_take]; omega, ?_⟩
    rw [List.getElem_take]; simp [row, List.getD, List.getElem?_eq_getElem ha]
  · subst c
    have hbj : b ≠ j := fun q => hne ⟨rfl, q⟩
    refine List.mem_append.2 (Or.inl (List.mem_append.2 (Or.inr ?_)))
    unfold box
    rcases Nat.lt_or_ge b j with q | q
    · rw [← take_getD' (row s a) j b q]; exact List.mem_append.2 (Or.inl (getD_mem (by rw [List.length_take]; omega)))
    · rw [show b = j + 1 + (b - (j + 1)) by omega, ← drop_getD' (row s a) (j + 1)]; exact List.mem_append.2 (Or.inr (getD_mem (by rw [List.length_drop]; omega)))
  · refine List.mem_append.2 (Or.inl (List.mem_append.2 (Or.inl (wrd_mem.2 ?_))))
    refine List.mem_flatten.2 ⟨row s a, ?_, getD_mem hb⟩
    refine List.mem_iff_getElem.2 ⟨a - (i + 1), by rw [List.length_drop]; omega, ?_⟩
    rw [List.getElem_drop]
    simp [row, List.getD, show i + 1 + (a - (i + 1)) = a by omega, List.getElem?_eq_getElem ha]

/-- Promoted. -/
def pr (n : Nat) (t : List (List Int)) : List (List Int) :=
  rais (-1) (sb (mv (left t 0 0) t 0 0).1 (mv (left t 0 0) t 0 0).2.1 (mv (left t 0 0) t 0 0).2.2 ((n : Int) + 1))
theorem Std.pos {n : Nat} {t : List (List Int)} (h : Std n t) : ∀ z ∈ t.flatten, 1 ≤ z := fun z hz => (h.low z (wrd_mem.2 hz)).1
theorem Std.some {n : Nat} {t : List (List Int)} (h : Std n t) (h0 : 0 < n) : 0 < t.length := by
  cases t with
  | nil => have := h.len; simp [wrd] at this; omega
  | cons r t => simp
theorem perm_of {n : Nat} {w : List Int} (hn : w.Nodup) (h : ∀ z ∈ w, 1 ≤ z ∧ z ≤ n) (hl : w.length = n) (h40 : n ≤ 40) : IsPerm w := ⟨by omega, fun z hz => (h z hz).1, fun z hz => by rw [hl]; exact (h z hz).2, hn⟩
theorem nodup_map_add (d : Int) {w : List Int} (h : w.Nodup) : (w.map (· + d)).Nodup := by
  unfold List.Nodup at h ⊢; rw [List.pairwise_map]; exact h.imp (fun p => by omega)
theorem Std.first {n : Nat} {t : List (List Int)} (h : Std n t) (h0 : 0 < n) : sword (fun _ => 0) (er t 0 0) = (wrd t).filter (fun z => decide (1 < z)) := by
  obtain ⟨f1, f2, f3⟩ := first_least h.tab h.perm.once (h.some h0)
  have : Go.Proofs.Ytpbkidgdpejenae.box t 0 0 = 1 := by
    have := f3 1 (h.all (by omega) (by omega))
    have := (h.low _ f2).1
    omega
  rw [f1, this]
theorem pr_ok {n : Nat} {t : List (List Int)} (h : Std n t) (h0 : 0 < n) : Std n (pr n t) ∧ Prom n t (pr n t) := by
  have e := mv_ends _ _ t 0 0 (T_hol h.tab h.pos (h.some h0)) (Nat.le_refl _)
  obtain ⟨c1, c2⟩ := e.corner
  have hw := e.word
  rw [h.first h0] at hw
  unfold pr
  obtain ⟨m, hm⟩ : ∃ m, m = mv (left t 0 0) t 0 0 := ⟨_, rfl⟩
  rw [← hm] at e c1 c2 hw ⊢
  have hlt := e.hol.lt
  have hlet : ∀ z ∈ sword (fun _ => 0) (er m.1 m.2.1 m.2.2), 1 < z ∧ z ≤ n := fun z hz => by
    have := hw.perm.mem_iff.2 hz
    have q := List.mem_filter.1 this
    have q1 := (h.low z q.1).2
    have q2 := q.2
    simp at q2; exact ⟨q2, q1⟩
  have hT := fill_corner e.hol c1 c2 (x := (n : Int) + 1) (fun a b hb hne => by have := (hlet _ (mem_sword_er hlt hb hne)).2; omega) (by omega)
  obtain ⟨u, v, e1, e2⟩ := wrd_sb hlt ((n : Int) + 1)
  have hnd : (u ++ v).Nodup := by rw [← e2]; exact hw.perm.nodup_iff.1 (nodup_filter _ h.perm.once)
  have hn2 : (wrd (sb m.1 m.2.1 m.2.2 ((n : Int) + 1))).Nodup := by
    rw [e1]
    refine (List.perm_middle.nodup_iff).2 (List.nodup_cons.2 ⟨fun q => ?_, hnd⟩)
    have := (hlet _ (by rw [e2]; exact q)).2
    omega
  have hperm : (wrd (sb m.1 m.2.1 m.2.2 ((n : Int) + 1))).length = n := by
    rw [e1]
    have q1 : (u ++ v).length = ((wrd t).filter (fun z => decide (1 < z))).length := by rw [← e2]; exact hw.perm.length_eq.symm
    have q2 := h.first h0
    obtain ⟨u', v', e1', e2'⟩ := wrd_sb (T_hol h.tab h.pos (h.some h0)).lt (Go.Proofs.Ytpbkidgdpejenae.box t 0 0)
    have e3 : sb t 0 0 (Go.Proofs.Ytpbkidgdpejenae.box t 0 0) = t := by
      unfold sb Go.Proofs.Ytpbkidgdpejenae.box
      rw [set_same rfl]
      refine ext_row (by simp) (fun a _ => ?_)
      rw [set_row]
      by_cases q : a = 0 ∧ 0 < t.length
      · rw [if_pos q, q.1]
      · rw [if_neg q]
    rw [e3] at e1'
    have q3 := h.len
    rw [e1'] at q3
    rw [q2] at e2'
    rw [e2'] at q1
    simp at q1 q3 ⊢
    omega
  have hw2 : (wrd (sb m.1 m.2.1 m.2.2 ((n : Int) + 1))).filter (fun z => decide (z ≤ (n : Int))) = sword (fun _ => 0) (er m.1 m.2.1 m.2.2) :=
    sword_er hlt (by simp; omega) (fun z hz => by have := (hlet z hz).2; simpa using this)
  refine ⟨⟨rais_T hT, ?_, by rw [wrd_rais, List.length_map]; exact hperm⟩, fun a => by rw [rais_len, sb_len, e.lens], ?_⟩
  · rw [wrd_rais]
    refine perm_of (n := n) (nodup_map_add _ hn2) (fun z hz => ?_) (by rw [List.length_map]; exact hperm) (by have := h.perm.len; rw [h.len] at this; exact this)
    obtain ⟨y, hy, rfl⟩ := List.mem_map.1 hz
    rw [e1, List.mem_append, List.mem_cons] at hy
    have : y = (n : Int) + 1 ∨ y ∈ u ++ v := by
      rw [List.mem_append]
      rcases hy with q | q | q
      · exact Or.inr (Or.inl q)
      · exact Or.inl q
      · exact Or.inr (Or.inr q)
    rcases this with q | q
    · rw [q]; omega
    · have := hlet y (by rw [e2]; exact q); omega
  · rw [wrd_rais, map_filter_shift, show (n : Int) - 1 - (-1) = (n : Int) by omega, hw2]
    exact hw.symm.shift (-1)

end Go.Proofs.Ytpbkidgdpejenae

namespace Go.Proofs.Ytpbkidgdpejenae

/-- No letter twice, the hole aside. -/
def Dis (i j : Nat) (s : List (List Int)) : Prop := ∀ a b c d, b < (row s a).length → d < (row s c).length → ¬ one i j a b → ¬ one i j c d → box s a b = box s c d → a = c ∧ b = d
theorem Dis.move {i j p q : Nat} {s : List (List Int)} (h : Dis i j s) (hj : j < (row s i).length) (hq : q < (row s p).length) (hne : ¬ (p = i ∧ q = j)) : Dis p q (sb s i j (box s p q)) := by
  have hbx := sb_box hj (box s p q)
  intro a b c d h1 h2 n1 n2 e
  rw [sb_len] at h1 h2
  rw [hbx, hbx] at e
  by_cases e1 : a = i ∧ b = j
  · rw [if_pos e1] at e
    by_cases e2 : c = i ∧ d = j
    · exact ⟨e1.1.trans e2.1.symm, e1.2.trans e2.2.symm⟩
    · rw [if_neg e2] at e
      have := h p q c d hq h2 hne e2 e
      exact absurd ⟨this.1.symm, this.2.symm⟩ n2
  · rw [if_neg e1] at e
    by_cases e2 : c = i ∧ d = j
    · rw [if_pos e2] at e
      exact absurd (h a b p q h1 hq e1 hne e) n1
    · rw [if_neg e2] at e
      exact h a b c d h1 h2 e1 e2 e

theorem er_sb (s : List (List Int)) (i j : Nat) (x : Int) : er (sb s i j x) i j = er s i j := by
  unfold er
  rw [sb_row, if_pos rfl]
  unfold sb
  rw [List.set_set]
  congr 1
  rw [erase_at, erase_at]
  congr 1
  · rw [List.take_set_of_le (Nat.le_refl _)]
  · rw [List.drop_set_of_lt (by omega)]
theorem sb_self {s : List (List Int)} {i j : Nat} : sb s i j (box s i j) = s := by
  unfold sb box
  rw [set_same rfl]
  refine ext_row (by simp) (fun a _ => ?_)
  rw [set_row]
  by_cases q : a = i ∧ i < s.length
  · rw [if_pos q, q.1]
  · rw [if_neg q]

/-- The hole goes up. -/
theorem Hol.up {s : List (List Int)} {i j : Nat} (k : Hol (fun _ => 0) s (i + 1) j) (hc : 0 < j → box s (i + 1) (j - 1) < box s i j) :
    Hol (fun _ => 0) (sb s (i + 1) j (box s i j)) i j ∧ Eqv (sword (fun _ => 0) (er s (i + 1) j)) (sword (fun _ => 0) (er (sb s (i + 1) j (box s i j)) i j)) := by
  have hlt := k.lt
  have hsh := k.sk.shp.shorter' (a := i) (b := i + 1) (by omega)
  have hbx := sb_box hlt (box s i j)
  have no : ∀ a b, a ≠ i + 1 → ¬ one (i + 1) j a b := fun a b h q => h q.1
  have sk : Sk (one i j) (fun _ => 0) (sb s (i + 1) j (box s i j)) := by
    refine ⟨sb_shp k.sk.shp _ _ _, fun _ => Nat.le_refl _, fun _ => Nat.zero_le _, fun a b hb => by omega, fun a b h1 h2 hx => ?_, fun a b c h1 h2 h3 hx hy => ?_, fun a c b h1 h2 h3 hx hy => ?_⟩
    · rw [sb_len] at h2
      rw [hbx]
      by_cases e : a = i + 1 ∧ b = j
      · rw [if_pos e]; exact k.sk.pos i j (by omega) (by omega) (no _ _ (by omega))
      · rw [if_neg e]; exact k.sk.pos a b h1 h2 e
    · rw [sb_len] at h3
      rw [hbx, hbx]
      by_cases e : a = i + 1 ∧ b = j
      · rw [if_pos e, if_neg (fun q => by omega)]
        have h3' : c < (Go.Proofs.Ytpbkidgdpejenae.row s (i + 1)).length := by rw [← e.1]; exact h3
        have q1 := k.sk.along i j c (by omega) (by omega) (by omega) (no _ _ (by omega)) (no _ _ (by omega))
        have q2 := k.sk.down i (i + 1) c (by omega) (by omega) h3' (no _ _ (by omega)) (fun q => by have := q.2; omega)
        rw [e.1]; omega
      · rw [if_neg e]
        by_cases e2 : a = i + 1 ∧ c = j
        · rw [if_pos e2, e2.1]
          have hc' := hc (by omega)
          by_cases q : b = j - 1
          · rw [q]; omega
          · have := k.sk.along (i + 1) b (j - 1) (by omega) (by omega) (by omega) (fun z => by have := z.2; omega) (fun z => by have := z.2; omega)
            omega
        · rw [if_neg e2]; exact k.sk.along a b c h1 h2 h3 e e2
    · rw [sb_len] at h3
      rw [hbx, hbx]
      by_cases e : a = i + 1 ∧ b = j
      · rw [if_pos e, if_neg (fun q => by omega), e.2]
        exact k.sk.down i c j (by omega) (by omega) (by rw [← e.2]; exact h3) (no _ _ (by omega)) (no _ _ (by omega))
      · rw [if_neg e]
        by_cases e2 : c = i + 1 ∧ b = j
        · rw [if_pos e2]
          have : a ≠ i := fun q => hx ⟨q, e2.2⟩
          rw [e2.2]
          exact k.sk.down a i j (by omega) (by omega) (by omega) (no _ _ (by omega)) (no _ _ (by omega))
        · rw [if_neg e2]; exact k.sk.down a c b h1 h2 h3 e e2
  refine ⟨⟨sk, Nat.zero_le _, by rw [sb_len]; omega⟩, ?_⟩
  have hb1 : box (sb s (i + 1) j (box s i j)) (i + 1) j = box s i j := by rw [hbx, if_pos ⟨rfl, rfl⟩]
  have hb2 : box (sb s (i + 1) j (box s i j)) i j = box s i j := by rw [hbx, if_neg (fun q => by omega)]
  have := er_below sk (Nat.zero_le _) (by rw [sb_len]; exact hlt) (fun q => by
    rw [sb_len] at q
    rw [hb1, hbx, if_neg (fun z => by omega)]
    exact k.sk.along i j (j + 1) (by omega) (by omega) q (no _ _ (by omega)) (no _ _ (by omega)))
  rw [hb1] at this
  have e : sb (sb s (i + 1) j (box s i j)) i j (box s i j) = sb s (i + 1) j (box s i j) := by
    conv => lhs; arg 4; rw [← hb2]
    exact sb_self
  rw [e, er_sb] at this
  exact this.symm

/-- The hole goes left. -/
theorem Hol.lefts {s : List (List Int)} {i j : Nat} (k : Hol (fun _ => 0) s i (j + 1)) (hc : 0 < i → box s (i - 1) (j + 1) < box s i j) :
    Hol (fun _ => 0) (sb s i (j + 1) (box s i j)) i j ∧ Eqv (sword (fun _ => 0) (er s i (j + 1))) (sword (fun _ => 0) (er (sb s i (j + 1) (box s i j)) i j)) := by
  have hlt := k.lt
  have hbx := sb_box hlt (box s i j)
  have no : ∀ a b, b ≠ j + 1 → ¬ one i (j + 1) a b := fun a b h q => h q.2
  have no2 : ∀ a b, a ≠ i → ¬ one i (j + 1) a b := fun a b h q => h q.1
  have sk : Sk (one i j) (fun _ => 0) (sb s i (j + 1) (box s i j)) := by
    refine ⟨sb_shp k.sk.shp _ _ _, fun _ => Nat.le_refl _, fun _ => Nat.zero_le _, fun a b hb => by omega, fun a b h1 h2 hx => ?_, fun a b c h1 h2 h3 hx hy => ?_, fun a c b h1 h2 h3 hx hy => ?_⟩
    · rw [sb_len] at h2
      rw [hbx]
      by_cases e : a = i ∧ b = j + 1
      · rw [if_pos e]; exact k.sk.pos i j (by omega) (by omega) (no _ _ (by omega))
      · rw [if_neg e]; exact k.sk.pos a b h1 h2 e
    · rw [sb_len] at h3
      rw [hbx, hbx]
      by_cases e : a = i ∧ b = j + 1
      · rw [if_pos e, if_neg (fun q => by omega), e.1]
        exact k.sk.along i j c (by omega) (by omega) (by rw [← e.1]; exact h3) (no _ _ (by omega)) (no _ _ (by omega))
      · rw [if_neg e]
        by_cases e2 : a = i ∧ c = j + 1
        · rw [if_pos e2, e2.1]
          have : b ≠ j := fun q => hx ⟨e2.1, q⟩
          exact k.sk.along i b j (by omega) (by omega) (by omega) (no _ _ (by omega)) (no _ _ (by omega))
        · rw [if_neg e2]; exact k.sk.along a b c h1 h2 h3 e e2
    · rw [sb_len] at h3
      rw [hbx, hbx]
      by_cases e : a = i ∧ b = j + 1
      · rw [if_pos e, if_neg (fun q => by omega), e.2]
        have h3' : j + 1 < (Go.Proofs.Ytpbkidgdpejenae.row s c).length := by rw [← e.2]; exact h3
        have q1 := k.sk.down i c j (by omega) (by omega) (by omega) (no _ _ (by omega)) (no _ _ (by omega))
        have q2 := k.sk.along c j (j + 1) (by omega) (by omega) h3' (no _ _ (by omega)) (no2 _ _ (by omega))
        omega
      · rw [if_neg e]
        by_cases e2 : c = i ∧ b = j + 1
        · rw [if_pos e2, e2.2]
          have hc' := hc (by omega)
          by_cases q : a = i - 1
          · rw [q]; exact hc'
          · have := k.sk.down a (i - 1) (j + 1) (by omega) (by omega) (by have := k.sk.shp.shorter' (a := i - 1) (b := i) (by omega); omega) (no2 _ _ (by omega)) (no2 _ _ (by omega))
            omega
        · rw [if_neg e2]; exact k.sk.down a c b h1 h2 h3 e e2
  refine ⟨⟨sk, Nat.zero_le _, by rw [sb_len]; omega⟩, ?_⟩
  have hb1 : box (sb s i (j + 1) (box s i j)) i (j + 1) = box s i j := by rw [hbx, if_pos ⟨rfl, rfl⟩]
  have hb2 : box (sb s i (j + 1) (box s i j)) i j = box s i j := by rw [hbx, if_neg (fun q => by omega)]
  have := er_right (s := sb s i (j + 1) (box s i j)) (i := i) (j := j) (by rw [sb_len]; exact hlt)
  rw [hb1] at this
  have e : sb (sb s i (j + 1) (box s i j)) i j (box s i j) = sb s i (j + 1) (box s i j) := by
    conv => lhs; arg 4; rw [← hb2]
    exact sb_self
  rw [e, er_sb] at this
  rw [this]; exact Eqv.refl _

/-- The way back. -/
def mb : Nat → List (List Int) → Nat → Nat → List (List Int)
  | 0, s, _, _ => s
  | n + 1, s, i, j => if j = 0 ∨ (0 < i ∧ box s i (j - 1) < box s (i - 1) j) then mb n (sb s i j (box s (i - 1) j)) (i - 1) j else mb n (sb s i j (box s i (j - 1))) i (j - 1)
theorem mb_step (n : Nat) (s : List (List Int)) (i j : Nat) : mb (n + 1) s i j = if j = 0 ∨ (0 < i ∧ box s i (j - 1) < box s (i - 1) j) then mb n (sb s i j (box s (i - 1) j)) (i - 1) j else mb n (sb s i j (box s i (j - 1))) i (j - 1) := rfl
theorem mb_down {s : List (List Int)} {i j : Nat} (k : Hol (fun _ => 0) s i j) (hd : Dis i j s) (h0 : 0 < i + j) (c : j = 0 ∨ (0 < i ∧ box s i (j - 1) < box s (i - 1) j)) :
    0 < i ∧ Hol (fun _ => 0) (sb s i j (box s (i - 1) j)) (i - 1) j ∧ Dis (i - 1) j (sb s i j (box s (i - 1) j)) ∧ Eqv (sword (fun _ => 0) (er s i j)) (sword (fun _ => 0) (er (sb s i j (box s (i - 1) j)) (i - 1) j)) := by
  have hi : 0 < i := by rcases c with c | c <;> omega
  obtain ⟨i, rfl⟩ : ∃ m, i = m + 1 := ⟨i - 1, by omega⟩
  obtain ⟨k1, k2⟩ := Hol.up k (fun q => by rcases c with c | c
                                           · omega
                                           · simpa using c.2)
  refine ⟨hi, by simpa using k1, ?_, by simpa using k2⟩
  have := k.sk.shp.shorter' (a := i) (b := i + 1) (by omega)
  have := k.lt
  exact hd.move k.lt (by simpa using (by omega : j < (row s i).length)) (fun q => by have := q.1; omega)
theorem mb_left {s : List (List Int)} {i j : Nat} (k : Hol (fun _ => 0) s i j) (hd : Dis i j s) (c : ¬ (j = 0 ∨ (0 < i ∧ box s i (j - 1) < box s (i - 1) j))) :
    0 < j ∧ Hol (fun _ => 0) (sb s i j (box s i (j - 1))) i (j - 1) ∧ Dis i (j - 1) (sb s i j (box s i (j - 1))) ∧ Eqv (sword (fun _ => 0) (er s i j)) (sword (fun _ => 0) (er (sb s i j (box s i (j - 1))) i (j - 1))) := by
  have hj : 0 < j := by omega
  obtain ⟨j, rfl⟩ : ∃ m, j = m + 1 := ⟨j - 1, by omega⟩
  have hlt := k.lt
  simp only [Nat.add_sub_cancel] at c ⊢
  obtain ⟨k1, k2⟩ := Hol.lefts k (fun q => by
    have h1 : ¬ box s i j < box s (i - 1) (j + 1) := fun z => c (Or.inr ⟨q, z⟩)
    have hsh := k.sk.shp.shorter' (a := i - 1) (b := i) (by omega)
    have h2 : box s i j ≠ box s (i - 1) (j + 1) := fun z => by
      have := hd i j (i - 1) (j + 1) (by omega) (by omega) (fun y => by have := y.2; omega) (fun y => by have := y.1; omega) z
      omega
    omega)
  exact ⟨hj, k1, hd.move hlt (by omega) (fun q => by have := q.2; omega), k2⟩
theorem mb_ok : ∀ (n : Nat) (s : List (List Int)) (i j : Nat), i + j = n → Hol (fun _ => 0) s i j → Dis i j s →
    Hol (fun _ => 0) (mb n s i j) 0 0 ∧ (mb n s i j).length = s.length ∧ (∀ a, (row (mb n s i j) a).length = (row s a).length) ∧ Eqv (sword (fun _ => 0) (er s i j)) (sword (fun _ => 0) (er (mb n s i j) 0 0)) := by
  intro n
  induction n with
  | zero =>
    intro s i j hn k _
    obtain ⟨rfl, rfl⟩ : i = 0 ∧ j = 0 := by omega
    exact ⟨k, rfl, fun _ => rfl, Eqv.refl _⟩
  | succ n ih =>
    intro s i j hn k hd
    rw [mb_step]
    by_cases c : j = 0 ∨ (0 < i ∧ box s i (j - 1) < box s (i - 1) j)
    · rw [if_pos c]
      obtain ⟨k0, k1, k2, k3⟩ := mb_down k hd (by omega) c
      obtain ⟨g1, g2, g3, g4⟩ := ih _ _ _ (by omega) k1 k2
      exact ⟨g1, by rw [g2, sb_length], fun a => by rw [g3, sb_len], k3.trans g4⟩
    · rw [if_neg c]
      obtain ⟨k0, k1, k2, k3⟩ := mb_left k hd c
      obtain ⟨g1, g2, g3, g4⟩ := ih _ _ _ (by omega) k1 k2
      exact ⟨g1, by rw [g2, sb_length], fun a => by rw [g3, sb_len], k3.trans g4⟩

/-- Demoted: n stands in row i, column j. -/
def dm (t : List (List Int)) (i j : Nat) : List (List Int) := rais 1 (sb (mb (i + j) t i j) 0 0 0)
theorem fill_first {s : List (List Int)} (k : Hol (fun _ => 0) s 0 0) : T (sb s 0 0 0) := by
  have hbx := sb_box (s := s) (i := 0) (j := 0) k.lt 0
  refine T_row.2 (fun i hi => ?_)
  rw [sb_length] at hi
  refine ⟨by rw [sb_len]; exact k.sk.shp.1 i hi, fun j hj => ?_, by rw [sb_len, sb_len]; exact k.sk.shp.shorter' (by omega), fun j hj => ?_⟩
  · rw [sb_len] at hj
    show box _ i j ≤ box _ i (j + 1)
    rw [hbx, hbx, if_neg (c := i = 0 ∧ j + 1 = 0) (fun q => by omega)]
    by_cases e : i = 0 ∧ j = 0
    · rw [if_pos e]; have := k.sk.pos i (j + 1) (by omega) hj (fun q => by have := q.2; omega); omega
    · rw [if_neg e]; exact k.sk.along i j (j + 1) (by omega) (by omega) hj e (fun q => by have := q.2; omega)
  · rw [sb_len] at hj
    show box _ i j < box _ (i + 1) j
    rw [hbx, hbx, if_neg (c := i + 1 = 0 ∧ j = 0) (fun q => by omega)]
    by_cases e : i = 0 ∧ j = 0
    · rw [if_pos e]; have := k.sk.pos (i + 1) j (by omega) hj (fun q => by have := q.1; omega); omega
    · rw [if_neg e]; exact k.sk.down i (i + 1) j (by omega) (by omega) hj e (fun q => by have := q.1; omega)
theorem Std.dis {n : Nat} {t : List (List Int)} (h : Std n t) (i j : Nat) : Dis i j t := by
  intro a b c d h1 h2 _ _ e
  refine Classical.byContradiction (fun q => ?_)
  have m := mem_sword_er h1 h2 (fun z => q ⟨z.1.symm, z.2.symm⟩)
  obtain ⟨u, v, e1, e2⟩ := wrd_sb h1 (Go.Proofs.Ytpbkidgdpejenae.box t a b)
  rw [sb_self] at e1
  have hn := h.perm.once
  rw [e1] at hn
  have := (List.nodup_cons.1 (List.perm_middle.nodup_iff.1 hn)).1
  rw [e2, ← e] at m
  exact this m
theorem Std.last {n : Nat} {t : List (List Int)} (h : Std n t) {i j : Nat} (hj : j < (row t i).length) (hn : Go.Proofs.Ytpbkidgdpejenae.box t i j = n) : sword (fun _ => 0) (er t i j) = (wrd t).filter (fun z => decide (z ≤ (n : Int) - 1)) := by
  obtain ⟨u, v, e1, e2⟩ := wrd_sb hj (Go.Proofs.Ytpbkidgdpejenae.box t i j)
  have e3 := e1
  rw [sb_self] at e3
  have hnd := h.perm.once
  rw [e3] at hnd
  have hne := (List.nodup_cons.1 (List.perm_middle.nodup_iff.1 hnd)).1
  have := sword_er hj (x := Go.Proofs.Ytpbkidgdpejenae.box t i j) (p := fun z => decide (z ≤ (n : Int) - 1)) (by rw [hn]; simp; omega) (fun z hz => by
    rw [e2] at hz
    have q1 : z ∈ wrd t := by
      rw [e3, List.mem_append, List.mem_cons]
      rcases List.mem_append.1 hz with q | q
      · exact Or.inl q
      · exact Or.inr (Or.inr q)
    have q2 := (h.low z q1).2
    have q3 : z ≠ n := fun q => hne (by rw [hn, ← q]; exact hz)
    simp; omega)
  rw [sb_self] at this
  exact this.symm
theorem dm_ok {n : Nat} {t : List (List Int)} (h : Std n t) {i j : Nat} (hj : j < (row t i).length) (hn : Go.Proofs.Ytpbkidgdpejenae.box t i j = n) : Std n (dm t i j) ∧ Prom n (dm t i j) t := by
  have k : Hol (fun _ => 0) t i j := ⟨T_sk h.tab h.pos _, Nat.zero_le _, hj⟩
  obtain ⟨g1, g2, g3, g4⟩ := mb_ok (i + j) t i j rfl k (h.dis i j)
  rw [h.last hj hn] at g4
  unfold dm
  obtain ⟨s, hs⟩ : ∃ s, s = mb (i + j) t i j := ⟨_, rfl⟩
  rw [← hs] at g1 g2 g3 g4 ⊢
  have hlt := g1.lt
  have hlet : ∀ z ∈ sword (fun _ => 0) (er s 0 0), 1 ≤ z ∧ z ≤ (n : Int) - 1 := fun z hz => by
    have := g4.perm.mem_iff.2 hz
    have q := List.mem_filter.1 this
    have q1 := (h.low z q.1).1
    have q2 := q.2
    simp at q2; exact ⟨q1, q2⟩
  obtain ⟨u, v, e1, e2⟩ := wrd_sb hlt 0
  have hnd : (u ++ v).Nodup := by rw [← e2]; exact g4.perm.nodup_iff.1 (nodup_filter _ h.perm.once)
  have hn2 : (wrd (sb s 0 0 0)).Nodup := by
    rw [e1]
    refine (List.perm_middle.nodup_iff).2 (List.nodup_cons.2 ⟨fun q => ?_, hnd⟩)
    have := (hlet _ (by rw [e2]; exact q)).1
    omega
  have hlen : (wrd (sb s 0 0 0)).length = n := by
    rw [(wrd_perm _).length_eq, flat_sum, sb_length, g2, ← h.len, (wrd_perm t).length_eq, flat_sum]
    exact S_congr (fun a _ => by rw [sb_len, g3])
  have hpos : 0 < n := by have := (h.box hj).1; rw [hn] at this; omega
  have hw2 : (wrd (sb s 0 0 0)).filter (fun z => decide (0 < z)) = sword (fun _ => 0) (er s 0 0) :=
    sword_er hlt (by simp) (fun z hz => by have := (hlet z hz).1; simp; omega)
  refine ⟨⟨rais_T (fill_first g1), ?_, by rw [wrd_rais, List.length_map]; exact hlen⟩, fun a => by rw [rais_len, sb_len, g3], ?_⟩
  · rw [wrd_rais]
    refine perm_of (n := n) (nodup_map_add _ hn2) (fun z hz => ?_) (by rw [List.length_map]; exact hlen) (by have := h.perm.len; rw [h.len] at this; exact this)
    obtain ⟨y, hy, rfl⟩ := List.mem_map.1 hz
    rw [e1, List.mem_append, List.mem_cons] at hy
    have : y = 0 ∨ y ∈ u ++ v := by
      rw [List.mem_append]
      rcases hy with q | q | q
      · exact Or.inr (Or.inl q)
      · exact Or.inl q
      · exact Or.inr (Or.inr q)
    rcases this with q | q
    · rw [q]; omega
    · have := hlet y (by rw [e2]; exact q); omega
  · refine g4.trans (Eqv.of ?_)
    rw [wrd_rais, ← hw2, List.filter_map, List.map_map]
    have e : (wrd (sb s 0 0 0)).filter ((fun z => decide (1 < z)) ∘ (· + 1)) = (wrd (sb s 0 0 0)).filter (fun z => decide (0 < z)) := List.filter_congr (fun z _ => by
      simp only [Function.comp_apply]; exact decide_eq_decide.2 (by omega))
    rw [e]
    conv => lhs; rw [← List.map_id ((wrd (sb s 0 0 0)).filter (fun z => decide (0 < z)))]
    exact List.map_congr_left (fun z _ => by simp; omega)

end Go.Proofs.Ytpbkidgdpejenae

namespace Go.Proofs.Ytpbkidgdpejenae

def prN (n : Nat) : Nat → List (List Int) → List (List Int)
  | 0, t => t
  | k + 1, t => pr n (prN n k t)
theorem prN_std {n : Nat} {t : List (List Int)} (h : Std n t) (h0 : 0 < n) : ∀ k, Std n (prN n k t) := by
  intro k
  induction k with
  | zero => exact h
  | succ k ih => exact (pr_ok ih h0).1
theorem prN_shape {n : Nat} {t : List (List Int)} (h : Std n t) (h0 : 0 < n) : ∀ k, sameShape (prN n k t) t := by
  intro k
  induction k with
  | zero => exact fun _ => rfl
  | succ k ih => exact fun a => by rw [← ih a]; exact (pr_ok (prN_std h h0 k) h0).2.lens a
theorem prN_add (n : Nat) (t : List (List Int)) (m : Nat) : ∀ k, prN n k (prN n m t) = prN n (m + k) t := by
  intro k
  induction k with
  | zero => rfl
  | succ k ih => show pr n (prN n k (prN n m t)) = pr n (prN n (m + k) t); rw [ih]
theorem prN_word {n : Nat} {t : List (List Int)} (h : Std n t) (h0 : 0 < n) : ∀ m, m ≤ n → Eqv ((wrd (prN n m t)).filter (fun z => decide (z ≤ (n : Int) - m))) ((abv m (wrd t)).map (· + (-(m : Int)))) := by
  intro m
  induction m with
  | zero =>
    intro _
    refine Eqv.of ?_
    unfold abv
    show (wrd t).filter _ = _
    rw [List.filter_eq_self.2 (fun z hz => by have := (h.low z hz).2; simp; omega), List.filter_eq_self.2 (fun z hz => by have := (h.low z hz).1; simp; omega)]
    conv => lhs; rw [← List.map_id (wrd t)]
    exact List.map_congr_left (fun z _ => by simp)
  | succ m ih =>
    intro hm
    have k1 := (pr_ok (prN_std h h0 m) h0).2.word.filter (fun z => decide (z ≤ (n : Int) - ((m + 1 : Nat) : Int))) (fun x y z h1 h2 h3 h4 => by simp at h3 h4 ⊢; omega)
    have k2 := ((ih (by omega)).filter (fun z => decide (1 < z)) (fun x y z h1 h2 h3 h4 => by simp at h3 h4 ⊢; omega)).shift (-1)
    have e1 : ((wrd (pr n (prN n m t))).filter (fun z => decide (z ≤ (n : Int) - 1))).filter (fun z => decide (z ≤ (n : Int) - ((m + 1 : Nat) : Int))) = (wrd (prN n (m + 1) t)).filter (fun z => decide (z ≤ (n : Int) - ((m + 1 : Nat) : Int))) := by
      rw [List.filter_filter]
      refine List.filter_congr (fun z _ => ?_)
      rw [← Bool.decide_and]
      exact decide_eq_decide.2 (by omega)
    rw [e1] at k1
    refine k1.trans (Eqv.trans (Eqv.of ?_) (k2.trans (Eqv.of ?_)))
    · rw [map_filter_shift, List.filter_filter, List.filter_filter]
      congr 1
      refine List.filter_congr (fun z _ => ?_)
      rw [← Bool.decide_and, ← Bool.decide_and]
      exact decide_eq_decide.2 (by omega)
    · rw [List.filter_map, List.map_map]
      have : (abv m (wrd t)).filter ((fun z => decide (1 < z)) ∘ (· + (-(m : Int)))) = abv (m + 1) (wrd t) := by
        rw [← abv_abv]
        refine List.filter_congr (fun z _ => ?_)
        simp only [Function.comp_apply]; exact decide_eq_decide.2 (by omega)
      rw [this]
      exact List.map_congr_left (fun z _ => by simp; omega)
theorem insW_shift (w : List Int) (d : Int) : insW [] (w.map (· + d)) = rais d (insW [] w) := by
  have k := (eqv_word w).shift d
  rw [← wrd_rais] at k
  rw [k.P, wrd_T _ (rais_T (insW_T w [] trivial))]

/-- All rows of one length. -/
def Rect (t : List (List Int)) (W : Nat) : Prop := ∀ a, a < t.length → (row t a).length = W
def rot (c : Int) (t : List (List Int)) : List (List Int) := (t.map (star c)).reverse
theorem star_getD (c : Int) (r : List Int) {j : Nat} (hj : j < r.length) : (star c r).getD j 0 = c - r.getD (r.length - 1 - j) 0 := by
  unfold star
  rw [rev_getD _ (by simpa using hj), List.length_map]
  simp [List.getD, List.getElem?_map, List.getElem?_eq_getElem (show r.length - 1 - j < r.length by omega)]
theorem star_len (c : Int) (r : List Int) : (star c r).length = r.length := by simp [star]
theorem rot_row (c : Int) (t : List (List Int)) {a : Nat} (ha : a < t.length) : row (rot c t) a = star c (row t (t.length - 1 - a)) := by
  unfold row rot
  simp only [List.getD]
  rw [List.getElem?_reverse (by simpa using ha), List.getElem?_map, List.length_map, List.getElem?_eq_getElem (show t.length - 1 - a < t.length by omega)]
  simp
theorem rot_T {t : List (List Int)} {W : Nat} (h : T t) (hr : Rect t W) (c : Int) : T (rot c t) := by
  have ht := T_row.1 h
  have hl : (rot c t).length = t.length := by simp [rot]
  refine T_row.2 (fun i hi => ?_)
  rw [hl] at hi
  have hw := hr (t.length - 1 - i) (by omega)
  obtain ⟨h1, h2, h3, h4⟩ := ht (t.length - 1 - i) (by omega)
  rw [rot_row c t hi]
  refine ⟨by rw [star_len]; exact h1, fun j hj => ?_, ?_⟩
  · rw [star_len] at hj
    rw [star_getD c _ (by omega), star_getD c _ hj]
    have := h2 ((row t (t.length - 1 - i)).length - 1 - (j + 1)) (by omega)
    rw [show (row t (t.length - 1 - i)).length - 1 - (j + 1) + 1 = (row t (t.length - 1 - i)).length - 1 - j by omega] at this
    omega
  · by_cases c1 : i + 1 < t.length
    · rw [rot_row c t c1]
      have hw2 := hr (t.length - 1 - (i + 1)) (by omega)
      obtain ⟨g1, g2, g3, g4⟩ := ht (t.length - 1 - (i + 1)) (by omega)
      rw [show t.length - 1 - (i + 1) + 1 = t.length - 1 - i by omega] at g4
      refine ⟨by rw [star_len, star_len]; omega, fun j hj => ?_⟩
      rw [star_len] at hj
      rw [star_getD c _ (by omega), star_getD c _ hj, hw, hw2]
      have := g4 (W - 1 - j) (by omega)
      omega
    · rw [row_out (ls := rot c t) (by rw [hl]; omega)]; exact dn_nil _
theorem wrd_rot (c : Int) : ∀ (t : List (List Int)), wrd (rot c t) = star c (wrd t) := by
  intro t
  unfold wrd rot
  rw [List.reverse_reverse]
  induction t with
  | nil => rfl
  | cons r t ih =>
    rw [List.map_cons, List.flatten_cons, ih, List.reverse_cons, List.flatten_append, star_app]
    simp
theorem evT_rot {n : Nat} {t : List (List Int)} (h : Std n t) {W : Nat} (hr : Rect t W) : evT n t = rot (n + 1) t := by
  unfold evT
  rw [← wrd_rot, wrd_T _ (rot_T h.tab hr _)]
theorem rect_step {n : Nat} {t : List (List Int)} (h : Std n t) (h0 : 0 < n) {W : Nat} (hr : Rect t W) {m : Nat} (hm : m ≤ n) {a b : Nat} (ha : a < t.length) (hb : b < W) :
    box (prN n m t) a b ≤ (n : Int) - m ↔ (m : Int) < box t (t.length - 1 - a) (W - 1 - b) := by
  have hS := prN_std h h0 m
  have hwd : (row t a).length = W := hr a ha
  have e1 : sameShape (rs ((n : Int) - m) (prN n m t)) (insW [] (abv m (wrd t))) := by
    have : rs ((n : Int) - m) (prN n m t) = rais (-(m : Int)) (insW [] (abv m (wrd t))) := by
      rw [← wrd_T _ (T_rs _ ((n : Int) - m) hS.tab), wrd_rs _ _ hS.tab, (prN_word h h0 m hm).P, insW_shift]
    rw [this]
    exact fun a => rais_len _ _ a
  have p1 := (rs_box (prN n m t) ((n : Int) - m) hS.tab a b).1
  rw [e1 a, shape_rs h m a b, evT_rot h hr] at p1
  have q1 : row (rot (n + 1) t) a = star (n + 1) (row t (t.length - 1 - a)) := rot_row _ t ha
  have hw2 := hr (t.length - 1 - a) (by omega)
  have q2 : box (rot (n + 1) t) a b = (n : Int) + 1 - box t (t.length - 1 - a) (W - 1 - b) := by
    unfold box
    rw [q1, star_getD _ _ (by omega), hw2]
  rw [q1, star_len, hw2, q2, prN_shape h h0 m a, hwd] at p1
  constructor
  · intro q
    have := (p1.2 ⟨hb, q⟩).2
    omega
  · intro q
    exact (p1.1 ⟨hb, by omega⟩).2
theorem rect_round {n : Nat} {t : List (List Int)} (h : Std n t) (h0 : 0 < n) {W : Nat} (hr : Rect t W) : prN n n t = t := by
  have hS := prN_std h h0
  have hsh := prN_shape h h0
  refine ext_row (len_of_shape (hS n).tab.shp h.tab.shp (hsh n)) (fun a ha => ext_getD (hsh n a) (fun b hb => ?_))
  show box (prN n n t) a b = box t a b
  rw [len_of_shape (hS n).tab.shp h.tab.shp (hsh n)] at ha
  rw [hsh n a] at hb
  have hw := hr a ha
  have key : ∀ m : Nat, m ≤ n → (box (prN n n t) a b ≤ (m : Int) ↔ box t a b ≤ (m : Int)) := by
    intro m hm
    have s1 := rect_step h h0 hr hm (a := t.length - 1 - a) (b := W - 1 - b) (by omega) (by omega)
    rw [show t.length - 1 - (t.length - 1 - a) = a by omega, show W - 1 - (W - 1 - b) = b by omega] at s1
    have hl := len_of_shape (hS m).tab.shp h.tab.shp (hsh m)
    have s2 := rect_step (hS m) h0 (W := W) (fun c hc => by rw [hsh m c]; exact hr c (by omega)) (m := n - m) (by omega) (a := a) (b := b) (by omega) (by omega)
    rw [prN_add, show m + (n - m) = n by omega, hl] at s2
    rw [show (n : Int) - ((n - m : Nat) : Int) = (m : Int) by omega] at s2
    rw [s2]
    constructor
    · intro q
      refine Int.not_lt.1 (fun z => ?_)
      have := s1.2 z
      omega
    · intro q
      refine Int.not_le.1 (fun z => ?_)
      have := s1.1 (by omega)
      omega
  have b1 := (hS n).box (a := a) (b := b) (by rw [hsh n a]; exact hb)
  have b2 := h.box hb
  have k1 := (key (box t a b).toNat (by omega)).2 (by omega)
  have k2 := (key (box (prN n n t) a b).toNat (by omega)).1 (by omega)
  omega

end Go.Proofs.Ytpbkidgdpejenae
