/-
  The least sameness that KNUTH'S steps keep; a row's word put in; a step of a slide downwards: plain facts.
  Slides: rows with holes, a hole that goes its way, what the word becomes: plain facts.
  A slide's way from its hole to its end: the word stays as KNUTH'S steps leave it: plain facts.
  Tableaux of which some letters are left out; SCHUETZENBERGER'S turning over keeps the shape: plain facts.
-/
import Derived.Test.YtjciandmpfcfjaaISym
namespace Go.Proofs.Ytjciandmpfcfjaa

/-- As KNUTH'S steps make it. -/
def Eqv (u v : List Int) : Prop := ∀ R : List Int → List Int → Prop, Plac R → R u v
theorem plac_E : Plac Eqv := ⟨fun u _ h => h.refl u, fun k R h => h.symm (k R h), fun k l R h => h.trans (k R h) (l R h), fun a b _ _ k R h => h.app a b (k R h), fun k _ h => h.k3 k⟩
theorem Eqv.refl (u : List Int) : Eqv u u := plac_E.refl u
theorem Eqv.of {u v : List Int} (h : u = v) : Eqv u v := h ▸ Eqv.refl u
theorem Eqv.symm {u v : List Int} (h : Eqv u v) : Eqv v u := plac_E.symm h
theorem Eqv.trans {u v w : List Int} (h : Eqv u v) (k : Eqv v w) : Eqv u w := plac_E.trans h k
theorem Eqv.P {u v : List Int} (h : Eqv u v) : insW [] u = insW [] v := by
  have := h SameP plac_P [] []
  simpa using this
theorem eqv_word (w : List Int) : Eqv w (wrd (insW [] w)) := fun _ h => word_of h w

/-- What is said of a word's letters alone. -/
theorem Eqv.perm {u v : List Int} (h : Eqv u v) : u.Perm v := by
  refine h (fun u v => u.Perm v) ⟨fun u => List.Perm.refl u, fun h => h.symm, fun h k => h.trans k, fun a b u v k => (List.Perm.append_left a k).append_right b, fun {u v} k => ?_⟩
  rcases k with ⟨x, y, z, _, _, rfl, rfl⟩ | ⟨x, y, z, _, _, rfl, rfl⟩
  · exact List.Perm.cons _ (List.Perm.swap _ _ _)
  · exact List.Perm.swap _ _ _

/-- Letters of an interval alone. -/
theorem Eqv.filter {u v : List Int} (h : Eqv u v) (p : Int → Bool) (hp : ∀ x y z : Int, x ≤ y → y ≤ z → p x = true → p z = true → p y = true) : Eqv (u.filter p) (v.filter p) := by
  refine h (fun u v => Eqv (u.filter p) (v.filter p)) ⟨fun u => Eqv.refl _, fun h => h.symm, fun h k => h.trans k, fun a b u v k => ?_, fun {u v} k => ?_⟩
  · simp only [List.filter_append]; exact plac_E.app _ _ k
  · rcases k with ⟨x, y, z, h1, h2, rfl, rfl⟩ | ⟨x, y, z, h1, h2, rfl, rfl⟩
    · cases hx : p x <;> cases hy : p y <;> cases hz : p z <;> simp only [List.filter_cons, List.filter_nil, hx, hy, hz, if_true] <;> (try exact Eqv.refl _)
      · exact absurd (hp x y z (by omega) h2 hx hz) (by rw [hy]; simp)
      · exact plac_E.k3 (Or.inl ⟨x, y, z, h1, h2, rfl, rfl⟩)
    · cases hx : p x <;> cases hy : p y <;> cases hz : p z <;> simp only [List.filter_cons, List.filter_nil, hx, hy, hz, if_true] <;> (try exact Eqv.refl _)
      · exact absurd (hp x y z h1 (by omega) hx hz) (by rw [hy]; simp)
      · exact plac_E.k3 (Or.inr ⟨x, y, z, h1, h2, rfl, rfl⟩)

/-- Letters moved along. -/
theorem Eqv.shift {u v : List Int} (h : Eqv u v) (d : Int) : Eqv (u.map (· + d)) (v.map (· + d)) := by
  refine h (fun u v => Eqv (u.map (· + d)) (v.map (· + d))) ⟨fun u => Eqv.refl _, fun h => h.symm, fun h k => h.trans k, fun a b u v k => ?_, fun {u v} k => ?_⟩
  · simp only [List.map_append]; exact plac_E.app _ _ k
  · rcases k with ⟨x, y, z, h1, h2, rfl, rfl⟩ | ⟨x, y, z, h1, h2, rfl, rfl⟩
    · exact plac_E.k3 (Or.inl ⟨x + d, y + d, z + d, by omega, by omega, rfl, rfl⟩)
    · exact plac_E.k3 (Or.inr ⟨x + d, y + d, z + d, by omega, by omega, rfl, rfl⟩)

/-- Read from behind, the letters turned over. -/
def star (c : Int) (w : List Int) : List Int := (w.map (fun z => c - z)).reverse
theorem star_app (c : Int) (u v : List Int) : star c (u ++ v) = star c v ++ star c u := by simp [star]
theorem star_star (c : Int) (w : List Int) : star c (star c w) = w := by
  unfold star
  rw [List.map_reverse, List.reverse_reverse, List.map_map]
  conv => rhs; rw [← List.map_id w]
  exact List.map_congr_left (fun z _ => by simp; omega)
theorem Eqv.star {u v : List Int} (h : Eqv u v) (c : Int) : Eqv (star c u) (star c v) := by
  refine h (fun u v => Eqv (Go.Proofs.Ytjciandmpfcfjaa.star c u) (Go.Proofs.Ytjciandmpfcfjaa.star c v)) ⟨fun u => Eqv.refl _, fun h => h.symm, fun h k => h.trans k, fun a b u v k => ?_, fun {u v} k => ?_⟩
  · simp only [star_app, ← List.append_assoc]; exact plac_E.app _ _ k
  · rcases k with ⟨x, y, z, h1, h2, rfl, rfl⟩ | ⟨x, y, z, h1, h2, rfl, rfl⟩
    · exact plac_E.symm (plac_E.symm (by
        have : Eqv [c - z, c - x, c - y] [c - x, c - z, c - y] := plac_E.k3 (Or.inr ⟨c - z, c - y, c - x, by omega, by omega, rfl, rfl⟩)
        simpa [Go.Proofs.Ytjciandmpfcfjaa.star] using this))
    · have : Eqv [c - y, c - z, c - x] [c - y, c - x, c - z] := plac_E.k3 (Or.inl ⟨c - z, c - y, c - x, by omega, by omega, rfl, rfl⟩)
      simpa [Go.Proofs.Ytjciandmpfcfjaa.star] using this

/-- A row put in under which another one stands. -/
theorem rw_dn : ∀ (r u p : List Int), Srt (p ++ r) → Dn r u → rwW (p ++ u) r = (p ++ r, u) := by
  intro r
  induction r with
  | nil =>
    intro u p _ h
    have hu : u = [] := List.eq_nil_of_length_eq_zero (by have := h.1; simp at this; simp [this])
    subst hu; rfl
  | cons x r ih =>
    intro u p hs hd
    have hp : ∀ j, j < p.length → p.getD j 0 ≤ x := fun j hj => by
      have h1 := hs.le (i := j) (j := p.length) (by omega) (by simp)
      have e1 : (p ++ x :: r).getD j 0 = p.getD j 0 := by simp [List.getD, List.getElem?_append_left hj]
      have e2 : (p ++ x :: r).getD p.length 0 = x := by simp [List.getD]
      rw [e1, e2] at h1; exact h1
    have hs' : Srt ((p ++ [x]) ++ r) := by simpa using hs
    cases u with
    | nil =>
      have e : spot false x (p ++ []) = (p ++ []).length := spot_all (fun j hj => by simp at hj ⊢; simpa using hp j hj)
      simp only [rwW, e]
      rw [bump_no rfl]
      have e2 : put (p ++ []).length x (p ++ []) = (p ++ [x]) ++ [] := by unfold put; simp
      rw [e2, ih [] (p ++ [x]) hs' (dn_nil r)]
      simp
    | cons y u =>
      have hxy : x < y := by have := hd.2 0 (by simp); simpa using this
      have e : spot false x (p ++ y :: u) = p.length := Spot.is ⟨by simp, fun j hj => by
        have := hp j hj
        simpa [List.getD, List.getElem?_append_left hj] using this, fun _ => by simpa [List.getD] using hxy⟩
      simp only [rwW, e]
      rw [bump_yes (by simp)]
      have e2 : put p.length x (p ++ y :: u) = (p ++ [x]) ++ u := by unfold put; rw [if_neg (by simp)]; simp
      rw [e2, ih u (p ++ [x]) hs' ⟨by have := hd.1; simp at this; omega, fun j hj => by have := hd.2 (j + 1) (by simpa using hj); simpa using this⟩]
      simp [List.getD]

/-- A tableau's word makes it. -/
theorem insW_rowT : ∀ (t : List (List Int)) (r : List Int), T (r :: t) → insW t r = r :: t := by
  intro t
  induction t with
  | nil =>
    intro r h
    rw [insW_empty (fun e => by have := h.1; rw [e] at this; simp at this), insW_row]
    have := rw_dn r [] [] (by simpa using h.2.1) (dn_nil r)
    simp at this
    rw [this]; rfl
  | cons u t ih =>
    intro r h
    rw [insW_row]
    have := rw_dn r u [] (by simpa using h.2.1) (by simpa using h.2.2.1)
    simp at this
    rw [this]
    simp only
    rw [ih u h.2.2.2]
theorem wrd_T : ∀ (t : List (List Int)), T t → insW [] (wrd t) = t := by
  intro t
  induction t with
  | nil => intro _; rfl
  | cons r t ih => intro h; rw [wrd_cons, insW_app, ih h.2.2.2, insW_rowT t r h]
theorem T_uniq {t u : List (List Int)} (ht : T t) (hu : T u) (h : Eqv (wrd t) (wrd u)) : t = u := by
  rw [← wrd_T t ht, ← wrd_T u hu]; exact h.P

/-- One of the first, one of the second, and so on. -/
def zipI : List Int → List Int → List Int
  | d :: D, a :: A => d :: a :: zipI D A
  | _, _ => []
theorem zip_left {R : List Int → List Int → Prop} (h : Plac R) : ∀ (D A E : List Int), Srt (D ++ E) → A.length = D.length → (∀ k, k < A.length → A.getD k 0 < D.getD k 0) → R (D ++ E ++ A) (zipI D A ++ E) := by
  intro D
  induction D with
  | nil =>
    intro A E _ hl _
    have hA : A = [] := List.eq_nil_of_length_eq_zero (by simpa using hl)
    subst hA; simp [zipI]; exact h.refl _
  | cons d D ih =>
    intro A E hs hl hlt
    cases A with
    | nil => simp at hl
    | cons a A =>
      have h0 : a < d := by have := hlt 0 (by simp); simpa using this
      have h1 : R (d :: (D ++ E) ++ [a]) (d :: a :: (D ++ E)) := pass_left h a (D ++ E) d (by simpa using hs) h0
      have h2 := h.right A h1
      have h3 := ih A E (Srt.tail (x := d) (by simpa using hs)) (by simpa using hl) (fun k hk => by have := hlt (k + 1) (by simpa using hk); simpa using this)
      have h4 := h.left [d, a] h3
      simp only [zipI]
      refine h.trans (by simpa using h2) (by simpa using h4)
theorem zip_right {R : List Int → List Int → Prop} (h : Plac R) : ∀ (E C B : List Int), Srt (B ++ C) → E.length = C.length → (∀ k, k < C.length → C.getD k 0 < E.getD k 0) → R (B ++ zipI E C) (E ++ B ++ C) := by
  intro E
  induction E with
  | nil =>
    intro C B _ hl _
    have hC : C = [] := List.eq_nil_of_length_eq_zero (by simpa using hl.symm)
    subst hC; simp [zipI]; exact h.refl _
  | cons e E ih =>
    intro C B hs hl hlt
    cases C with
    | nil => simp at hl
    | cons c C =>
      have h0 : c < e := by have := hlt 0 (by simp); simpa using this
      have hs' : Srt ((B ++ [c]) ++ C) := by simpa using hs
      have hs1 : Srt (B ++ [c]) := fun j hj => by
        have := hs' j (by rw [List.length_append]; omega)
        rw [List.getD, List.getD, List.getElem?_append_left (by omega), List.getElem?_append_left hj] at this
        exact this
      have h1 := h.right (zipI E C) (pass_right h e B c hs1 h0)
      have h2 := h.left [e] (ih C (B ++ [c]) hs' (by simpa using hl) (fun k hk => by have := hlt (k + 1) (by simpa using hk); simpa using this))
      simp only [zipI]
      refine h.trans (by simpa using h1) (by simpa using h2)

/-- A letter goes up into the hole over it. -/
theorem up_word {R : List Int → List Int → Prop} (h : Plac R) {D A E C : List Int} {b : Int} (hs : Srt (D ++ b :: E)) (hs2 : Srt (D ++ E)) (hc : Srt (b :: C)) (hl : A.length = D.length) (hl2 : E.length = C.length)
    (ha : ∀ k, k < A.length → A.getD k 0 < D.getD k 0) (he : ∀ k, k < C.length → C.getD k 0 < E.getD k 0) : R (D ++ b :: E ++ A ++ C) (D ++ E ++ A ++ b :: C) := by
  have hsE : Srt (E ++ []) := by
    rw [List.append_nil]
    intro j hj
    have := hs2 (D.length + j) (by rw [List.length_append]; omega)
    rw [List.getD, List.getD, List.getElem?_append_right (by omega), List.getElem?_append_right (by omega)] at this
    rw [show D.length + j - D.length = j by omega, show D.length + j + 1 - D.length = j + 1 by omega] at this
    exact this
  have h1 := h.right C (zip_left h D A (b :: E) hs hl ha)
  have h2 := zip_left h E C [] hsE hl2.symm he
  have h3 := h.left [b] h2
  have h4 := zip_right h E C [b] (by simpa using hc) hl2 he
  have h5 : R ([b] ++ (E ++ C)) (E ++ [b] ++ C) := by
    refine h.trans (by simpa using h3) (by simpa using h4)
  have h6 := h.left (zipI D A) h5
  have h7 := h.right (b :: C) (zip_left h D A E hs2 hl ha)
  refine h.trans (by simpa using h1) (h.trans (by simpa using h6) (h.symm (by simpa using h7)))

end Go.Proofs.Ytjciandmpfcfjaa

namespace Go.Proofs.Ytjciandmpfcfjaa

/-- Another letter in one box. -/
def sb (s : List (List Int)) (i j : Nat) (x : Int) : List (List Int) := s.set i ((row s i).set j x)
theorem sb_length (s : List (List Int)) (i j : Nat) (x : Int) : (sb s i j x).length = s.length := by simp [sb]
theorem set_row (s : List (List Int)) (i : Nat) (r : List Int) (a : Nat) : row (s.set i r) a = if a = i ∧ i < s.length then r else row s a := by
  unfold row
  simp only [List.getD, List.getElem?_set]
  by_cases e : i = a
  · subst e
    by_cases e2 : i < s.length
    · simp [e2]
    · simp [e2]
  · rw [if_neg e, if_neg (fun k => e k.1.symm)]
theorem sb_row (s : List (List Int)) (i j : Nat) (x : Int) (a : Nat) : row (sb s i j x) a = if a = i then (row s i).set j x else row s a := by
  unfold sb
  rw [set_row]
  by_cases e : a = i
  · subst e
    by_cases e2 : a < s.length
    · rw [if_pos ⟨rfl, e2⟩, if_pos rfl]
    · rw [if_neg (fun k => e2 k.2), if_pos rfl, row_out (by omega)]; simp
  · rw [if_neg (fun k => e k.1), if_neg e]
theorem sb_len (s : List (List Int)) (i j : Nat) (x : Int) (a : Nat) : (row (sb s i j x) a).length = (row s a).length := by
  rw [sb_row]
  by_cases e : a = i
  · rw [if_pos e, e]; simp
  · rw [if_neg e]
theorem sb_box {s : List (List Int)} {i j : Nat} (hj : j < (row s i).length) (x : Int) (a b : Nat) : box (sb s i j x) a b = if a = i ∧ b = j then x else box s a b := by
  unfold box
  rw [sb_row]
  by_cases e : a = i
  · subst e
    rw [if_pos rfl, getD_set]
    by_cases e2 : b = j
    · rw [if_pos ⟨e2, hj⟩, if_pos ⟨rfl, e2⟩]
    · rw [if_neg (fun k => e2 k.1), if_neg (fun k => e2 k.2)]
  · rw [if_neg e, if_neg (fun k => e k.1)]
theorem sb_shp {s : List (List Int)} (h : Shp s) (i j : Nat) (x : Int) : Shp (sb s i j x) := by
  refine ⟨fun a ha => ?_, fun a ha => ?_⟩
  · rw [sb_len]; rw [sb_length] at ha; exact h.1 a ha
  · rw [sb_len, sb_len]; rw [sb_length] at ha; exact h.2 a ha

/-- Rows of letters behind holes: as many in row a as h says; what stands in the boxes X is left open. -/
structure Sk (X : Nat → Nat → Prop) (h : Nat → Nat) (s : List (List Int)) : Prop where
  shp : Shp s
  hm : ∀ a, h (a + 1) ≤ h a
  hl : ∀ a, h a ≤ (row s a).length
  zer : ∀ a b, b < h a → box s a b = 0
  pos : ∀ a b, h a ≤ b → b < (row s a).length → ¬ X a b → 1 ≤ box s a b
  along : ∀ a b c, h a ≤ b → b < c → c < (row s a).length → ¬ X a b → ¬ X a c → box s a b ≤ box s a c
  down : ∀ a c b, a < c → h a ≤ b → b < (row s c).length → ¬ X a b → ¬ X c b → box s a b < box s c b
def one (i j : Nat) : Nat → Nat → Prop := fun a b => a = i ∧ b = j
def non : Nat → Nat → Prop := fun _ _ => False

theorem Sk.mono {X : Nat → Nat → Prop} {h : Nat → Nat} {s : List (List Int)} (k : Sk X h s) {a c : Nat} (hac : a ≤ c) : h c ≤ h a := by
  induction c with
  | zero => obtain rfl : a = 0 := by omega
            exact Nat.le_refl _
  | succ c ih =>
    by_cases e : a = c + 1
    · rw [e]; exact Nat.le_refl _
    · exact Nat.le_trans (k.hm c) (ih (by omega))
theorem box_out {s : List (List Int)} {a b : Nat} (h : (row s a).length ≤ b) : box s a b = 0 := by
  unfold box; simp [List.getD, List.getElem?_eq_none h]

/-- The hole goes right. -/
theorem Sk.right {h : Nat → Nat} {s : List (List Int)} {i j : Nat} (k : Sk (one i j) h s) (hj : h i ≤ j) (hr : j + 1 < (row s i).length) (hlow : j < (row s (i + 1)).length → box s i (j + 1) < box s (i + 1) j) :
    Sk (one i (j + 1)) h (sb s i j (box s i (j + 1))) := by
  have hbx := sb_box (s := s) (i := i) (j := j) (by omega) (box s i (j + 1))
  refine ⟨sb_shp k.shp _ _ _, k.hm, fun a => by rw [sb_len]; exact k.hl a, fun a b hb => ?_, fun a b h1 h2 hx => ?_, fun a b c h1 h2 h3 hx hy => ?_, fun a c b h1 h2 h3 hx hy => ?_⟩
  · rw [hbx, if_neg (fun e => by obtain ⟨rfl, rfl⟩ := e; omega)]; exact k.zer a b hb
  · rw [sb_len] at h2
    rw [hbx]
    by_cases e : a = i ∧ b = j
    · rw [if_pos e]; exact k.pos i (j + 1) (by omega) hr (fun q => by have := q.2; omega)
    · rw [if_neg e]; exact k.pos a b h1 h2 e
  · rw [sb_len] at h3
    rw [hbx, hbx]
    by_cases e : a = i ∧ b = j
    · rw [if_pos e, if_neg (fun q => by omega)]
      obtain ⟨rfl, rfl⟩ := e
      have : ¬ c = b + 1 := fun q => hy ⟨rfl, q⟩
      exact k.along a (b + 1) c (by omega) (by omega) h3 (fun q => by have := q.2; omega) (fun q => by have := q.2; omega)
    · rw [if_neg e]
      by_cases e2 : a = i ∧ c = j
      · rw [if_pos e2]
        obtain ⟨rfl, rfl⟩ := e2
        exact k.along a b (c + 1) h1 (by omega) hr e (fun q => by have := q.2; omega)
      · rw [if_neg e2]; exact k.along a b c h1 h2 h3 e e2
  · rw [sb_len] at h3
    rw [hbx, hbx]
    have hcl := k.shp.shorter' (a := a) (b := c) (by omega)
    by_cases e : a = i ∧ b = j
    · rw [if_pos e, if_neg (fun q => by omega)]
      obtain ⟨rfl, rfl⟩ := e
      have hll := k.shp.shorter' (a := a + 1) (b := c) (by omega)
      have h4 := hlow (by omega)
      by_cases e3 : c = a + 1
      · rw [e3]; exact h4
      · have := k.down (a + 1) c b (by omega) (by have := k.hm a; omega) h3 (fun q => by have := q.1; omega) (fun q => by have := q.1; omega)
        omega
    · rw [if_neg e]
      by_cases e2 : c = i ∧ b = j
      · rw [if_pos e2]
        obtain ⟨rfl, rfl⟩ := e2
        have q1 := k.along a b (b + 1) h2 (by omega) (by omega) e (fun q => by have := q.2; omega)
        have q2 := k.down a c (b + 1) h1 (by omega) hr (fun q => by have := q.2; omega) (fun q => by have := q.2; omega)
        omega
      · rw [if_neg e2]; exact k.down a c b h1 h2 h3 e e2

/-- The hole goes down. -/
theorem Sk.below {h : Nat → Nat} {s : List (List Int)} {i j : Nat} (k : Sk (one i j) h s) (hj : h i ≤ j) (hr : j < (row s (i + 1)).length) (hright : j + 1 < (row s i).length → box s (i + 1) j ≤ box s i (j + 1)) :
    Sk (one (i + 1) j) h (sb s i j (box s (i + 1) j)) := by
  have hsh := k.shp.shorter' (a := i) (b := i + 1) (by omega)
  have hm := k.hm i
  have hbx := sb_box (s := s) (i := i) (j := j) (by omega) (box s (i + 1) j)
  refine ⟨sb_shp k.shp _ _ _, k.hm, fun a => by rw [sb_len]; exact k.hl a, fun a b hb => ?_, fun a b h1 h2 hx => ?_, fun a b c h1 h2 h3 hx hy => ?_, fun a c b h1 h2 h3 hx hy => ?_⟩
  · rw [hbx, if_neg (fun e => by obtain ⟨rfl, rfl⟩ := e; omega)]; exact k.zer a b hb
  · rw [sb_len] at h2
    rw [hbx]
    by_cases e : a = i ∧ b = j
    · rw [if_pos e]; exact k.pos (i + 1) j (by omega) hr (fun q => by have := q.1; omega)
    · rw [if_neg e]; exact k.pos a b h1 h2 e
  · rw [sb_len] at h3
    rw [hbx, hbx]
    by_cases e : a = i ∧ b = j
    · rw [if_pos e, if_neg (fun q => by omega)]
      obtain ⟨rfl, rfl⟩ := e
      have q1 := hright (by omega)
      by_cases e3 : c = b + 1
      · rw [e3]; exact q1
      · have := k.along a (b + 1) c (by omega) (by omega) h3 (fun q => by have := q.2; omega) (fun q => by have := q.2; omega)
        omega
    · rw [if_neg e]
      by_cases e2 : a = i ∧ c = j
      · rw [if_pos e2]
        obtain ⟨rfl, rfl⟩ := e2
        have q1 := k.down a (a + 1) b (by omega) h1 (by omega) e (fun q => by have := q.1; omega)
        have q2 := k.along (a + 1) b c (by omega) h2 hr (fun q => by have := q.1; omega) (fun q => by have := q.1; omega)
        omega
      · rw [if_neg e2]; exact k.along a b c h1 h2 h3 e e2
  · rw [sb_len] at h3
    rw [hbx, hbx]
    by_cases e : a = i ∧ b = j
    · rw [if_pos e, if_neg (fun q => by omega)]
      obtain ⟨rfl, rfl⟩ := e
      have : ¬ c = a + 1 := fun q => hy ⟨q, rfl⟩
      exact k.down (a + 1) c b (by omega) (by omega) h3 (fun q => by have := q.1; omega) (fun q => by have := q.1; omega)
    · rw [if_neg e]
      by_cases e2 : c = i ∧ b = j
      · rw [if_pos e2]
        obtain ⟨rfl, rfl⟩ := e2
        exact k.down a (c + 1) b (by omega) h2 hr e (fun q => by have := q.1; omega)
      · rw [if_neg e2]; exact k.down a c b h1 h2 h3 e e2

/-- The letters, the last row first. -/
def sword (h : Nat → Nat) : List (List Int) → List Int
  | [] => []
  | r :: t => sword (fun a => h (a + 1)) t ++ r.drop (h 0)
theorem sword_app : ∀ (u v : List (List Int)) (h : Nat → Nat), sword h (u ++ v) = sword (fun a => h (a + u.length)) v ++ sword h u := by
  intro u
  induction u with
  | nil => intro v h; simp [sword]
  | cons r u ih =>
    intro v h
    simp only [List.cons_append, sword, ih, List.length_cons, List.append_assoc]
    congr 1
theorem split2 {s : List (List Int)} {i : Nat} (hi : i + 1 < s.length) : s = s.take i ++ (row s i :: row s (i + 1) :: s.drop (i + 2)) := by
  have h1 := List.take_append_drop i s
  rw [List.drop_eq_getElem_cons (by omega), List.drop_eq_getElem_cons (by omega)] at h1
  have e1 : row s i = s[i] := by simp [row, List.getD, List.getElem?_eq_getElem (show i < s.length by omega)]
  have e2 : row s (i + 1) = s[i + 1] := by simp [row, List.getD, List.getElem?_eq_getElem hi]
  rw [e1, e2]
  exact h1.symm
theorem sword2 (h : Nat → Nat) {s : List (List Int)} {i : Nat} (hi : i + 1 < s.length) (r r' : List Int) :
    sword h ((s.set i r).set (i + 1) r') = sword (fun a => h (a + 2 + i)) (s.drop (i + 2)) ++ (r'.drop (h (i + 1)) ++ r.drop (h i)) ++ sword h (s.take i) := by
  have e : (s.set i r).set (i + 1) r' = s.take i ++ (r :: r' :: s.drop (i + 2)) := by
    conv => lhs; rw [split2 hi]
    rw [List.set_append_right _ _ (by rw [List.length_take]; omega), List.set_append_right _ _ (by rw [List.length_take]; omega)]
    rw [List.length_take, show min i s.length = i by omega, show i - i = 0 by omega, show i + 1 - i = 1 by omega]
    rfl
  rw [e, sword_app]
  simp only [sword, List.length_take, show min i s.length = i by omega, List.append_assoc, Nat.zero_add]
  congr 1
  congr 1
  rw [show 1 + i = i + 1 by omega]
theorem sword1 (h : Nat → Nat) {s : List (List Int)} {i : Nat} (hi : i < s.length) (r : List Int) :
    sword h (s.set i r) = sword (fun a => h (a + 1 + i)) (s.drop (i + 1)) ++ r.drop (h i) ++ sword h (s.take i) := by
  have e : s.set i r = s.take i ++ (r :: s.drop (i + 1)) := by
    rw [List.set_eq_take_append_cons_drop, if_pos hi]
  rw [e, sword_app]
  simp only [sword, List.length_take, show min i s.length = i by omega, List.append_assoc, Nat.zero_add]

/-- The rows without one box. -/
def er (s : List (List Int)) (i j : Nat) : List (List Int) := s.set i ((row s i).eraseIdx j)

theorem er_right {s : List (List Int)} {i j : Nat} (hr : j + 1 < (row s i).length) : er (sb s i j (box s i (j + 1))) i (j + 1) = er s i j := by
  unfold er
  rw [sb_row, if_pos rfl]
  unfold sb
  rw [List.set_set]
  congr 1
  refine List.ext_getElem? (fun m => ?_)
  simp only [List.getElem?_eraseIdx, List.getElem?_set]
  by_cases c1 : m < j
  · rw [if_pos (by omega), if_neg (by omega), if_pos c1]
  · by_cases c2 : m = j
    · subst c2
      rw [if_pos (by omega), if_pos rfl, if_pos (by omega), if_neg (by omega)]
      unfold box
      simp [List.getD, List.getElem?_eq_getElem hr]
    · rw [if_neg (by omega), if_neg (by omega), if_neg (by omega)]

end Go.Proofs.Ytjciandmpfcfjaa

namespace Go.Proofs.Ytjciandmpfcfjaa

theorem take_getD' (r : List Int) (n j : Nat) (hj : j < n) : (r.take n).getD j 0 = r.getD j 0 := by simp [List.getD, hj]
theorem drop_getD' (r : List Int) (n j : Nat) : (r.drop n).getD j 0 = r.getD (n + j) 0 := by simp [List.getD]
theorem cut_at {r : List Int} {j : Nat} (hj : j < r.length) : r = r.take j ++ r.getD j 0 :: r.drop (j + 1) := by
  conv => lhs; rw [← List.take_append_drop j r]
  rw [drop_cons r j hj]
theorem erase_at (r : List Int) (j : Nat) : r.eraseIdx j = r.take j ++ r.drop (j + 1) := by
  rw [List.eraseIdx_eq_take_drop_succ]
theorem app_getD (u v : List Int) (m : Nat) : (u ++ v).getD m 0 = if m < u.length then u.getD m 0 else v.getD (m - u.length) 0 := by
  by_cases c : m < u.length
  · rw [if_pos c]; simp [List.getD, List.getElem?_append_left c]
  · rw [if_neg c]; simp [List.getD, List.getElem?_append_right (show u.length ≤ m by omega)]

/-- The word, where a letter goes up. -/
theorem er_below {h : Nat → Nat} {s : List (List Int)} {i j : Nat} (k : Sk (one i j) h s) (hj : h i ≤ j) (hr : j < (row s (i + 1)).length) (hright : j + 1 < (row s i).length → box s (i + 1) j ≤ box s i (j + 1)) :
    Eqv (sword h (er s i j)) (sword h (er (sb s i j (box s (i + 1) j)) (i + 1) j)) := by
  have hi1 : i + 1 < s.length := Nat.lt_of_not_le (fun c => by rw [row_out c] at hr; simp at hr)
  have hsh := k.shp.shorter' (a := i) (b := i + 1) (by omega)
  have hm := k.hm i
  obtain ⟨b, hb⟩ : ∃ b, b = box s (i + 1) j := ⟨_, rfl⟩
  rw [← hb]
  have eL : er s i j = (s.set i ((row s i).eraseIdx j)).set (i + 1) (row s (i + 1)) := by
    unfold er
    refine (ext_row (by simp) (fun a ha => ?_)).symm
    simp only [List.length_set] at ha
    rw [set_row]
    by_cases e : a = i + 1
    · subst e; rw [if_pos ⟨rfl, by simpa using ha⟩, set_row, if_neg (fun q => by omega)]
    · rw [if_neg (fun q => e q.1)]
  have eR : er (sb s i j b) (i + 1) j = (s.set i ((row s i).set j b)).set (i + 1) ((row s (i + 1)).eraseIdx j) := by
    unfold er
    rw [sb_row, if_neg (by omega)]
    rfl
  rw [eL, eR, sword2 h hi1, sword2 h hi1]
  refine plac_E.app _ _ ?_
  have hji : j < (row s i).length := by omega
  -- the pieces
  obtain ⟨u, hu⟩ : ∃ u, u = row s i := ⟨_, rfl⟩
  obtain ⟨v, hv⟩ : ∃ v, v = row s (i + 1) := ⟨_, rfl⟩
  rw [← hu, ← hv]
  have hul : u.length = (row s i).length := by rw [hu]
  have hvl : v.length = (row s (i + 1)).length := by rw [hv]
  have bu : ∀ m, u.getD m 0 = box s i m := fun m => by rw [hu]; rfl
  have bv : ∀ m, v.getD m 0 = box s (i + 1) m := fun m => by rw [hv]; rfl
  obtain ⟨D0, hD0⟩ : ∃ D0, D0 = (v.take (h i)).drop (h (i + 1)) := ⟨_, rfl⟩
  obtain ⟨D, hD⟩ : ∃ D, D = (v.take j).drop (h i) := ⟨_, rfl⟩
  obtain ⟨E, hE⟩ : ∃ E, E = v.drop (j + 1) := ⟨_, rfl⟩
  obtain ⟨A, hA⟩ : ∃ A, A = (u.take j).drop (h i) := ⟨_, rfl⟩
  obtain ⟨C, hC⟩ : ∃ C, C = (u.drop (j + 1)).take E.length := ⟨_, rfl⟩
  obtain ⟨C1, hC1⟩ : ∃ C1, C1 = (u.drop (j + 1)).drop E.length := ⟨_, rfl⟩
  have hEl : E.length = v.length - (j + 1) := by rw [hE]; simp
  have hDl : D.length = j - h i := by rw [hD]; simp; omega
  have hAl : A.length = j - h i := by rw [hA]; simp; omega
  have hCl : C.length = E.length := by rw [hC]; simp; omega
  have gD : ∀ m, m < D.length → D.getD m 0 = box s (i + 1) (h i + m) := fun m hm' => by rw [hD, drop_getD', take_getD' _ _ _ (by omega), bv]
  have gA : ∀ m, m < A.length → A.getD m 0 = box s i (h i + m) := fun m hm' => by rw [hA, drop_getD', take_getD' _ _ _ (by omega), bu]
  have gE : ∀ m, E.getD m 0 = box s (i + 1) (j + 1 + m) := fun m => by rw [hE, drop_getD', bv]
  have gC : ∀ m, m < C.length → C.getD m 0 = box s i (j + 1 + m) := fun m hm' => by rw [hC, take_getD' _ _ _ (by omega), drop_getD', bu]
  have no1 : ∀ m, ¬ one i j (i + 1) m := fun m q => by have := q.1; omega
  have hvb : v = v.take j ++ b :: E := by rw [hE, hb, ← bv]; exact cut_at (by omega)
  have e1 : v.drop (h (i + 1)) = D0 ++ (D ++ b :: E) := by
    conv => lhs; rw [hvb]
    rw [List.drop_append_of_le_length (by rw [List.length_take]; omega)]
    rw [← List.append_assoc]
    congr 1
    rw [hD0, hD]
    refine List.ext_getElem? (fun m => ?_)
    by_cases c : m < h i - h (i + 1)
    · rw [List.getElem?_append_left (by simp; omega)]
      simp only [List.getElem?_drop, List.getElem?_take]
      rw [if_pos (by omega), if_pos (by omega)]
    · rw [List.getElem?_append_right (by simp; omega)]
      simp only [List.getElem?_drop, List.getElem?_take, List.length_drop, List.length_take]
      rw [show h i + (m - (min (h i) v.length - h (i + 1))) = h (i + 1) + m by omega]
  have e2 : (u.eraseIdx j).drop (h i) = A ++ (C ++ C1) := by
    rw [erase_at u j, List.drop_append_of_le_length (by rw [List.length_take]; omega), hA, hC, hC1, List.take_append_drop]
  have e3 : (v.eraseIdx j).drop (h (i + 1)) = D0 ++ (D ++ E) := by
    rw [erase_at v j, ← hE, List.drop_append_of_le_length (by rw [List.length_take]; omega)]
    rw [← List.append_assoc]
    congr 1
    rw [hD0, hD]
    refine List.ext_getElem? (fun m => ?_)
    by_cases c : m < h i - h (i + 1)
    · rw [List.getElem?_append_left (by simp; omega)]
      simp only [List.getElem?_drop, List.getElem?_take]
      rw [if_pos (by omega), if_pos (by omega)]
    · rw [List.getElem?_append_right (by simp; omega)]
      simp only [List.getElem?_drop, List.getElem?_take, List.length_drop, List.length_take]
      rw [show h i + (m - (min (h i) v.length - h (i + 1))) = h (i + 1) + m by omega]
  have e4 : (u.set j b).drop (h i) = A ++ b :: (C ++ C1) := by
    rw [List.set_eq_take_append_cons_drop, if_pos (by omega), List.drop_append_of_le_length (by rw [List.length_take]; omega), hA, hC, hC1, List.take_append_drop]
  rw [e1, e2, e3, e4]
  have key : Eqv (D ++ b :: E ++ A ++ C) (D ++ E ++ A ++ b :: C) := by
    refine up_word plac_E ?_ ?_ ?_ (by omega) (by omega) (fun m hm' => ?_) (fun m hm' => ?_)
    · intro m hm'
      simp only [List.length_append, List.length_cons] at hm'
      have q : ∀ n, n < D.length + (E.length + 1) → (D ++ b :: E).getD n 0 = box s (i + 1) (h i + n) := fun n hn => by
        rw [app_getD]
        by_cases c : n < D.length
        · rw [if_pos c, gD n c]
        · rw [if_neg c]
          by_cases c2 : n - D.length = 0
          · rw [c2, show h i + n = j by omega, ← hb]; rfl
          · obtain ⟨p, hp⟩ : ∃ p, n - D.length = p + 1 := ⟨n - D.length - 1, by omega⟩
            rw [hp]
            show E.getD p 0 = _
            rw [gE]; congr 1; omega
      rw [q m (by omega), q (m + 1) (by omega)]
      exact k.along (i + 1) (h i + m) (h i + (m + 1)) (by omega) (by omega) (by omega) (no1 _) (no1 _)
    · intro m hm'
      rw [List.length_append] at hm'
      have q : ∀ n, n < D.length + E.length → (D ++ E).getD n 0 = box s (i + 1) (if n < D.length then h i + n else h i + n + 1) := fun n hn => by
        rw [app_getD]
        by_cases c : n < D.length
        · rw [if_pos c, if_pos c, gD n c]
        · rw [if_neg c, if_neg c, gE]; congr 1; omega
      rw [q m (by omega), q (m + 1) (by omega)]
      refine k.along (i + 1) _ _ ?_ ?_ ?_ (no1 _) (no1 _) <;> (repeat' split) <;> omega
    · intro m hm'
      simp only [List.length_cons] at hm'
      cases m with
      | zero =>
        show b ≤ C.getD 0 0
        rw [gC 0 (by omega), hb]; exact hright (by omega)
      | succ m =>
        show C.getD m 0 ≤ C.getD (m + 1) 0
        rw [gC m (by omega), gC (m + 1) (by omega)]
        exact k.along i _ _ (by omega) (by omega) (by omega) (fun q => by have := q.2; omega) (fun q => by have := q.2; omega)
    · rw [gA m hm', gD m (by omega)]
      exact k.down i (i + 1) _ (by omega) (by omega) (by omega) (fun q => by have := q.2; omega) (no1 _)
    · rw [gC m hm', gE m]
      exact k.down i (i + 1) _ (by omega) (by omega) (by omega) (fun q => by have := q.2; omega) (no1 _)
  have := plac_E.app D0 C1 key
  simpa using this

/-- A hole's way. -/
def mv : Nat → List (List Int) → Nat → Nat → List (List Int) × Nat × Nat
  | 0, s, i, j => (s, i, j)
  | n + 1, s, i, j => if box s (i + 1) j ≠ 0 ∧ (box s i (j + 1) = 0 ∨ box s (i + 1) j ≤ box s i (j + 1)) then mv n (sb s i j (box s (i + 1) j)) (i + 1) j
      else if box s i (j + 1) ≠ 0 then mv n (sb s i j (box s i (j + 1))) i (j + 1) else (s, i, j)
theorem mv_step (n : Nat) (s : List (List Int)) (i j : Nat) : mv (n + 1) s i j = if box s (i + 1) j ≠ 0 ∧ (box s i (j + 1) = 0 ∨ box s (i + 1) j ≤ box s i (j + 1)) then mv n (sb s i j (box s (i + 1) j)) (i + 1) j
      else if box s i (j + 1) ≠ 0 then mv n (sb s i j (box s i (j + 1))) i (j + 1) else (s, i, j) := rfl

/-- Rows with one hole on its way. -/
structure Hol (h : Nat → Nat) (s : List (List Int)) (i j : Nat) : Prop where
  sk : Sk (one i j) h s
  le : h i ≤ j
  lt : j < (row s i).length
def left (s : List (List Int)) (i j : Nat) : Nat := (s.length - i) + ((row s 0).length - j)
theorem Hol.row {h : Nat → Nat} {s : List (List Int)} {i j : Nat} (k : Hol h s i j) : i < s.length := Nat.lt_of_not_le (fun c => by have := k.lt; rw [row_out c] at this; simp at this)
theorem Hol.at {h : Nat → Nat} {s : List (List Int)} {i j : Nat} (k : Hol h s i j) : (box s i (j + 1) ≠ 0 ↔ j + 1 < (Go.Proofs.Ytjciandmpfcfjaa.row s i).length) ∧ (box s (i + 1) j ≠ 0 ↔ j < (Go.Proofs.Ytjciandmpfcfjaa.row s (i + 1)).length) ∧ 0 ≤ box s i (j + 1) ∧ 0 ≤ box s (i + 1) j := by
  have h1 : j + 1 < (Go.Proofs.Ytjciandmpfcfjaa.row s i).length → 1 ≤ box s i (j + 1) := fun c => k.sk.pos i (j + 1) (by have := k.le; omega) c (fun q => by have := q.2; omega)
  have h2 : j < (Go.Proofs.Ytjciandmpfcfjaa.row s (i + 1)).length → 1 ≤ box s (i + 1) j := fun c => k.sk.pos (i + 1) j (by have := k.le; have := k.sk.hm i; omega) c (fun q => by have := q.1; omega)
  have h3 : ¬ j + 1 < (Go.Proofs.Ytjciandmpfcfjaa.row s i).length → box s i (j + 1) = 0 := fun c => box_out (by omega)
  have h4 : ¬ j < (Go.Proofs.Ytjciandmpfcfjaa.row s (i + 1)).length → box s (i + 1) j = 0 := fun c => box_out (by omega)
  by_cases c1 : j + 1 < (Go.Proofs.Ytjciandmpfcfjaa.row s i).length <;> by_cases c2 : j < (Go.Proofs.Ytjciandmpfcfjaa.row s (i + 1)).length
  · have := h1 c1; have := h2 c2; omega
  · have := h1 c1; have := h4 c2; omega
  · have := h3 c1; have := h2 c2; omega
  · have := h3 c1; have := h4 c2; omega
theorem Hol.wide {h : Nat → Nat} {s : List (List Int)} {i j : Nat} (k : Hol h s i j) : j < (Go.Proofs.Ytjciandmpfcfjaa.row s 0).length := by
  have := k.sk.shp.shorter' (a := 0) (b := i) (by omega); have := k.lt; omega
theorem Hol.down {h : Nat → Nat} {s : List (List Int)} {i j : Nat} (k : Hol h s i j) (c : box s (i + 1) j ≠ 0 ∧ (box s i (j + 1) = 0 ∨ box s (i + 1) j ≤ box s i (j + 1))) :
    Hol h (sb s i j (box s (i + 1) j)) (i + 1) j ∧ Eqv (sword h (er s i j)) (sword h (er (sb s i j (box s (i + 1) j)) (i + 1) j)) ∧ left (sb s i j (box s (i + 1) j)) (i + 1) j < left s i j := by
  obtain ⟨h1, h2, h3, h4⟩ := k.at
  have hr := h2.1 c.1
  have hri : j + 1 < (Go.Proofs.Ytjciandmpfcfjaa.row s i).length → box s (i + 1) j ≤ box s i (j + 1) := fun q => by have := h1.2 q; rcases c.2 with c2 | c2 <;> omega
  refine ⟨⟨k.sk.below k.le hr hri, by have := k.sk.hm i; have := k.le; omega, by rw [sb_len]; exact hr⟩, er_below k.sk k.le hr hri, ?_⟩
  unfold left
  rw [sb_length, sb_len]
  have : i + 1 < s.length := Nat.lt_of_not_le (fun c => by rw [row_out c] at hr; simp at hr)
  omega
theorem Hol.right {h : Nat → Nat} {s : List (List Int)} {i j : Nat} (k : Hol h s i j) (c : ¬ (box s (i + 1) j ≠ 0 ∧ (box s i (j + 1) = 0 ∨ box s (i + 1) j ≤ box s i (j + 1)))) (c2 : box s i (j + 1) ≠ 0) :
    Hol h (sb s i j (box s i (j + 1))) i (j + 1) ∧ Eqv (sword h (er s i j)) (sword h (er (sb s i j (box s i (j + 1))) i (j + 1))) ∧ left (sb s i j (box s i (j + 1))) i (j + 1) < left s i j := by
  obtain ⟨h1, h2, h3, h4⟩ := k.at
  have hr := h1.1 c2
  refine ⟨⟨k.sk.right k.le hr (fun q => by have := h2.2 q; omega), by have := k.le; omega, by rw [sb_len]; exact hr⟩, Eqv.of (by rw [er_right hr]), ?_⟩
  unfold left
  rw [sb_length, sb_len]
  have := k.wide
  have := k.sk.shp.shorter' (a := 0) (b := i) (by omega)
  omega

/-- Where the way ends. -/
structure Ends (h : Nat → Nat) (s : List (List Int)) (i j : Nat) (s' : List (List Int)) (i' j' : Nat) : Prop where
  hol : Hol h s' i' j'
  len : s'.length = s.length
  lens : ∀ a, (row s' a).length = (row s a).length
  no : box s' i' (j' + 1) = 0 ∧ box s' (i' + 1) j' = 0
  word : Eqv (sword h (er s i j)) (sword h (er s' i' j'))
theorem mv_ends : ∀ (n : Nat) (h : Nat → Nat) (s : List (List Int)) (i j : Nat), Hol h s i j → left s i j ≤ n → Ends h s i j (mv n s i j).1 (mv n s i j).2.1 (mv n s i j).2.2 := by
  intro n
  induction n with
  | zero =>
    intro h s i j k hl
    unfold left at hl
    have := k.wide
    omega
  | succ n ih =>
    intro h s i j k hl
    simp only [mv]
    by_cases c : box s (i + 1) j ≠ 0 ∧ (box s i (j + 1) = 0 ∨ box s (i + 1) j ≤ box s i (j + 1))
    · rw [if_pos c]
      obtain ⟨k1, k2, k3⟩ := k.down c
      have e := ih h _ _ _ k1 (by omega)
      exact ⟨e.hol, by rw [e.len, sb_length], fun a => by rw [e.lens, sb_len], e.no, k2.trans e.word⟩
    · rw [if_neg c]
      by_cases c2 : box s i (j + 1) ≠ 0
      · rw [if_pos c2]
        obtain ⟨k1, k2, k3⟩ := k.right c c2
        have e := ih h _ _ _ k1 (by omega)
        exact ⟨e.hol, by rw [e.len, sb_length], fun a => by rw [e.lens, sb_len], e.no, k2.trans e.word⟩
      · rw [if_neg c2]
        have z1 : box s i (j + 1) = 0 := Decidable.not_not.1 c2
        exact ⟨k, rfl, fun _ => rfl, ⟨z1, Decidable.byContradiction (fun q => c ⟨q, Or.inl z1⟩)⟩, Eqv.refl _⟩
theorem mv_more : ∀ (n : Nat) (h : Nat → Nat) (s : List (List Int)) (i j : Nat), Hol h s i j → left s i j ≤ n → mv (n + 1) s i j = mv n s i j := by
  intro n
  induction n with
  | zero =>
    intro h s i j k hl
    unfold left at hl
    have := k.wide
    omega
  | succ n ih =>
    intro h s i j k hl
    rw [mv_step (n + 1) s i j, mv_step n s i j]
    by_cases c : box s (i + 1) j ≠ 0 ∧ (box s i (j + 1) = 0 ∨ box s (i + 1) j ≤ box s i (j + 1))
    · rw [if_pos c, if_pos c]
      obtain ⟨k1, k2, k3⟩ := k.down c
      exact ih h _ _ _ k1 (by omega)
    · rw [if_neg c, if_neg c]
      by_cases c2 : box s i (j + 1) ≠ 0
      · rw [if_pos c2, if_pos c2]
        obtain ⟨k1, k2, k3⟩ := k.right c c2
        exact ih h _ _ _ k1 (by omega)
      · rw [if_neg c2, if_neg c2]

/-- The end box. -/
theorem Ends.corner {h : Nat → Nat} {s : List (List Int)} {i j : Nat} {s' : List (List Int)} {i' j' : Nat} (e : Ends h s i j s' i' j') : (row s' i').length = j' + 1 ∧ (row s' (i' + 1)).length ≤ j' := by
  obtain ⟨h1, h2, h3, h4⟩ := e.hol.at
  have := e.hol.lt
  refine ⟨Nat.le_antisymm (Nat.le_of_not_lt (fun c => h1.2 c e.no.1)) this, Nat.le_of_not_lt (fun c => h2.2 c e.no.2)⟩
theorem tk_sk {h : Nat → Nat} {s : List (List Int)} {i j : Nat} (k : Hol h s i j) (c1 : (row s i).length = j + 1) (c2 : (row s (i + 1)).length ≤ j) :
    Sk non h (tk s i) ∧ sword h (er s i j) = sword h (tk s i) ∧ ∀ a, row (tk s i) a = if a = i then (row s i).dropLast else row s a := by
  have hr := fun a => tk_row k.sk.shp k.row (by omega) a
  have hlen : ∀ a, (row (tk s i) a).length = if a = i then j else (row s a).length := fun a => by
    rw [hr]
    by_cases e : a = i
    · rw [if_pos e, if_pos e, List.length_dropLast, c1]; rfl
    · rw [if_neg e, if_neg e]
  have hbx : ∀ a b, b < (row (tk s i) a).length → box (tk s i) a b = box s a b := fun a b hb => by
    rw [hlen] at hb
    unfold box
    rw [hr]
    by_cases e : a = i
    · subst e; rw [if_pos rfl] at hb ⊢; rw [getD_drop, if_pos (by omega)]
    · rw [if_neg e]
  have hll : ∀ a, (row (tk s i) a).length ≤ (row s a).length := fun a => by
    rw [hlen]
    by_cases e : a = i
    · rw [if_pos e, e]; omega
    · rw [if_neg e]; exact Nat.le_refl _
  have hin : ∀ a b, b < (row (tk s i) a).length → ¬ one i j a b := fun a b hb q => by rw [hlen, if_pos q.1] at hb; have := q.2; omega
  have hle := k.le
  have hhl : ∀ a, h a ≤ (row (tk s i) a).length := fun a => by
    rw [hlen]
    by_cases e : a = i
    · rw [if_pos e, e]; exact hle
    · rw [if_neg e]; exact k.sk.hl a
  refine ⟨⟨?_, k.sk.hm, hhl, fun a b hb => ?_, fun a b p1 p2 _ => ?_, fun a b c p1 p2 p3 _ _ => ?_, fun a c b p1 p2 p3 _ _ => ?_⟩, ?_, hr⟩
  · refine ⟨fun a ha => ?_, fun a ha => ?_⟩
    · rw [hlen]
      unfold tk at ha
      by_cases q : (row s i).length ≤ 1
      · rw [if_pos q, List.length_take] at ha
        rw [if_neg (by omega)]; exact k.sk.shp.1 a (by omega)
      · rw [if_neg q, List.length_set] at ha
        by_cases e : a = i
        · rw [if_pos e]; omega
        · rw [if_neg e]; exact k.sk.shp.1 a ha
    · rw [hlen, hlen]
      have q := k.sk.shp.shorter' (a := a) (b := a + 1) (by omega)
      by_cases e : a = i
      · subst e; rw [if_pos rfl, if_neg (by omega)]; exact c2
      · rw [if_neg e]
        by_cases e2 : a + 1 = i
        · rw [if_pos e2]; rw [e2] at q; omega
        · rw [if_neg e2]; exact q
  · rw [hbx a b (by have := hhl a; omega)]; exact k.sk.zer a b hb
  · rw [hbx a b p2]; exact k.sk.pos a b p1 (by have := hll a; omega) (hin a b p2)
  · rw [hbx a b (by omega), hbx a c p3]; exact k.sk.along a b c p1 p2 (by have := hll a; omega) (hin a b (by omega)) (hin a c p3)
  · have q : b < (row (tk s i) a).length := by
      have z := k.sk.shp.shorter' (a := a) (b := c) (by omega)
      rw [hlen] at p3 ⊢
      by_cases e : a = i
      · subst e; rw [if_pos rfl]; rw [if_neg (by omega)] at p3
        have := k.sk.shp.shorter' (a := a + 1) (b := c) (by omega)
        omega
      · rw [if_neg e]
        by_cases e2 : c = i
        · subst e2; rw [if_pos rfl] at p3; omega
        · rw [if_neg e2] at p3; omega
    rw [hbx a b q, hbx c b p3]; exact k.sk.down a c b p1 p2 (by have := hll c; omega) (hin a b q) (hin c b p3)
  · have e1 : (row s i).eraseIdx j = (row s i).dropLast := by
      rw [erase_at _ j, List.drop_eq_nil_of_le (by omega), List.append_nil, List.dropLast_eq_take, c1]
      rfl
    unfold er tk
    rw [e1]
    by_cases q : (row s i).length ≤ 1
    · rw [if_pos q]
      have hj : j = 0 := by omega
      have hs : s.length = i + 1 := by
        refine Nat.le_antisymm (Nat.le_of_not_lt (fun c => ?_)) k.row
        have := k.sk.shp.1 (i + 1) c
        omega
      rw [sword1 h k.row]
      rw [List.drop_eq_nil_of_le (by omega)]
      have : (row s i).dropLast = [] := List.eq_nil_of_length_eq_zero (by rw [List.length_dropLast]; omega)
      rw [this]
      simp [sword]
    · rw [if_neg q]

end Go.Proofs.Ytjciandmpfcfjaa

namespace Go.Proofs.Ytjciandmpfcfjaa

theorem sword_zero : ∀ (t : List (List Int)), sword (fun _ => 0) t = wrd t := by
  intro t
  induction t with
  | nil => rfl
  | cons r t ih => rw [wrd_cons, ← ih]; rfl
theorem wrd_mem {t : List (List Int)} {z : Int} : z ∈ wrd t ↔ z ∈ t.flatten := by simp [wrd]
theorem wrd_perm (t : List (List Int)) : (wrd t).Perm t.flatten := (List.reverse_perm t).flatten
theorem wrd_app (u v : List (List Int)) : wrd (u ++ v) = wrd v ++ wrd u := by simp [wrd]
theorem wrd_map (f : Int → Int) (t : List (List Int)) : wrd (t.map (List.map f)) = (wrd t).map f := by
  unfold wrd
  rw [← List.map_reverse, List.map_flatten]

/-- A tableau has no holes. -/
theorem T_sk {t : List (List Int)} (h : T t) (h1 : ∀ z ∈ t.flatten, 1 ≤ z) (X : Nat → Nat → Prop) : Sk X (fun _ => 0) t := by
  have hin : ∀ {a b}, b < (row t a).length → a < t.length := fun {a b} hb => Nat.lt_of_not_le (fun c => by rw [row_out c] at hb; simp at hb)
  have hr := T_row.1 h
  refine ⟨h.shp, fun _ => Nat.le_refl _, fun _ => Nat.zero_le _, fun a b hb => by omega, fun a b _ hb _ => h1 _ (box_mem (hin hb) hb), fun a b c _ h2 h3 _ _ => ((hr a (hin h3)).2.1).le (by omega) h3, fun a c b h2 _ h3 _ _ => ?_⟩
  have key : ∀ d, a + d + 1 < t.length → b < (row t (a + d + 1)).length → box t a b < box t (a + d + 1) b := by
    intro d
    induction d with
    | zero => intro q1 q2; exact (hr a (by omega)).2.2.2 b q2
    | succ d ih =>
      intro q1 q2
      have q3 := h.shp.shorter' (a := a + d + 1) (b := a + (d + 1) + 1) (by omega)
      have q4 := ih (by omega) (by omega)
      have q5 := (hr (a + d + 1) (by omega)).2.2.2 b (by rw [show a + d + 1 + 1 = a + (d + 1) + 1 by omega]; exact q2)
      rw [show a + d + 1 + 1 = a + (d + 1) + 1 by omega] at q5
      unfold box at q4 ⊢
      omega
  have := key (c - a - 1) (by have := hin h3; omega) (by rw [show a + (c - a - 1) + 1 = c by omega]; exact h3)
  rw [show a + (c - a - 1) + 1 = c by omega] at this
  exact this
theorem sk_T {t : List (List Int)} (h : Sk non (fun _ => 0) t) : T t := by
  refine T_row.2 (fun i hi => ⟨h.shp.1 i hi, fun j hj => h.along i j (j + 1) (by omega) (by omega) hj (fun q => q) (fun q => q), h.shp.shorter' (by omega), fun j hj => h.down i (i + 1) j (by omega) (by omega) hj (fun q => q) (fun q => q)⟩)
theorem sk_pos {t : List (List Int)} {h : Nat → Nat} (k : Sk non h t) : ∀ z ∈ sword h t, 1 ≤ z := by
  have gen : ∀ (t : List (List Int)) (h : Nat → Nat), (∀ a b, h a ≤ b → b < (row t a).length → 1 ≤ box t a b) → ∀ z ∈ sword h t, 1 ≤ z := by
    intro t
    induction t with
    | nil => intro h _ z hz; simp [sword] at hz
    | cons r t ih =>
      intro h hp z hz
      simp only [sword, List.mem_append] at hz
      rcases hz with hz | hz
      · exact ih _ (fun a b h1 h2 => by have := hp (a + 1) b h1 (by simpa [row] using h2); simpa [box, row] using this) z hz
      · obtain ⟨m, hm, rfl⟩ := List.mem_iff_getElem.1 hz
        have := hp 0 (h 0 + m) (by omega) (by simp [row]; simp at hm; omega)
        simp at hm
        simpa [box, row, List.getD, List.getElem?_eq_getElem (show h 0 + m < r.length by omega)] using this
  exact gen t h (fun a b h1 h2 => k.pos a b h1 h2 (fun q => q))

/-- The letters up to k. -/
def rs (k : Int) : List (List Int) → List (List Int)
  | [] => []
  | r :: t => if spot false k r = 0 then [] else r.take (spot false k r) :: rs k t
theorem filter_spot {r : List Int} (h : Srt r) (k : Int) : r.filter (fun z => decide (z ≤ k)) = r.take (spot false k r) := by
  have hs := spot_has k r
  conv => lhs; rw [← List.take_append_drop (spot false k r) r]
  rw [List.filter_append, List.filter_eq_self.2 (fun z hz => ?_), List.filter_eq_nil_iff.2 (fun z hz => ?_), List.append_nil]
  · obtain ⟨m, hm, rfl⟩ := List.mem_iff_getElem.1 hz
    simp at hm
    have := h.le (i := spot false k r) (j := spot false k r + m) (by omega) (by omega)
    have h2 := hs.stop (by omega)
    simp [List.getD, List.getElem?_eq_getElem (show spot false k r + m < r.length by omega)] at this
    simp only [List.getElem_drop, decide_eq_true_eq]
    simp [List.getD] at h2
    omega
  · obtain ⟨m, hm, rfl⟩ := List.mem_iff_getElem.1 hz
    simp at hm
    have h2 := hs.pass m (by omega)
    simp [List.getD, List.getElem?_eq_getElem (show m < r.length by omega)] at h2
    simpa using h2
theorem rs_none {r : List Int} {t : List (List Int)} {k : Int} (h : T (r :: t)) (h0 : spot false k r = 0) : ∀ z ∈ (r :: t).flatten, k < z := by
  have gen : ∀ (t : List (List Int)) (r : List Int) (k : Int), T (r :: t) → k < r.getD 0 0 → ∀ z ∈ (r :: t).flatten, k < z := by
    intro t
    induction t with
    | nil =>
      intro r k h hk z hz
      simp at hz
      obtain ⟨m, hm, rfl⟩ := List.mem_iff_getElem.1 hz
      have := h.2.1.le (i := 0) (j := m) (by omega) hm
      simp [List.getD, List.getElem?_eq_getElem hm] at this hk
      omega
    | cons u t ih =>
      intro r k h hk z hz
      rw [List.flatten_cons, List.mem_append] at hz
      rcases hz with hz | hz
      · obtain ⟨m, hm, rfl⟩ := List.mem_iff_getElem.1 hz
        have := h.2.1.le (i := 0) (j := m) (by omega) hm
        simp [List.getD, List.getElem?_eq_getElem hm] at this hk
        omega
      · refine ih u k h.2.2.2 ?_ z hz
        have := h.2.2.1.2 0 h.2.2.2.1
        simp at this hk ⊢
        omega
  refine gen t r k h ?_
  have := (spot_has k r).stop (by rw [h0]; exact h.1)
  rw [h0] at this; exact this
theorem wrd_rs : ∀ (t : List (List Int)) (k : Int), T t → wrd (rs k t) = (wrd t).filter (fun z => decide (z ≤ k)) := by
  intro t
  induction t with
  | nil => intro k _; rfl
  | cons r t ih =>
    intro k h
    unfold rs
    by_cases c : spot false k r = 0
    · rw [if_pos c]
      have := rs_none h c
      rw [List.filter_eq_nil_iff.2 (fun z hz => by have := this z (wrd_mem.1 hz); simp; omega)]
      rfl
    · rw [if_neg c, wrd_cons, wrd_cons, List.filter_append, ih k h.2.2.2, filter_spot h.2.1]
theorem T_rs : ∀ (t : List (List Int)) (k : Int), T t → T (rs k t) := by
  intro t
  induction t with
  | nil => intro k _; trivial
  | cons r t ih =>
    intro k h
    unfold rs
    have hs := spot_has k r
    by_cases c : spot false k r = 0
    · rw [if_pos c]; trivial
    · rw [if_neg c]
      have hl : (r.take (spot false k r)).length = spot false k r := by rw [List.length_take]; have := hs.le; omega
      refine ⟨by omega, fun j hj => ?_, ?_, ih k h.2.2.2⟩
      · rw [hl] at hj
        rw [take_getD' _ _ _ (by omega), take_getD' _ _ _ hj]; exact h.2.1 j (by have := hs.le; omega)
      · cases t with
        | nil => exact dn_nil _
        | cons u t =>
          unfold rs
          by_cases c2 : spot false k u = 0
          · rw [if_pos c2]; exact dn_nil _
          · rw [if_neg c2]
            have hu := spot_has k u
            have hd := h.2.2.1
            simp only [List.headD_cons] at hd ⊢
            have hl2 : (u.take (spot false k u)).length = spot false k u := by rw [List.length_take]; have := hu.le; omega
            have hle : spot false k u ≤ spot false k r := Nat.le_of_not_lt (fun q => by
              have q1 := hu.pass (spot false k r) q
              have q2 := hs.stop (by have := hu.le; have := hd.1; omega)
              have q3 := hd.2 (spot false k r) (by have := hu.le; omega)
              omega)
            refine ⟨by omega, fun j hj => ?_⟩
            rw [hl2] at hj
            rw [take_getD' _ _ _ (by omega), take_getD' _ _ _ hj]
            exact hd.2 j (by have := hu.le; omega)
theorem rs_box : ∀ (t : List (List Int)) (k : Int), T t → ∀ a b, (b < (row (rs k t) a).length ↔ b < (row t a).length ∧ box t a b ≤ k) ∧ (b < (row (rs k t) a).length → box (rs k t) a b = box t a b) := by
  intro t
  induction t with
  | nil => intro k _ a b; simp [rs, row]
  | cons r t ih =>
    intro k h a b
    unfold rs
    have hs := spot_has k r
    by_cases c : spot false k r = 0
    · rw [if_pos c]
      have hn := rs_none h c
      refine ⟨⟨fun q => by simp [row] at q, fun q => ?_⟩, fun q => by simp [row] at q⟩
      have := hn _ (box_mem (Nat.lt_of_not_le (fun e => by rw [row_out e] at q; simp at q)) q.1)
      omega
    · rw [if_neg c]
      have hl : (r.take (spot false k r)).length = spot false k r := by rw [List.length_take]; have := hs.le; omega
      cases a with
      | zero =>
        show (b < (r.take (spot false k r)).length ↔ b < r.length ∧ r.getD b 0 ≤ k) ∧ (b < (r.take (spot false k r)).length → (r.take (spot false k r)).getD b 0 = r.getD b 0)
        rw [hl]
        refine ⟨⟨fun q => ⟨by have := hs.le; omega, hs.pass b q⟩, fun q => Nat.lt_of_not_le (fun e => ?_)⟩, fun q => take_getD' _ _ _ q⟩
        have q1 := hs.stop (by omega)
        have q2 := h.2.1.le e q.1
        omega
      | succ a =>
        exact ih k h.2.2.2 a b

/-- Turned over and read from behind the shape stays. -/
def sameShape (t u : List (List Int)) : Prop := ∀ a, (row t a).length = (row u a).length
theorem len_of_iff {m n : Nat} (h : ∀ b, b < m ↔ b < n) : m = n := by
  rcases Nat.lt_trichotomy m n with c | c | c
  · have := (h m).2 c; omega
  · exact c
  · have := (h n).1 c; omega
theorem cols_shape {t u : List (List Int)} (ht : Shp t) (hu : Shp u) (h : sameShape t u) : sameShape (cols t) (cols u) := fun c =>
  len_of_iff (fun a => by rw [cols_len ht c a, cols_len hu c a, h a])
theorem cols_shape2 {t u : List (List Int)} (ht : Shp t) (hu : Shp u) (h : sameShape t (cols u)) : sameShape (cols t) u := fun c =>
  len_of_iff (fun a => by
    rw [cols_len ht c a, h a, cols_len hu a c])
def swp (l : List (Int × Int)) : List (Int × Int) := l.map (fun c => (c.2, c.1))
/-- In order of the firsts. -/
theorem sorted_pairs (l : List (Int × Int)) (h : (l.map Prod.fst).Nodup) : ∃ m, m.Perm l ∧ Asc m := by
  refine ⟨l.mergeSort (fun a b => decide (a.1 ≤ b.1)), List.mergeSort_perm l _, ?_⟩
  have h1 := List.pairwise_mergeSort (le := fun (a b : Int × Int) => decide (a.1 ≤ b.1)) (fun a b c p q => by simp at p q ⊢; omega) (fun a b => by simp; omega) l
  have h2 : ((l.mergeSort (fun a b => decide (a.1 ≤ b.1))).map Prod.fst).Nodup := ((List.mergeSort_perm l _).map Prod.fst).nodup_iff.2 h
  unfold Asc
  have h3 : (l.mergeSort (fun a b => decide (a.1 ≤ b.1))).Pairwise (fun a b => a.1 ≠ b.1) := by
    unfold List.Nodup at h2; rw [List.pairwise_map] at h2; exact h2
  exact (h1.and h3).imp (fun p => by have := p.1; simp at this; have := p.2; omega)
theorem put1_fst : ∀ (l : List (Int × Int)) (s : List (List Int) × List (List Int)), (l.foldl put1 s).1 = insW s.1 (l.map Prod.snd) := by
  intro l
  induction l with
  | nil => intro s; rfl
  | cons c l ih => intro s; rw [List.foldl_cons, ih]; rfl
theorem mk_fst (l : List (Int × Int)) : (mk l).1 = insW [] (l.map Prod.snd) := put1_fst l _
def numP (w : List Int) : List (Int × Int) := (List.range w.length).map (fun i => (((i : Nat) : Int) + 1, w.getD i 0))
theorem numP_snd (w : List Int) : (numP w).map Prod.snd = w := by
  refine ext_getD (by simp [numP]) (fun j hj => ?_)
  simp [numP] at hj
  simp [numP, List.getD, hj]
theorem numP_asc (w : List Int) : Asc (numP w) := by
  unfold Asc numP
  rw [List.pairwise_map]
  exact List.pairwise_lt_range.imp (fun p => by simp; omega)
theorem comp_shape {w : List Int} (hn : w.Nodup) (c : Int) : sameShape (insW [] (w.map (fun z => c - z))) (cols (insW [] w)) := by
  obtain ⟨l, hl⟩ : ∃ l, l = numP w := ⟨_, rfl⟩
  have hlA : Asc l := hl ▸ numP_asc w
  have hl2 : l.map Prod.snd = w := hl ▸ numP_snd w
  obtain ⟨m, hm, hmA⟩ := sorted_pairs (swp l) (by unfold swp; rw [List.map_map]; simpa [Function.comp_def] using hl2 ▸ hn)
  have e1 := mk_swap m.length l m rfl hlA hmA hm
  -- the other one
  obtain ⟨lc, hlc⟩ : ∃ lc, lc = l.map (fun d => (d.1, c - d.2)) := ⟨_, rfl⟩
  have hlcA : Asc lc := by rw [hlc]; unfold Asc; rw [List.pairwise_map]; exact hlA
  have hlc2 : lc.map Prod.snd = w.map (fun z => c - z) := by rw [hlc, ← hl2, List.map_map, List.map_map]; rfl
  obtain ⟨mc, hmc⟩ : ∃ mc, mc = (m.map (fun d => (c - d.1, d.2))).reverse := ⟨_, rfl⟩
  have hmcA : Asc mc := by
    rw [hmc]; unfold Asc; rw [List.pairwise_reverse, List.pairwise_map]
    exact List.Pairwise.imp (fun p => by simp; omega) hmA
  have hmcp : mc.Perm (lc.map (fun d => (d.2, d.1))) := by
    rw [hmc, hlc]
    refine (List.reverse_perm _).trans ?_
    have := hm.map (fun d : Int × Int => (c - d.1, d.2))
    unfold swp at this
    rw [List.map_map] at this ⊢
    exact this
  have e2 := mk_swap mc.length lc mc rfl hlcA hmcA hmcp
  have hmn : (m.map Prod.snd).Nodup := by
    refine ((hm.map Prod.snd).nodup_iff).2 ?_
    unfold swp
    rw [List.map_map]
    have : (l.map Prod.fst).Nodup := by
      unfold List.Nodup; rw [List.pairwise_map]; exact List.Pairwise.imp (fun p => by omega) hlA
    simpa [Function.comp_def] using this
  have e3 : (mk mc).1 = cols (mk m).1 := by
    rw [mk_fst, mk_fst, hmc, List.map_reverse, List.map_map]
    have := insW_rev (m.map Prod.snd) hmn
    simpa [Function.comp_def] using this
  have M1 := (mk_made _ l rfl hlA.ordered).1
  have M2 := (mk_made _ lc rfl hlcA.ordered).1
  have f1 : insW [] (w.map (fun z => c - z)) = (mk lc).1 := by rw [mk_fst, hlc2]
  have f2 : insW [] w = (mk l).1 := by rw [mk_fst, hl2]
  rw [f1, f2]
  intro a
  rw [M2.lens a]
  have g1 : (mk lc).2 = cols (mk l).2 := by
    have := congrArg Prod.fst e2; simp only at this
    have := congrArg Prod.fst e1; simp only at this
    rw [← ‹(mk mc).1 = (mk lc).2›, e3, this]
  rw [g1]
  exact cols_shape M1.tq.shp M1.tp.shp (fun i => (M1.lens i).symm) a
theorem star_shape {w : List Int} (hn : w.Nodup) (c : Int) : sameShape (insW [] (star c w)) (insW [] w) := by
  have hn2 : (w.map (fun z => c - z)).Nodup := by
    unfold List.Nodup at hn ⊢; rw [List.pairwise_map]; exact hn.imp (fun p => by omega)
  unfold star
  rw [insW_rev _ hn2]
  exact cols_shape2 (insW_T _ [] trivial).shp (insW_T _ [] trivial).shp (comp_shape hn c)

end Go.Proofs.Ytjciandmpfcfjaa
