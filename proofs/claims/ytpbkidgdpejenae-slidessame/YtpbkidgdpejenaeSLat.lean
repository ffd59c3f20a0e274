/-
  The least sameness that KNUTH'S steps keep; a row's word put in; a step of a slide downwards: plain facts.
  Slides: rows with holes, a hole that goes its way, what the word becomes: plain facts.
  A slide's way from its hole to its end: the word stays as KNUTH'S steps leave it: plain facts.
  Tableaux of which some letters are left out; SCHUETZENBERGER'S turning over keeps the shape: plain facts.
  Skew tableaux, slides from their corners, what is left when no hole is: plain facts.
  SCHUETZENBERGER'S evacuation, slide by slide, is the word turned over: plain facts.
  In which order the holes may go: plain facts.
-/
import Derived.Test.YtpbkidgdpejenaeISym
namespace Go.Proofs.Ytpbkidgdpejenae

/-- As KNUTH'S steps make it. -/
def Eqv (u v : List Int) : Prop := ∀ R : List Int → List Int → Prop, Plac R → R u v
theorem plac_E : Plac Eqv := ⟨fun u _ h => h.refl u, fun k R h => h.symm (k R h), fun k l R h => h.trans (k R h) (l R h), fun a b _ _ k R h => h.app a b (k R h), fun k _ h => h.k3 k⟩
theorem Eqv.refl (u : List Int) : Eqv u u := plac_E.refl u
theorem Eqv.of {u v : List Int} (h : u = v) : Eqv u v := h ▸ Eqv.refl u
theorem Eqv.symm {u v : List Int} (h : Eqv u v) : Eqv v u := plac_E.symm h
theorem Eqv.trans {u v w : List Int} (h : Eqv u v) (k : Eqv v w) : Eqv u w := plac_E.trans h k
theorem Eqv.P {u v : List Int} (h : Eqv u v) : insW [] u = insW [] v := by
  have := h SameP plac_P [] []
  simpa using this
theorem eqv_word (w : List Int) : Eqv w (wrd (insW [] w)) := fun _ h => word_of h w

/-- What is said of a word's letters alone. -/
theorem Eqv.perm {u v : List Int} (h : Eqv u v) : u.Perm v := by
  refine h (fun u v => u.Perm v) ⟨fun u => List.Perm.refl u, fun h => h.symm, fun h k => h.trans k, fun a b u v k => (List.Perm.append_left a k).append_right b, fun {u v} k => ?_⟩
  rcases k with ⟨x, y, z, _, _, rfl, rfl⟩ | ⟨x, y, z, _, _, rfl, rfl⟩
  · exact List.Perm.cons _ (List.Perm.swap _ _ _)
  · exact List.Perm.swap _ _ _

/-- Letters of an interval alone. -/
theorem Eqv.filter {u v : List Int} (h : Eqv u v) (p : Int → Bool) (hp : ∀ x y z : Int, x ≤ y → y ≤ z → p x = true → p z = true → p y = true) : Eqv (u.filter p) (v.filter p) := by
  refine h (fun u v => Eqv (u.filter p) (v.filter p)) ⟨fun u => Eqv.refl _, fun h => h.symm, fun h k => h.trans k, fun a b u v k => ?_, fun {u v} k => ?_⟩
  · simp only [List.filter_append]; exact plac_E.app _ _ k
  · rcases k with ⟨x, y, z, h1, h2, rfl, rfl⟩ | ⟨x, y, z, h1, h2, rfl, rfl⟩
    · cases hx : p x <;> cases hy : p y <;> cases hz : p z <;> simp only [List.filter_cons, List.filter_nil, hx, hy, hz, if_true] <;> (try exact Eqv.refl _)
      · exact absurd (hp x y z (by omega) h2 hx hz) (by rw [hy]; simp)
      · exact plac_E.k3 (Or.inl ⟨x, y, z, h1, h2, rfl, rfl⟩)
    · cases hx : p x <;> cases hy : p y <;> cases hz : p z <;> simp only [List.filter_cons, List.filter_nil, hx, hy, hz, if_true] <;> (try exact Eqv.refl _)
      · exact absurd (hp x y z h1 (by omega) hx hz) (by rw [hy]; simp)
      · exact plac_E.k3 (Or.inr ⟨x, y, z, h1, h2, rfl, rfl⟩)

/-- Letters moved along. -/
theorem Eqv.shift {u v : List Int} (h : Eqv u v) (d : Int) : Eqv (u.map (· + d)) (v.map (· + d)) := by
  refine h (fun u v => Eqv (u.map (· + d)) (v.map (· + d))) ⟨fun u => Eqv.refl _, fun h => h.symm, fun h k => h.trans k, fun a b u v k => ?_, fun {u v} k => ?_⟩
  · simp only [List.map_append]; exact plac_E.app _ _ k
  · rcases k with ⟨x, y, z, h1, h2, rfl, rfl⟩ | ⟨x, y, z, h1, h2, rfl, rfl⟩
    · exact plac_E.k3 (Or.inl ⟨x + d, y + d, z + d, by omega, by omega, rfl, rfl⟩)
    · exact plac_E.k3 (Or.inr ⟨x + d, y + d, z + d, by omega, by omega, rfl, rfl⟩)

/-- Read from behind, the letters turned over. -/
def star (c : Int) (w : List Int) : List Int := (w.map (fun z => c - z)).reverse
theorem star_app (c : Int) (u v : List Int) : star c (u ++ v) = star c v ++ star c u := by simp [star]
theorem star_star (c : Int) (w : List Int) : star c (star c w) = w := by
  unfold star
  rw [List.map_reverse, List.reverse_reverse, List.map_map]
  conv => rhs; rw [← List.map_id w]
  exact List.map_congr_left (fun z _ => by simp; omega)
theorem Eqv.star {u v : List Int} (h : Eqv u v) (c : Int) : Eqv (star c u) (star c v) := by
  refine h (fun u v => Eqv (Go.Proofs.Ytpbkidgdpejenae.star c u) (Go.Proofs.Ytpbkidgdpejenae.star c v)) ⟨fun u => Eqv.refl _, fun h => h.symm, fun h k => h.trans k, fun a b u v k => ?_, fun {u v} k => ?_⟩
  · simp only [star_app, ← List.append_assoc]; exact plac_E.app _ _ k
  · rcases k with ⟨x, y, z, h1, h2, rfl, rfl⟩ | ⟨x, y, z, h1, h2, rfl, rfl⟩
    · exact plac_E.symm (plac_E.symm (by
        have : Eqv [c - z, c - x, c - y] [c - x, c - z, c - y] := plac_E.k3 (Or.inr ⟨c - z, c - y, c - x, by omega, by omega, rfl, rfl⟩)
        simpa [Go.Proofs.Ytpbkidgdpejenae.star] using this))
    · have : Eqv [c - y, c - z, c - x] [c - y, c - x, c - z] := plac_E.k3 (Or.inl ⟨c - z, c - y, c - x, by omega, by omega, rfl, rfl⟩)
      simpa [Go.Proofs.Ytpbkidgdpejenae.star] using this

/-- A row put in under which another one stands. -/
theorem rw_dn : ∀ (r u p : List Int), Srt (p ++ r) → Dn r u → rwW (p ++ u) r = (p ++ r, u) := by
  intro r
  induction r with
  | nil =>
    intro u p _ h
    have hu : u = [] := List.eq_nil_of_length_eq_zero (by have := h.1; simp at this; simp [this])
    subst hu; rfl
  | cons x r ih =>
    intro u p hs hd
    have hp : ∀ j, j < p.length → p.getD j 0 ≤ x := fun j hj => by
      have h1 := hs.le (i := j) (j := p.length) (by omega) (by simp)
      have e1 : (p ++ x :: r).getD j 0 = p.getD j 0 := by simp [List.getD, List.getElem?_append_left hj]
      have e2 : (p ++ x :: r).getD p.length 0 = x := by simp [List.getD]
      rw [e1, e2] at h1; exact h1
    have hs' : Srt ((p ++ [x]) ++ r) := by simpa using hs
    cases u with
    | nil =>
      have e : spot false x (p ++ []) = (p ++ []).length := spot_all (fun j hj => by simp at hj ⊢; simpa using hp j hj)
      simp only [rwW, e]
      rw [bump_no rfl]
      have e2 : put (p ++ []).length x (p ++ []) = (p ++ [x]) ++ [] := by unfold put; simp
      rw [e2, ih [] (p ++ [x]) hs' (dn_nil r)]
      simp
    | cons y u =>
      have hxy : x < y := by have := hd.2 0 (by simp); simpa using this
      have e : spot false x (p ++ y :: u) = p.length := Spot.is ⟨by simp, fun j hj => by
        have := hp j hj
        simpa [List.getD, List.getElem?_append_left hj] using this, fun _ => by simpa [List.getD] using hxy⟩
      simp only [rwW, e]
      rw [bump_yes (by simp)]
      have e2 : put p.length x (p ++ y :: u) = (p ++ [x]) ++ u := by unfold put; rw [if_neg (by simp)]; simp
      rw [e2, ih u (p ++ [x]) hs' ⟨by have := hd.1; simp at this; omega, fun j hj => by have := hd.2 (j + 1) (by simpa using hj); simpa using this⟩]
      simp [List.getD]

/-- A tableau's word makes it. -/
theorem insW_rowT : ∀ (t : List (List Int)) (r : List Int), T (r :: t) → insW t r = r :: t := by
  intro t
  induction t with
  | nil =>
    intro r h
    rw [insW_empty (fun e => by have := h.1; rw [e] at this; simp at this), insW_row]
    have := rw_dn r [] [] (by simpa using h.2.1) (dn_nil r)
    simp at this
    rw [this]; rfl
  | cons u t ih =>
    intro r h
    rw [insW_row]
    have := rw_dn r u [] (by simpa using h.2.1) (by simpa using h.2.2.1)
    simp at this
    rw [this]
    simp only
    rw [ih u h.2.2.2]
theorem wrd_T : ∀ (t : List (List Int)), T t → insW [] (wrd t) = t := by
  intro t
  induction t with
  | nil => intro _; rfl
  | cons r t ih => intro h; rw [wrd_cons, insW_app, ih h.2.2.2, insW_rowT t r h]
theorem T_uniq {t u : List (List Int)} (ht : T t) (hu : T u) (h : Eqv (wrd t) (wrd u)) : t = u := by
  rw [← wrd_T t ht, ← wrd_T u hu]; exact h.P

/-- One of the first, one of the second, and so on. -/
def zipI : List Int → List Int → List Int
  | d :: D, a :: A => d :: a :: zipI D A
  | _, _ => []
theorem zip_left {R : List Int → List Int → Prop} (h : Plac R) : ∀ (D A E : List Int), Srt (D ++ E) → A.length = D.length → (∀ k, k < A.length → A.getD k 0 < D.getD k 0) → R (D ++ E ++ A) (zipI D A ++ E) := by
  intro D
  induction D with
  | nil =>
    intro A E _ hl _
    have hA : A = [] := List.eq_nil_of_length_eq_zero (by simpa using hl)
    subst hA; simp [zipI]; exact h.refl _
  | cons d D ih =>
    intro A E hs hl hlt
    cases A with
    | nil => simp at hl
    | cons a A =>
      have h0 : a < d := by have := hlt 0 (by simp); simpa using this
      have h1 : R (d :: (D ++ E) ++ [a]) (d :: a :: (D ++ E)) := pass_left h a (D ++ E) d (by simpa using hs) h0
      have h2 := h.right A h1
      have h3 := ih A E (Srt.tail (x := d) (by simpa using hs)) (by simpa using hl) (fun k hk => by have := hlt (k + 1) (by simpa using hk); simpa using this)
      have h4 := h.left [d, a] h3
      simp only [zipI]
      refine h.trans (by simpa using h2) (by simpa using h4)
theorem zip_right {R : List Int → List Int → Prop} (h : Plac R) : ∀ (E C B : List Int), Srt (B ++ C) → E.length = C.length → (∀ k, k < C.length → C.getD k 0 < E.getD k 0) → R (B ++ zipI E C) (E ++ B ++ C) := by
  intro E
  induction E with
  | nil =>
    intro C B _ hl _
    have hC : C = [] := List.eq_nil_of_length_eq_zero (by simpa using hl.symm)
    subst hC; simp [zipI]; exact h.refl _
  | cons e E ih =>
    intro C B hs hl hlt
    cases C with
    | nil => simp at hl
    | cons c C =>
      have h0 : c < e := by have := hlt 0 (by simp); simpa using this
      have hs' : Srt ((B ++ [c]) ++ C) := by simpa using hs
      have hs1 : Srt (B ++ [c]) := fun j hj => by
        have := hs' j (by rw [List.length_append]; omega)
        rw [List.getD, List.getD, List.getElem?_append_left (by omega), List.getElem?_append_left hj] at this
        exact this
      have h1 := h.right (zipI E C) (pass_right h e B c hs1 h0)
      have h2 := h.left [e] (ih C (B ++ [c]) hs' (by simpa using hl) (fun k hk => by have := hlt (k + 1) (by simpa using hk); simpa using this))
      simp only [zipI]
      refine h.trans (by simpa using h1) (by simpa using h2)

/-- A letter goes up into the hole over it. -/
theorem up_word {R : List Int → List Int → Prop} (h : Plac R) {D A E C : List Int} {b : Int} (hs : Srt (D ++ b :: E)) (hs2 : Srt (D ++ E)) (hc : Srt (b :: C)) (hl : A.length = D.length) (hl2 : E.length = C.length)
    (ha : ∀ k, k < A.length → A.getD k 0 < D.getD k 0) (he : ∀ k, k < C.length → C.getD k 0 < E.getD k 0) : R (D ++ b :: E ++ A ++ C) (D ++ E ++ A ++ b :: C) := by
  have hsE : Srt (E ++ []) := by
    rw [List.append_nil]
    intro j hj
    have := hs2 (D.length + j) (by rw [List.length_append]; omega)
    rw [List.getD, List.getD, List.getElem?_append_right (by omega), List.getElem?_append_right (by omega)] at this
    rw [show D.length + j - D.length = j by omega, show D.length + j + 1 - D.length = j + 1 by omega] at this
    exact this
  have h1 := h.right C (zip_left h D A (b :: E) hs hl ha)
  have h2 := zip_left h E C [] hsE hl2.symm he
  have h3 := h.left [b] h2
  have h4 := zip_right h E C [b] (by simpa using hc) hl2 he
  have h5 : R ([b] ++ (E ++ C)) (E ++ [b] ++ C) := by
    refine h.trans (by simpa using h3) (by simpa using h4)
  have h6 := h.left (zipI D A) h5
  have h7 := h.right (b :: C) (zip_left h D A E hs2 hl ha)
  refine h.trans (by simpa using h1) (h.trans (by simpa using h6) (h.symm (by simpa using h7)))

end Go.Proofs.Ytpbkidgdpejenae

namespace Go.Proofs.Ytpbkidgdpejenae

/-- Another letter in one box. -/
def sb (s : List (List Int)) (i j : Nat) (x : Int) : List (List Int) := s.set i ((row s i).set j x)
theorem sb_length (s : List (List Int)) (i j : Nat) (x : Int) : (sb s i j x).length = s.length := by simp [sb]
theorem set_row (s : List (List Int)) (i : Nat) (r : List Int) (a : Nat) : row (s.set i r) a = if a = i ∧ i < s.length then r else row s a := by
  unfold row
  simp only [List.getD, List.getElem?_set]
  by_cases e : i = a
  · subst e
    by_cases e2 : i < s.length
    · simp [e2]
    · simp [e2]
  · rw [if_neg e, if_neg (fun k => e k.1.symm)]
theorem sb_row (s : List (List Int)) (i j : Nat) (x : Int) (a : Nat) : row (sb s i j x) a = if a = i then (row s i).set j x else row s a := by
  unfold sb
  rw [set_row]
  by_cases e : a = i
  · subst e
    by_cases e2 : a < s.length
    · rw [if_pos ⟨rfl, e2⟩, if_pos rfl]
    · rw [if_neg (fun k => e2 k.2), if_pos rfl, row_out (by omega)]; simp
  · rw [if_neg (fun k => e k.1), if_neg e]
theorem sb_len (s : List (List Int)) (i j : Nat) (x : Int) (a : Nat) : (row (sb s i j x) a).length = (row s a).length := by
  rw [sb_row]
  by_cases e : a = i
  · rw [if_pos e, e]; simp
  · rw [if_neg e]
theorem sb_box {s : List (List Int)} {i j : Nat} (hj : j < (row s i).length) (x : Int) (a b : Nat) : box (sb s i j x) a b = if a = i ∧ b = j then x else box s a b := by
  unfold box
  rw [sb_row]
  by_cases e : a = i
  · subst e
    rw [if_pos rfl, getD_set]
    by_cases e2 : b = j
    · rw [if_pos ⟨e2, hj⟩, if_pos ⟨rfl, e2⟩]
    · rw [if_neg (fun k => e2 k.1), if_neg (fun k => e2 k.2)]
  · rw [if_neg e, if_neg (fun k => e k.1)]
theorem sb_shp {s : List (List Int)} (h : Shp s) (i j : Nat) (x : Int) : Shp (sb s i j x) := by
  refine ⟨fun a ha => ?_, fun a ha => ?_⟩
  · rw [sb_len]; rw [sb_length] at ha; exact h.1 a ha
  · rw [sb_len, sb_len]; rw [sb_length] at ha; exact h.2 a ha

/-- Rows of letters behind holes: as many in row a as h says; what stands in the boxes X is left open. -/
structure Sk (X : Nat → Nat → Prop) (h : Nat → Nat) (s : List (List Int)) : Prop where
  shp : Shp s
  hm : ∀ a, h (a + 1) ≤ h a
  hl : ∀ a, h a ≤ (row s a).length
  zer : ∀ a b, b < h a → box s a b = 0
  pos : ∀ a b, h a ≤ b → b < (row s a).length → ¬ X a b → 1 ≤ box s a b
  along : ∀ a b c, h a ≤ b → b < c → c < (row s a).length → ¬ X a b → ¬ X a c → box s a b ≤ box s a c
  down : ∀ a c b, a < c → h a ≤ b → b < (row s c).length → ¬ X a b → ¬ X c b → box s a b < box s c b
def one (i j : Nat) : Nat → Nat → Prop := fun a b => a = i ∧ b = j
def non : Nat → Nat → Prop := fun _ _ => False

theorem Sk.mono {X : Nat → Nat → Prop} {h : Nat → Nat} {s : List (List Int)} (k : Sk X h s) {a c : Nat} (hac : a ≤ c) : h c ≤ h a := by
  induction c with
  | zero => obtain rfl : a = 0 := by omega
            exact Nat.le_refl _
  | succ c ih =>
    by_cases e : a = c + 1
    · rw [e]; exact Nat.le_refl _
    · exact Nat.le_trans (k.hm c) (ih (by omega))
theorem box_out {s : List (List Int)} {a b : Nat} (h : (row s a).length ≤ b) : box s a b = 0 := by
  unfold box; simp [List.getD, List.getElem?_eq_none h]

/-- The hole goes right. -/
theorem Sk.right {h : Nat → Nat} {s : List (List Int)} {i j : Nat} (k : Sk (one i j) h s) (hj : h i ≤ j) (hr : j + 1 < (row s i).length) (hlow : j < (row s (i + 1)).length → box s i (j + 1) < box s (i + 1) j) :
    Sk (one i (j + 1)) h (sb s i j (box s i (j + 1))) := by
  have hbx := sb_box (s := s) (i := i) (j := j) (by omega) (box s i (j + 1))
  refine ⟨sb_shp k.shp _ _ _, k.hm, fun a => by rw [sb_len]; exact k.hl a, fun a b hb => ?_, fun a b h1 h2 hx => ?_, fun a b c h1 h2 h3 hx hy => ?_, fun a c b h1 h2 h3 hx hy => ?_⟩
  · rw [hbx, if_neg (fun e => by obtain ⟨rfl, rfl⟩ := e; omega)]; exact k.zer a b hb
  · rw [sb_len] at h2
    rw [hbx]
    by_cases e : a = i ∧ b = j
    · rw [if_pos e]; exact k.pos i (j + 1) (by omega) hr (fun q => by have := q.2; omega)
    · rw [if_neg e]; exact k.pos a b h1 h2 e
  · rw [sb_len] at h3
    rw [hbx, hbx]
    by_cases e : a = i ∧ b = j
    · rw [if_pos e, if_neg (fun q => by omega)]
      obtain ⟨rfl, rfl⟩ := e
      have : ¬ c = b + 1 := fun q => hy ⟨rfl, q⟩
      exact k.along a (b + 1) c (by omega) (by omega) h3 (fun q => by have := q.2; omega) (fun q => by have := q.2; omega)
    · rw [if_neg e]
      by_cases e2 : a = i ∧ c = j
      · rw [if_pos e2]
        obtain ⟨rfl, rfl⟩ := e2
        exact k.along a b (c + 1) h1 (by omega) hr e (fun q => by have := q.2; omega)
      · rw [if_neg e2]; exact k.along a b c h1 h2 h3 e e2
  · rw [sb_len] at h3
    rw [hbx, hbx]
    have hcl := k.shp.shorter' (a := a) (b := c) (by omega)
    by_cases e : a = i ∧ b = j
    · rw [if_pos e, if_neg (fun q => by omega)]
      obtain ⟨rfl, rfl⟩ := e
      have hll := k.shp.shorter' (a := a + 1) (b := c) (by omega)
      have h4 := hlow (by omega)
      by_cases e3 : c = a + 1
      · rw [e3]; exact h4
      · have := k.down (a + 1) c b (by omega) (by have := k.hm a; omega) h3 (fun q => by have := q.1; omega) (fun q => by have := q.1; omega)
        omega
    · rw [if_neg e]
      by_cases e2 : c = i ∧ b = j
      · rw [if_pos e2]
        obtain ⟨rfl, rfl⟩ := e2
        have q1 := k.along a b (b + 1) h2 (by omega) (by omega) e (fun q => by have := q.2; omega)
        have q2 := k.down a c (b + 1) h1 (by omega) hr (fun q => by have := q.2; omega) (fun q => by have := q.2; omega)
        omega
      · rw [if_neg e2]; exact k.down a c b h1 h2 h3 e e2

/-- The hole goes down. -/
theorem Sk.below {h : Nat → Nat} {s : List (List Int)} {i j : Nat} (k : Sk (one i j) h s) (hj : h i ≤ j) (hr : j < (row s (i + 1)).length) (hright : j + 1 < (row s i).length → box s (i + 1) j ≤ box s i (j + 1)) :
    Sk (one (i + 1) j) h (sb s i j (box s (i + 1) j)) := by
  have hsh := k.shp.shorter' (a := i) (b := i + 1) (by omega)
  have hm := k.hm i
  have hbx := sb_box (s := s) (i := i) (j := j) (by omega) (box s (i + 1) j)
  refine ⟨sb_shp k.shp _ _ _, k.hm, fun a => by rw [sb_len]; exact k.hl a, fun a b hb => ?_, fun a b h1 h2 hx => ?_, fun a b c h1 h2 h3 hx hy => ?_, fun a c b h1 h2 h3 hx hy => ?_⟩
  · rw [hbx, if_neg (fun e => by obtain ⟨rfl, rfl⟩ := e; omega)]; exact k.zer a b hb
  · rw [sb_len] at h2
    rw [hbx]
    by_cases e : a = i ∧ b = j
    · rw [if_pos e]; exact k.pos (i + 1) j (by omega) hr (fun q => by have := q.1; omega)
    · rw [if_neg e]; exact k.pos a b h1 h2 e
  · rw [sb_len] at h3
    rw [hbx, hbx]
    by_cases e : a = i ∧ b = j
    · rw [if_pos e, if_neg (fun q => by omega)]
      obtain ⟨rfl, rfl⟩ := e
      have q1 := hright (by omega)
      by_cases e3 : c = b + 1
      · rw [e3]; exact q1
      · have := k.along a (b + 1) c (by omega) (by omega) h3 (fun q => by have := q.2; omega) (fun q => by have := q.2; omega)
        omega
    · rw [if_neg e]
      by_cases e2 : a = i ∧ c = j
      · rw [if_pos e2]
        obtain ⟨rfl, rfl⟩ := e2
        have q1 := k.down a (a + 1) b (by omega) h1 (by omega) e (fun q => by have := q.1; omega)
        have q2 := k.along (a + 1) b c (by omega) h2 hr (fun q => by have := q.1; omega) (fun q => by have := q.1; omega)
        omega
      · rw [if_neg e2]; exact k.along a b c h1 h2 h3 e e2
  · rw [sb_len] at h3
    rw [hbx, hbx]
    by_cases e : a = i ∧ b = j
    · rw [if_pos e, if_neg (fun q => by omega)]
      obtain ⟨rfl, rfl⟩ := e
      have : ¬ c = a + 1 := fun q => hy ⟨q, rfl⟩
      exact k.down (a + 1) c b (by omega) (by omega) h3 (fun q => by have := q.1; omega) (fun q => by have := q.1; omega)
    · rw [if_neg e]
      by_cases e2 : c = i ∧ b = j
      · rw [if_pos e2]
        obtain ⟨rfl, rfl⟩ := e2
        exact k.down a (c + 1) b (by omega) h2 hr e (fun q => by have := q.1; omega)
      · rw [if_neg e2]; exact k.down a c b h1 h2 h3 e e2

/-- The letters, the last row first. -/
def sword (h : Nat → Nat) : List (List Int) → List Int
  | [] => []
  | r :: t => sword (fun a => h (a + 1)) t ++ r.drop (h 0)
theorem sword_app : ∀ (u v : List (List Int)) (h : Nat → Nat), sword h (u ++ v) = sword (fun a => h (a + u.length)) v ++ sword h u := by
  intro u
  induction u with
  | nil => intro v h; simp [sword]
  | cons r u ih =>
    intro v h
    simp only [List.cons_append, sword, ih, List.length_cons, List.append_assoc]
    congr 1
theorem split2 {s : List (List Int)} {i : Nat} (hi : i + 1 < s.length) : s = s.take i ++ (row s i :: row s (i + 1) :: s.drop (i + 2)) := by
  have h1 := List.take_append_drop i s
  rw [List.drop_eq_getElem_cons (by omega), List.drop_eq_getElem_cons (by omega)] at h1
  have e1 : row s i = s[i] := by simp [row, List.getD, List.getElem?_eq_getElem (show i < s.length by omega)]
  have e2 : row s (i + 1) = s[i + 1] := by simp [row, List.getD, List.getElem?_eq_getElem hi]
  rw [e1, e2]
  exact h1.symm
theorem sword2 (h : Nat → Nat) {s : List (List Int)} {i : Nat} (hi : i + 1 < s.length) (r r' : List Int) :
    sword h ((s.set i r).set (i + 1) r') = sword (fun a => h (a + 2 + i)) (s.drop (i + 2)) ++ (r'.drop (h (i + 1)) ++ r.drop (h i)) ++ sword h (s.take i) := by
  have e : (s.set i r).set (i + 1) r' = s.take i ++ (r :: r' :: s.drop (i + 2)) := by
    conv => lhs; rw [split2 hi]
    rw [List.set_append_right _ _ (by rw [List.length_take]; omega), List.set_append_right _ _ (by rw [List.length_take]; omega)]
    rw [List.length_take, show min i s.length = i by omega, show i - i = 0 by omega, show i + 1 - i = 1 by omega]
    rfl
  rw [e, sword_app]
  simp only [sword, List.length_take, show min i s.length = i by omega, List.append_assoc, Nat.zero_add]
  congr 1
  congr 1
  rw [show 1 + i = i + 1 by omega]
theorem sword1 (h : Nat → Nat) {s : List (List Int)} {i : Nat} (hi : i < s.length) (r : List Int) :
    sword h (s.set i r) = sword (fun a => h (a + 1 + i)) (s.drop (i + 1)) ++ r.drop (h i) ++ sword h (s.take i) := by
  have e : s.set i r = s.take i ++ (r :: s.drop (i + 1)) := by
    rw [List.set_eq_take_append_cons_drop, if_pos hi]
  rw [e, sword_app]
  simp only [sword, List.length_take, show min i s.length = i by omega, List.append_assoc, Nat.zero_add]

/-- The rows without one box. -/
def er (s : List (List Int)) (i j : Nat) : List (List Int) := s.set i ((row s i).eraseIdx j)

theorem er_right {s : List (List Int)} {i j : Nat} (hr : j + 1 < (row s i).length) : er (sb s i j (box s i (j + 1))) i (j + 1) = er s i j := by
  unfold er
  rw [sb_row, if_pos rfl]
  unfold sb
  rw [List.set_set]
  congr 1
  refine List.ext_getElem? (fun m => ?_)
  simp only [List.getElem?_eraseIdx, List.getElem?_set]
  by_cases c1 : m < j
  · rw [if_pos (by omega), if_neg (by omega), if_pos c1]
  · by_cases c2 : m = j
    · subst c2
      rw [if_pos (by omega), if_pos rfl, if_pos (by omega), if_neg (by omega)]
      unfold box
      simp [List.getD, List.getElem?_eq_getElem hr]
    · rw [if_neg (by omega), if_neg (by omega), if_neg (by omega)]

end Go.Proofs.Ytpbkidgdpejenae

namespace Go.Proofs.Ytpbkidgdpejenae

theorem take_getD' (r : List Int) (n j : Nat) (hj : j < n) : (r.take n).getD j 0 = r.getD j 0 := by simp [List.getD, hj]
theorem drop_getD' (r : List Int) (n j : Nat) : (r.drop n).getD j 0 = r.getD (n + j) 0 := by simp [List.getD]
theorem cut_at {r : List Int} {j : Nat} (hj : j < r.length) : r = r.take j ++ r.getD j 0 :: r.drop (j + 1) := by
  conv => lhs; rw [← List.take_append_drop j r]
  rw [drop_cons r j hj]
theorem erase_at (r : List Int) (j : Nat) : r.eraseIdx j = r.take j ++ r.drop (j + 1) := by
  rw [List.eraseIdx_eq_take_drop_succ]
theorem app_getD (u v : List Int) (m : Nat) : (u ++ v).getD m 0 = if m < u.length then u.getD m 0 else v.getD (m - u.length) 0 := by
  by_cases c : m < u.length
  · rw [if_pos c]; simp [List.getD, List.getElem?_append_left c]
  · rw [if_neg c]; simp [List.getD, List.getElem?_append_right (show u.length ≤ m by omega)]

/-- The word, where a letter goes up. -/
theorem er_below {h : Nat → Nat} {s : List (List Int)} {i j : Nat} (k : Sk (one i j) h s) (hj : h i ≤ j) (hr : j < (row s (i + 1)).length) (hright : j + 1 < (row s i).length → box s (i + 1) j ≤ box s i (j + 1)) :
    Eqv (sword h (er s i j)) (sword h (er (sb s i j (box s (i + 1) j)) (i + 1) j)) := by
  have hi1 : i + 1 < s.length := Nat.lt_of_not_le (fun c => by rw [row_out c] at hr; simp at hr)
  have hsh := k.shp.shorter' (a := i) (b := i + 1) (by omega)
  have hm := k.hm i
  obtain ⟨b, hb⟩ : ∃ b, b = box s (i + 1) j := ⟨_, rfl⟩
  rw [← hb]
  have eL : er s i j = (s.set i ((row s i).eraseIdx j)).set (i + 1) (row s (i + 1)) := by
    unfold er
    refine (ext_row (by simp) (fun a ha => ?_)).symm
    simp only [List.length_set] at ha
    rw [set_row]
    by_cases e : a = i + 1
    · subst e; rw [if_pos ⟨rfl, by simpa using ha⟩, set_row, if_neg (fun q => by omega)]
    · rw [if_neg (fun q => e q.1)]
  have eR : er (sb s i j b) (i + 1) j = (s.set i ((row s i).set j b)).set (i + 1) ((row s (i + 1)).eraseIdx j) := by
    unfold er
    rw [sb_row, if_neg (by omega)]
    rfl
  rw [eL, eR, sword2 h hi1, sword2 h hi1]
  refine plac_E.app _ _ ?_
  have hji : j < (row s i).length := by omega
  -- the pieces
  obtain ⟨u, hu⟩ : ∃ u, u = row s i := ⟨_, rfl⟩
  obtain ⟨v, hv⟩ : ∃ v, v = row s (i + 1) := ⟨_, rfl⟩
  rw [← hu, ← hv]
  have hul : u.length = (row s i).length := by rw [hu]
  have hvl : v.length = (row s (i + 1)).length := by rw [hv]
  have bu : ∀ m, u.getD m 0 = box s i m := fun m => by rw [hu]; rfl
  have bv : ∀ m, v.getD m 0 = box s (i + 1) m := fun m => by rw [hv]; rfl
  obtain ⟨D0, hD0⟩ : ∃ D0, D0 = (v.take (h i)).drop (h (i + 1)) := ⟨_, rfl⟩
  obtain ⟨D, hD⟩ : ∃ D, D = (v.take j).drop (h i) := ⟨_, rfl⟩
  obtain ⟨E, hE⟩ : ∃ E, E = v.drop (j + 1) := ⟨_, rfl⟩
  obtain ⟨A, hA⟩ : ∃ A, A = (u.take j).drop (h i) := ⟨_, rfl⟩
  obtain ⟨C, hC⟩ : ∃ C, C = (u.drop (j + 1)).take E.length := ⟨_, rfl⟩
  obtain ⟨C1, hC1⟩ : ∃ C1, C1 = (u.drop (j + 1)).drop E.length := ⟨_, rfl⟩
  have hEl : E.length = v.length - (j + 1) := by rw [hE]; simp
  have hDl : D.length = j - h i := by rw [hD]; simp; omega
  have hAl : A.length = j - h i := by rw [hA]; simp; omega
  have hCl : C.length = E.length := by rw [hC]; simp; omega
  have gD : ∀ m, m < D.length → D.getD m 0 = box s (i + 1) (h i + m) := fun m hm' => by rw [hD, drop_getD', take_getD' _ _ _ (by omega), bv]
  have gA : ∀ m, m < A.length → A.getD m 0 = box s i (h i + m) := fun m hm' => by rw [hA, drop_getD', take_getD' _ _ _ (by omega), bu]
  have gE : ∀ m, E.getD m 0 = box s (i + 1) (j + 1 + m) := fun m => by rw [hE, drop_getD', bv]
  have gC : ∀ m, m < C.length → C.getD m 0 = box s i (j + 1 + m) := fun m hm' => by rw [hC, take_getD' _ _ _ (by omega), drop_getD', bu]
  have no1 : ∀ m, ¬ one i j (i + 1) m := fun m q => by have := q.1; omega
  have hvb : v = v.take j ++ b :: E := by rw [hE, hb, ← bv]; exact cut_at (by omega)
  have e1 : v.drop (h (i + 1)) = D0 ++ (D ++ b :: E) := by
    conv => lhs; rw [hvb]
    rw [List.drop_append_of_le_length (by rw [List.length_take]; omega)]
    rw [← List.append_assoc]
    congr 1
    rw [hD0, hD]
    refine List.ext_getElem? (fun m => ?_)
    by_cases c : m < h i - h (i + 1)
    · rw [List.getElem?_append_left (by simp; omega)]
      simp only [List.getElem?_drop, List.getElem?_take]
      rw [if_pos (by omega), if_pos (by omega)]
    · rw [List.getElem?_append_right (by simp; omega)]
      simp only [List.getElem?_drop, List.getElem?_take, List.length_drop, List.length_take]
      rw [show h i + (m - (min (h i) v.length - h (i + 1))) = h (i + 1) + m by omega]
  have e2 : (u.eraseIdx j).drop (h i) = A ++ (C ++ C1) := by
    rw [erase_at u j, List.drop_append_of_le_length (by rw [List.length_take]; omega), hA, hC, hC1, List.take_append_drop]
  have e3 : (v.eraseIdx j).drop (h (i + 1)) = D0 ++ (D ++ E) := by
    rw [erase_at v j, ← hE, List.drop_append_of_le_length (by rw [List.length_take]; omega)]
    rw [← List.append_assoc]
    congr 1
    rw [hD0, hD]
    refine List.ext_getElem? (fun m => ?_)
    by_cases c : m < h i - h (i + 1)
    · rw [List.getElem?_append_left (by simp; omega)]
      simp only [List.getElem?_drop, List.getElem?_take]
      rw [if_pos (by omega), if_pos (by omega)]
    · rw [List.getElem?_append_right (by simp; omega)]
      simp only [List.getElem?_drop, List.getElem?_take, List.length_drop, List.length_take]
      rw [show h i + (m - (min (h i) v.length - h (i + 1))) = h (i + 1) + m by omega]
  have e4 : (u.set j b).drop (h i) = A ++ b :: (C ++ C1) := by
    rw [List.set_eq_take_append_cons_drop, if_pos (by omega), List.drop_append_of_le_length (by rw [List.length_take]; omega), hA, hC, hC1, List.take_append_drop]
  rw [e1, e2, e3, e4]
  have key : Eqv (D ++ b :: E ++ A ++ C) (D ++ E ++ A ++ b :: C) := by
    refine up_word plac_E ?_ ?_ ?_ (by omega) (by omega) (fun m hm' => ?_) (fun m hm' => ?_)
    · intro m hm'
      simp only [List.length_append, List.length_cons] at hm'
      have q : ∀ n, n < D.length + (E.length + 1) → (D ++ b :: E).getD n 0 = box s (i + 1) (h i + n) := fun n hn => by
        rw [app_getD]
        by_cases c : n < D.length
        · rw [if_pos c, gD n c]
        · rw [if_neg c]
          by_cases c2 : n - D.length = 0
          · rw [c2, show h i + n = j by omega, ← hb]; rfl
          · obtain ⟨p, hp⟩ : ∃ p, n - D.length = p + 1 := ⟨n - D.length - 1, by omega⟩
            rw [hp]
            show E.getD p 0 = _
            rw [gE]; congr 1; omega
      rw [q m (by omega), q (m + 1) (by omega)]
      exact k.along (i + 1) (h i + m) (h i + (m + 1)) (by omega) (by omega) (by omega) (no1 _) (no1 _)
    · intro m hm'
      rw [List.length_append] at hm'
      have q : ∀ n, n < D.length + E.length → (D ++ E).getD n 0 = box s (i + 1) (if n < D.length then h i + n else h i + n + 1) := fun n hn => by
        rw [app_getD]
        by_cases c : n < D.length
        · rw [if_pos c, if_pos c, gD n c]
        · rw [if_neg c, if_neg c, gE]; congr 1; omega
      rw [q m (by omega), q (m + 1) (by omega)]
      refine k.along (i + 1) _ _ ?_ ?_ ?_ (no1 _) (no1 _) <;> (repeat' split) <;> omega
    · intro m hm'
      simp only [List.length_cons] at hm'
      cases m with
      | zero =>
        show b ≤ C.getD 0 0
        rw [gC 0 (by omega), hb]; exact hright (by omega)
      | succ m =>
        show C.getD m 0 ≤ C.getD (m + 1) 0
        rw [gC m (by omega), gC (m + 1) (by omega)]
        exact k.along i _ _ (by omega) (by omega) (by omega) (fun q => by have := q.2; omega) (fun q => by have := q.2; omega)
    · rw [gA m hm', gD m (by omega)]
      exact k.down i (i + 1) _ (by omega) (by omega) (by omega) (fun q => by have := q.2; omega) (no1 _)
    · rw [gC m hm', gE m]
      exact k.down i (i + 1) _ (by omega) (by omega) (by omega) (fun q => by have := q.2; omega) (no1 _)
  have := plac_E.app D0 C1 key
  simpa using this

/-- A hole's way. -/
def mv : Nat → List (List Int) → Nat → Nat → List (List Int) × Nat × Nat
  | 0, s, i, j => (s, i, j)
  | n + 1, s, i, j => if box s (i + 1) j ≠ 0 ∧ (box s i (j + 1) = 0 ∨ box s (i + 1) j ≤ box s i (j + 1)) then mv n (sb s i j (box s (i + 1) j)) (i + 1) j
      else if box s i (j + 1) ≠ 0 then mv n (sb s i j (box s i (j + 1))) i (j + 1) else (s, i, j)
theorem mv_step (n : Nat) (s : List (List Int)) (i j : Nat) : mv (n + 1) s i j = if box s (i + 1) j ≠ 0 ∧ (box s i (j + 1) = 0 ∨ box s (i + 1) j ≤ box s i (j + 1)) then mv n (sb s i j (box s (i + 1) j)) (i + 1) j
      else if box s i (j + 1) ≠ 0 then mv n (sb s i j (box s i (j + 1))) i (j + 1) else (s, i, j) := rfl

/-- Rows with one hole on its way. -/
structure Hol (h : Nat → Nat) (s : List (List Int)) (i j : Nat) : Prop where
  sk : Sk (one i j) h s
  le : h i ≤ j
  lt : j < (row s i).length
def left (s : List (List Int)) (i j : Nat) : Nat := (s.length - i) + ((row s 0).length - j)
theorem Hol.row {h : Nat → Nat} {s : List (List Int)} {i j : Nat} (k : Hol h s i j) : i < s.length := Nat.lt_of_not_le (fun c => by have := k.lt; rw [row_out c] at this; simp at this)
theorem Hol.at {h : Nat → Nat} {s : List (List Int)} {i j : Nat} (k : Hol h s i j) : (box s i (j + 1) ≠ 0 ↔ j + 1 < (Go.Proofs.Ytpbkidgdpejenae.row s i).length) ∧ (box s (i + 1) j ≠ 0 ↔ j < (Go.Proofs.Ytpbkidgdpejenae.row s (i + 1)).length) ∧ 0 ≤ box s i (j + 1) ∧ 0 ≤ box s (i + 1) j := by
  have h1 : j + 1 < (Go.Proofs.Ytpbkidgdpejenae.row s i).length → 1 ≤ box s i (j + 1) := fun c => k.sk.pos i (j + 1) (by have := k.le; omega) c (fun q => by have := q.2; omega)
  have h2 : j < (Go.Proofs.Ytpbkidgdpejenae.row s (i + 1)).length → 1 ≤ box s (i + 1) j := fun c => k.sk.pos (i + 1) j (by have := k.le; have := k.sk.hm i; omega) c (fun q => by have := q.1; omega)
  have h3 : ¬ j + 1 < (Go.Proofs.Ytpbkidgdpejenae.row s i).length → box s i (j + 1) = 0 := fun c => box_out (by omega)
  have h4 : ¬ j < (Go.Proofs.Ytpbkidgdpejenae.row s (i + 1)).length → box s (i + 1) j = 0 := fun c => box_out (by omega)
  by_cases c1 : j + 1 < (Go.Proofs.Ytpbkidgdpejenae.row s i).length <;> by_cases c2 : j < (Go.Proofs.Ytpbkidgdpejenae.row s (i + 1)).length
  · have := h1 c1; have := h2 c2; omega
  · have := h1 c1; have := h4 c2; omega
  · have := h3 c1; have := h2 c2; omega
  · have := h3 c1; have := h4 c2; omega
theorem Hol.wide {h : Nat → Nat} {s : List (List Int)} {i j : Nat} (k : Hol h s i j) : j < (Go.Proofs.Ytpbkidgdpejenae.row s 0).length := by
  have := k.sk.shp.shorter' (a := 0) (b := i) (by omega); have := k.lt; omega
theorem Hol.down {h : Nat → Nat} {s : List (List Int)} {i j : Nat} (k : Hol h s i j) (c : box s (i + 1) j ≠ 0 ∧ (box s i (j + 1) = 0 ∨ box s (i + 1) j ≤ box s i (j + 1))) :
    Hol h (sb s i j (box s (i + 1) j)) (i + 1) j ∧ Eqv (sword h (er s i j)) (sword h (er (sb s i j (box s (i + 1) j)) (i + 1) j)) ∧ left (sb s i j (box s (i + 1) j)) (i + 1) j < left s i j := by
  obtain ⟨h1, h2, h3, h4⟩ := k.at
  have hr := h2.1 c.1
  have hri : j + 1 < (Go.Proofs.Ytpbkidgdpejenae.row s i).length → box s (i + 1) j ≤ box s i (j + 1) := fun q => by have := h1.2 q; rcases c.2 with c2 | c2 <;> omega
  refine ⟨⟨k.sk.below k.le hr hri, by have := k.sk.hm i; have := k.le; omega, by rw [sb_len]; exact hr⟩, er_below k.sk k.le hr hri, ?_⟩
  unfold left
  rw [sb_length, sb_len]
  have : i + 1 < s.length := Nat.lt_of_not_le (fun c => by rw [row_out c] at hr; simp at hr)
  omega
theorem Hol.right {h : Nat → Nat} {s : List (List Int)} {i j : Nat} (k : Hol h s i j) (c : ¬ (box s (i + 1) j ≠ 0 ∧ (box s i (j + 1) = 0 ∨ box s (i + 1) j ≤ box s i (j + 1)))) (c2 : box s i (j + 1) ≠ 0) :
    Hol h (sb s i j (box s i (j + 1))) i (j + 1) ∧ Eqv (sword h (er s i j)) (sword h (er (sb s i j (box s i (j + 1))) i (j + 1))) ∧ left (sb s i j (box s i (j + 1))) i (j + 1) < left s i j := by
  obtain ⟨h1, h2, h3, h4⟩ := k.at
  have hr := h1.1 c2
  refine ⟨⟨k.sk.right k.le hr (fun q => by have := h2.2 q; omega), by have := k.le; omega, by rw [sb_len]; exact hr⟩, Eqv.of (by rw [er_right hr]), ?_⟩
  unfold left
  rw [sb_length, sb_len]
  have := k.wide
  have := k.sk.shp.shorter' (a := 0) (b := i) (by omega)
  omega

/-- Where the way ends. -/
structure Ends (h : Nat → Nat) (s : List (List Int)) (i j : Nat) (s' : List (List Int)) (i' j' : Nat) : Prop where
  hol : Hol h s' i' j'
  len : s'.length = s.length
  lens : ∀ a, (row s' a).length = (row s a).length
  no : box s' i' (j' + 1) = 0 ∧ box s' (i' + 1) j' = 0
  word : Eqv (sword h (er s i j)) (sword h (er s' i' j'))
theorem mv_ends : ∀ (n : Nat) (h : Nat → Nat) (s : List (List Int)) (i j : Nat), Hol h s i j → left s i j ≤ n → Ends h s i j (mv n s i j).1 (mv n s i j).2.1 (mv n s i j).2.2 := by
  intro n
  induction n with
  | zero =>
    intro h s i j k hl
    unfold left at hl
    have := k.wide
    omega
  | succ n ih =>
    intro h s i j k hl
    simp only [mv]
    by_cases c : box s (i + 1) j ≠ 0 ∧ (box s i (j + 1) = 0 ∨ box s (i + 1) j ≤ box s i (j + 1))
    · rw [if_pos c]
      obtain ⟨k1, k2, k3⟩ := k.down c
      have e := ih h _ _ _ k1 (by omega)
      exact ⟨e.hol, by rw [e.len, sb_length], fun a => by rw [e.lens, sb_len], e.no, k2.trans e.word⟩
    · rw [if_neg c]
      by_cases c2 : box s i (j + 1) ≠ 0
      · rw [if_pos c2]
        obtain ⟨k1, k2, k3⟩ := k.right c c2
        have e := ih h _ _ _ k1 (by omega)
        exact ⟨e.hol, by rw [e.len, sb_length], fun a => by rw [e.lens, sb_len], e.no, k2.trans e.word⟩
      · rw [if_neg c2]
        have z1 : box s i (j + 1) = 0 := Decidable.not_not.1 c2
        exact ⟨k, rfl, fun _ => rfl, ⟨z1, Decidable.byContradiction (fun q => c ⟨q, Or.inl z1⟩)⟩, Eqv.refl _⟩
theorem mv_more : ∀ (n : Nat) (h : Nat → Nat) (s : List (List Int)) (i j : Nat), Hol h s i j → left s i j ≤ n → mv (n + 1) s i j = mv n s i j := by
  intro n
  induction n with
  | zero =>
    intro h s i j k hl
    unfold left at hl
    have := k.wide
    omega
  | succ n ih =>
    intro h s i j k hl
    rw [mv_step (n + 1) s i j, mv_step n s i j]
    by_cases c : box s (i + 1) j ≠ 0 ∧ (box s i (j + 1) = 0 ∨ box s (i + 1) j ≤ box s i (j + 1))
    · rw [if_pos c, if_pos c]
      obtain ⟨k1, k2, k3⟩ := k.down c
      exact ih h _ _ _ k1 (by omega)
    · rw [if_neg c, if_neg c]
      by_cases c2 : box s i (j + 1) ≠ 0
      · rw [if_pos c2, if_pos c2]
        obtain ⟨k1, k2, k3⟩ := k.right c c2
        exact ih h _ _ _ k1 (by omega)
      · rw [if_neg c2, if_neg c2]

/-- The end box. -/
theorem Ends.corner {h : Nat → Nat} {s : List (List Int)} {i j : Nat} {s' : List (List Int)} {i' j' : Nat} (e : Ends h s i j s' i' j') : (row s' i').length = j' + 1 ∧ (row s' (i' + 1)).length ≤ j' := by
  obtain ⟨h1, h2, h3, h4⟩ := e.hol.at
  have := e.hol.lt
  refine ⟨Nat.le_antisymm (Nat.le_of_not_lt (fun c => h1.2 c e.no.1)) this, Nat.le_of_not_lt (fun c => h2.2 c e.no.2)⟩
theorem tk_sk {h : Nat → Nat} {s : List (List Int)} {i j : Nat} (k : Hol h s i j) (c1 : (row s i).length = j + 1) (c2 : (row s (i + 1)).length ≤ j) :
    Sk non h (tk s i) ∧ sword h (er s i j) = sword h (tk s i) ∧ ∀ a, row (tk s i) a = if a = i then (row s i).dropLast else row s a := by
  have hr := fun a => tk_row k.sk.shp k.row (by omega) a
  have hlen : ∀ a, (row (tk s i) a).length = if a = i then j else (row s a).length := fun a => by
    rw [hr]
    by_cases e : a = i
    · rw [if_pos e, if_pos e, List.length_dropLast, c1]; rfl
    · rw [if_neg e, if_neg e]
  have hbx : ∀ a b, b < (row (tk s i) a).length → box (tk s i) a b = box s a b := fun a b hb => by
    rw [hlen] at hb
    unfold box
    rw [hr]
    by_cases e : a = i
    · subst e; rw [if_pos rfl] at hb ⊢; rw [getD_drop, if_pos (by omega)]
    · rw [if_neg e]
  have hll : ∀ a, (row (tk s i) a).length ≤ (row s a).length := fun a => by
    rw [hlen]
    by_cases e : a = i
    · rw [if_pos e, e]; omega
    · rw [if_neg e]; exact Nat.le_refl _
  have hin : ∀ a b, b < (row (tk s i) a).length → ¬ one i j a b := fun a b hb q => by rw [hlen, if_pos q.1] at hb; have := q.2; omega
  have hle := k.le
  have hhl : ∀ a, h a ≤ (row (tk s i) a).length := fun a => by
    rw [hlen]
    by_cases e : a = i
    · rw [if_pos e, e]; exact hle
    · rw [if_neg e]; exact k.sk.hl a
  refine ⟨⟨?_, k.sk.hm, hhl, fun a b hb => ?_, fun a b p1 p2 _ => ?_, fun a b c p1 p2 p3 _ _ => ?_, fun a c b p1 p2 p3 _ _ => ?_⟩, ?_, hr⟩
  · refine ⟨fun a ha => ?_, fun a ha => ?_⟩
    · rw [hlen]
      unfold tk at ha
      by_cases q : (row s i).length ≤ 1
      · rw [if_pos q, List.length_take] at ha
        rw [if_neg (by omega)]; exact k.sk.shp.1 a (by omega)
      · rw [if_neg q, List.length_set] at ha
        by_cases e : a = i
        · rw [if_pos e]; omega
        · rw [if_neg e]; exact k.sk.shp.1 a ha
    · rw [hlen, hlen]
      have q := k.sk.shp.shorter' (a := a) (b := a + 1) (by omega)
      by_cases e : a = i
      · subst e; rw [if_pos rfl, if_neg (by omega)]; exact c2
      · rw [if_neg e]
        by_cases e2 : a + 1 = i
        · rw [if_pos e2]; rw [e2] at q; omega
        · rw [if_neg e2]; exact q
  · rw [hbx a b (by have := hhl a; omega)]; exact k.sk.zer a b hb
  · rw [hbx a b p2]; exact k.sk.pos a b p1 (by have := hll a; omega) (hin a b p2)
  · rw [hbx a b (by omega), hbx a c p3]; exact k.sk.along a b c p1 p2 (by have := hll a; omega) (hin a b (by omega)) (hin a c p3)
  · have q : b < (row (tk s i) a).length := by
      have z := k.sk.shp.shorter' (a := a) (b := c) (by omega)
      rw [hlen] at p3 ⊢
      by_cases e : a = i
      · subst e; rw [if_pos rfl]; rw [if_neg (by omega)] at p3
        have := k.sk.shp.shorter' (a := a + 1) (b := c) (by omega)
        omega
      · rw [if_neg e]
        by_cases e2 : c = i
        · subst e2; rw [if_pos rfl] at p3; omega
        · rw [if_neg e2] at p3; omega
    rw [hbx a b q, hbx c b p3]; exact k.sk.down a c b p1 p2 (by have := hll c; omega) (hin a b q) (hin c b p3)
  · have e1 : (row s i).eraseIdx j = (row s i).dropLast := by
      rw [erase_at _ j, List.drop_eq_nil_of_le (by omega), List.append_nil, List.dropLast_eq_take, c1]
      rfl
    unfold er tk
    rw [e1]
    by_cases q : (row s i).length ≤ 1
    · rw [if_pos q]
      have hj : j = 0 := by omega
      have hs : s.length = i + 1 := by
        refine Nat.le_antisymm (Nat.le_of_not_lt (fun c => ?_)) k.row
        have := k.sk.shp.1 (i + 1) c
        omega
      rw [sword1 h k.row]
      rw [List.drop_eq_nil_of_le (by omega)]
      have : (row s i).dropLast = [] := List.eq_nil_of_length_eq_zero (by rw [List.length_dropLast]; omega)
      rw [this]
      simp [sword]
    · rw [if_neg q]

end Go.Proofs.Ytpbkidgdpejenae

namespace Go.Proofs.Ytpbkidgdpejenae

theorem sword_zero : ∀ (t : List (List Int)), sword (fun _ => 0) t = wrd t := by
  intro t
  induction t with
  | nil => rfl
  | cons r t ih => rw [wrd_cons, ← ih]; rfl
theorem wrd_mem {t : List (List Int)} {z : Int} : z ∈ wrd t ↔ z ∈ t.flatten := by simp [wrd]
theorem wrd_perm (t : List (List Int)) : (wrd t).Perm t.flatten := (List.reverse_perm t).flatten
theorem wrd_app (u v : List (List Int)) : wrd (u ++ v) = wrd v ++ wrd u := by simp [wrd]
theorem wrd_map (f : Int → Int) (t : List (List Int)) : wrd (t.map (List.map f)) = (wrd t).map f := by
  unfold wrd
  rw [← List.map_reverse, List.map_flatten]

/-- A tableau has no holes. -/
theorem T_sk {t : List (List Int)} (h : T t) (h1 : ∀ z ∈ t.flatten, 1 ≤ z) (X : Nat → Nat → Prop) : Sk X (fun _ => 0) t := by
  have hin : ∀ {a b}, b < (row t a).length → a < t.length := fun {a b} hb => Nat.lt_of_not_le (fun c => by rw [row_out c] at hb; simp at hb)
  have hr := T_row.1 h
  refine ⟨h.shp, fun _ => Nat.le_refl _, fun _ => Nat.zero_le _, fun a b hb => by omega, fun a b _ hb _ => h1 _ (box_mem (hin hb) hb), fun a b c _ h2 h3 _ _ => ((hr a (hin h3)).2.1).le (by omega) h3, fun a c b h2 _ h3 _ _ => ?_⟩
  have key : ∀ d, a + d + 1 < t.length → b < (row t (a + d + 1)).length → box t a b < box t (a + d + 1) b := by
    intro d
    induction d with
    | zero => intro q1 q2; exact (hr a (by omega)).2.2.2 b q2
    | succ d ih =>
      intro q1 q2
      have q3 := h.shp.shorter' (a := a + d + 1) (b := a + (d + 1) + 1) (by omega)
      have q4 := ih (by omega) (by omega)
      have q5 := (hr (a + d + 1) (by omega)).2.2.2 b (by rw [show a + d + 1 + 1 = a + (d + 1) + 1 by omega]; exact q2)
      rw [show a + d + 1 + 1 = a + (d + 1) + 1 by omega] at q5
      unfold box at q4 ⊢
      omega
  have := key (c - a - 1) (by have := hin h3; omega) (by rw [show a + (c - a - 1) + 1 = c by omega]; exact h3)
  rw [show a + (c - a - 1) + 1 = c by omega] at this
  exact this
theorem sk_T {t : List (List Int)} (h : Sk non (fun _ => 0) t) : T t := by
  refine T_row.2 (fun i hi => ⟨h.shp.1 i hi, fun j hj => h.along i j (j + 1) (by omega) (by omega) hj (fun q => q) (fun q => q), h.shp.shorter' (by omega), fun j hj => h.down i (i + 1) j (by omega) (by omega) hj (fun q => q) (fun q => q)⟩)
theorem sk_pos {t : List (List Int)} {h : Nat → Nat} (k : Sk non h t) : ∀ z ∈ sword h t, 1 ≤ z := by
  have gen : ∀ (t : List (List Int)) (h : Nat → Nat), (∀ a b, h a ≤ b → b < (row t a).length → 1 ≤ box t a b) → ∀ z ∈ sword h t, 1 ≤ z := by
    intro t
    induction t with
    | nil => intro h _ z hz; simp [sword] at hz
    | cons r t ih =>
      intro h hp z hz
      simp only [sword, List.mem_append] at hz
      rcases hz with hz | hz
      · exact ih _ (fun a b h1 h2 => by have := hp (a + 1) b h1 (by simpa [row] using h2); simpa [box, row] using this) z hz
      · obtain ⟨m, hm, rfl⟩ := List.mem_iff_getElem.1 hz
        have := hp 0 (h 0 + m) (by omega) (by simp [row]; simp at hm; omega)
        simp at hm
        simpa [box, row, List.getD, List.getElem?_eq_getElem (show h 0 + m < r.length by omega)] using this
  exact gen t h (fun a b h1 h2 => k.pos a b h1 h2 (fun q => q))

/-- The letters up to k. -/
def rs (k : Int) : List (List Int) → List (List Int)
  | [] => []
  | r :: t => if spot false k r = 0 then [] else r.take (spot false k r) :: rs k t
theorem filter_spot {r : List Int} (h : Srt r) (k : Int) : r.filter (fun z => decide (z ≤ k)) = r.take (spot false k r) := by
  have hs := spot_has k r
  conv => lhs; rw [← List.take_append_drop (spot false k r) r]
  rw [List.filter_append, List.filter_eq_self.2 (fun z hz => ?_), List.filter_eq_nil_iff.2 (fun z hz => ?_), List.append_nil]
  · obtain ⟨m, hm, rfl⟩ := List.mem_iff_getElem.1 hz
    simp at hm
    have := h.le (i := spot false k r) (j := spot false k r + m) (by omega) (by omega)
    have h2 := hs.stop (by omega)
    simp [List.getD, List.getElem?_eq_getElem (show spot false k r + m < r.length by omega)] at this
    simp only [List.getElem_drop, decide_eq_true_eq]
    simp [List.getD] at h2
    omega
  · obtain ⟨m, hm, rfl⟩ := List.mem_iff_getElem.1 hz
    simp at hm
    have h2 := hs.pass m (by omega)
    simp [List.getD, List.getElem?_eq_getElem (show m < r.length by omega)] at h2
    simpa using h2
theorem rs_none {r : List Int} {t : List (List Int)} {k : Int} (h : T (r :: t)) (h0 : spot false k r = 0) : ∀ z ∈ (r :: t).flatten, k < z := by
  have gen : ∀ (t : List (List Int)) (r : List Int) (k : Int), T (r :: t) → k < r.getD 0 0 → ∀ z ∈ (r :: t).flatten, k < z := by
    intro t
    induction t with
    | nil =>
      intro r k h hk z hz
      simp at hz
      obtain ⟨m, hm, rfl⟩ := List.mem_iff_getElem.1 hz
      have := h.2.1.le (i := 0) (j := m) (by omega) hm
      simp [List.getD, List.getElem?_eq_getElem hm] at this hk
      omega
    | cons u t ih =>
      intro r k h hk z hz
      rw [List.flatten_cons, List.mem_append] at hz
      rcases hz with hz | hz
      · obtain ⟨m, hm, rfl⟩ := List.mem_iff_getElem.1 hz
        have := h.2.1.le (i := 0) (j := m) (by omega) hm
        simp [List.getD, List.getElem?_eq_getElem hm] at this hk
        omega
      · refine ih u k h.2.2.2 ?_ z hz
        have := h.2.2.1.2 0 h.2.2.2.1
        simp at this hk ⊢
        omega
  refine gen t r k h ?_
  have := (spot_has k r).stop (by rw [h0]; exact h.1)
  rw [h0] at this; exact this
theorem wrd_rs : ∀ (t : List (List Int)) (k : Int), T t → wrd (rs k t) = (wrd t).filter (fun z => decide (z ≤ k)) := by
  intro t
  induction t with
  | nil => intro k _; rfl
  | cons r t ih =>
    intro k h
    unfold rs
    by_cases c : spot false k r = 0
    · rw [if_pos c]
      have := rs_none h c
      rw [List.filter_eq_nil_iff.2 (fun z hz => by have := this z (wrd_mem.1 hz); simp; omega)]
      rfl
    · rw [if_neg c, wrd_cons, wrd_cons, List.filter_append, ih k h.2.2.2, filter_spot h.2.1]
theorem T_rs : ∀ (t : List (List Int)) (k : Int), T t → T (rs k t) := by
  intro t
  induction t with
  | nil => intro k _; trivial
  | cons r t ih =>
    intro k h
    unfold rs
    have hs := spot_has k r
    by_cases c : spot false k r = 0
    · rw [if_pos c]; trivial
    · rw [if_neg c]
      have hl : (r.take (spot false k r)).length = spot false k r := by rw [List.length_take]; have := hs.le; omega
      refine ⟨by omega, fun j hj => ?_, ?_, ih k h.2.2.2⟩
      · rw [hl] at hj
        rw [take_getD' _ _ _ (by omega), take_getD' _ _ _ hj]; exact h.2.1 j (by have := hs.le; omega)
      · cases t with
        | nil => exact dn_nil _
        | cons u t =>
          unfold rs
          by_cases c2 : spot false k u = 0
          · rw [if_pos c2]; exact dn_nil _
          · rw [if_neg c2]
            have hu := spot_has k u
            have hd := h.2.2.1
            simp only [List.headD_cons] at hd ⊢
            have hl2 : (u.take (spot false k u)).length = spot false k u := by rw [List.length_take]; have := hu.le; omega
            have hle : spot false k u ≤ spot false k r := Nat.le_of_not_lt (fun q => by
              have q1 := hu.pass (spot false k r) q
              have q2 := hs.stop (by have := hu.le; have := hd.1; omega)
              have q3 := hd.2 (spot false k r) (by have := hu.le; omega)
              omega)
            refine ⟨by omega, fun j hj => ?_⟩
            rw [hl2] at hj
            rw [take_getD' _ _ _ (by omega), take_getD' _ _ _ hj]
            exact hd.2 j (by have := hu.le; omega)
theorem rs_box : ∀ (t : List (List Int)) (k : Int), T t → ∀ a b, (b < (row (rs k t) a).length ↔ b < (row t a).length ∧ box t a b ≤ k) ∧ (b < (row (rs k t) a).length → box (rs k t) a b = box t a b) := by
  intro t
  induction t with
  | nil => intro k _ a b; simp [rs, row]
  | cons r t ih =>
    intro k h a b
    unfold rs
    have hs := spot_has k r
    by_cases c : spot false k r = 0
    · rw [if_pos c]
      have hn := rs_none h c
      refine ⟨⟨fun q => by simp [row] at q, fun q => ?_⟩, fun q => by simp [row] at q⟩
      have := hn _ (box_mem (Nat.lt_of_not_le (fun e => by rw [row_out e] at q; simp at q)) q.1)
      omega
    · rw [if_neg c]
      have hl : (r.take (spot false k r)).length = spot false k r := by rw [List.length_take]; have := hs.le; omega
      cases a with
      | zero =>
        show (b < (r.take (spot false k r)).length ↔ b < r.length ∧ r.getD b 0 ≤ k) ∧ (b < (r.take (spot false k r)).length → (r.take (spot false k r)).getD b 0 = r.getD b 0)
        rw [hl]
        refine ⟨⟨fun q => ⟨by have := hs.le; omega, hs.pass b q⟩, fun q => Nat.lt_of_not_le (fun e => ?_)⟩, fun q => take_getD' _ _ _ q⟩
        have q1 := hs.stop (by omega)
        have q2 := h.2.1.le e q.1
        omega
      | succ a =>
        exact ih k h.2.2.2 a b

/-- Turned over and read from behind the shape stays. -/
def sameShape (t u : List (List Int)) : Prop := ∀ a, (row t a).length = (row u a).length
theorem len_of_iff {m n : Nat} (h : ∀ b, b < m ↔ b < n) : m = n := by
  rcases Nat.lt_trichotomy m n with c | c | c
  · have := (h m).2 c; omega
  · exact c
  · have := (h n).1 c; omega
theorem cols_shape {t u : List (List Int)} (ht : Shp t) (hu : Shp u) (h : sameShape t u) : sameShape (cols t) (cols u) := fun c =>
  len_of_iff (fun a => by rw [cols_len ht c a, cols_len hu c a, h a])
theorem cols_shape2 {t u : List (List Int)} (ht : Shp t) (hu : Shp u) (h : sameShape t (cols u)) : sameShape (cols t) u := fun c =>
  len_of_iff (fun a => by
    rw [cols_len ht c a, h a, cols_len hu a c])
def swp (l : List (Int × Int)) : List (Int × Int) := l.map (fun c => (c.2, c.1))
/-- In order of the firsts. -/
theorem sorted_pairs (l : List (Int × Int)) (h : (l.map Prod.fst).Nodup) : ∃ m, m.Perm l ∧ Asc m := by
  refine ⟨l.mergeSort (fun a b => decide (a.1 ≤ b.1)), List.mergeSort_perm l _, ?_⟩
  have h1 := List.pairwise_mergeSort (le := fun (a b : Int × Int) => decide (a.1 ≤ b.1)) (fun a b c p q => by simp at p q ⊢; omega) (fun a b => by simp; omega) l
  have h2 : ((l.mergeSort (fun a b => decide (a.1 ≤ b.1))).map Prod.fst).Nodup := ((List.mergeSort_perm l _).map Prod.fst).nodup_iff.2 h
  unfold Asc
  have h3 : (l.mergeSort (fun a b => decide (a.1 ≤ b.1))).Pairwise (fun a b => a.1 ≠ b.1) := by
    unfold List.Nodup at h2; rw [List.pairwise_map] at h2; exact h2
  exact (h1.and h3).imp (fun p => by have := p.1; simp at this; have := p.2; omega)
theorem put1_fst : ∀ (l : List (Int × Int)) (s : List (List Int) × List (List Int)), (l.foldl put1 s).1 = insW s.1 (l.map Prod.snd) := by
  intro l
  induction l with
  | nil => intro s; rfl
  | cons c l ih => intro s; rw [List.foldl_cons, ih]; rfl
theorem mk_fst (l : List (Int × Int)) : (mk l).1 = insW [] (l.map Prod.snd) := put1_fst l _
def numP (w : List Int) : List (Int × Int) := (List.range w.length).map (fun i => (((i : Nat) : Int) + 1, w.getD i 0))
theorem numP_snd (w : List Int) : (numP w).map Prod.snd = w := by
  refine ext_getD (by simp [numP]) (fun j hj => ?_)
  simp [numP] at hj
  simp [numP, List.getD, hj]
theorem numP_asc (w : List Int) : Asc (numP w) := by
  unfold Asc numP
  rw [List.pairwise_map]
  exact List.pairwise_lt_range.imp (fun p => by simp; omega)
theorem comp_shape {w : List Int} (hn : w.Nodup) (c : Int) : sameShape (insW [] (w.map (fun z => c - z))) (cols (insW [] w)) := by
  obtain ⟨l, hl⟩ : ∃ l, l = numP w := ⟨_, rfl⟩
  have hlA : Asc l := hl ▸ numP_asc w
  have hl2 : l.map Prod.snd = w := hl ▸ numP_snd w
  obtain ⟨m, hm, hmA⟩ := sorted_pairs (swp l) (by unfold swp; rw [List.map_map]; simpa [Function.comp_def] using hl2 ▸ hn)
  have e1 := mk_swap m.length l m rfl hlA hmA hm
  -- the other one
  obtain ⟨lc, hlc⟩ : ∃ lc, lc = l.map (fun d => (d.1, c - d.2)) := ⟨_, rfl⟩
  have hlcA : Asc lc := by rw [hlc]; unfold Asc; rw [List.pairwise_map]; exact hlA
  have hlc2 : lc.map Prod.snd = w.map (fun z => c - z) := by rw [hlc, ← hl2, List.map_map, List.map_map]; rfl
  obtain ⟨mc, hmc⟩ : ∃ mc, mc = (m.map (fun d => (c - d.1, d.2))).reverse := ⟨_, rfl⟩
  have hmcA : Asc mc := by
    rw [hmc]; unfold Asc; rw [List.pairwise_reverse, List.pairwise_map]
    exact List.Pairwise.imp (fun p => by simp; omega) hmA
  have hmcp : mc.Perm (lc.map (fun d => (d.2, d.1))) := by
    rw [hmc, hlc]
    refine (List.reverse_perm _).trans ?_
    have := hm.map (fun d : Int × Int => (c - d.1, d.2))
    unfold swp at this
    rw [List.map_map] at this ⊢
    exact this
  have e2 := mk_swap mc.length lc mc rfl hlcA hmcA hmcp
  have hmn : (m.map Prod.snd).Nodup := by
    refine ((hm.map Prod.snd).nodup_iff).2 ?_
    unfold swp
    rw [List.map_map]
    have : (l.map Prod.fst).Nodup := by
      unfold List.Nodup; rw [List.pairwise_map]; exact List.Pairwise.imp (fun p => by omega) hlA
    simpa [Function.comp_def] using this
  have e3 : (mk mc).1 = cols (mk m).1 := by
    rw [mk_fst, mk_fst, hmc, List.map_reverse, List.map_map]
    have := insW_rev (m.map Prod.snd) hmn
    simpa [Function.comp_def] using this
  have M1 := (mk_made _ l rfl hlA.ordered).1
  have M2 := (mk_made _ lc rfl hlcA.ordered).1
  have f1 : insW [] (w.map (fun z => c - z)) = (mk lc).1 := by rw [mk_fst, hlc2]
  have f2 : insW [] w = (mk l).1 := by rw [mk_fst, hl2]
  rw [f1, f2]
  intro a
  rw [M2.lens a]
  have g1 : (mk lc).2 = cols (mk l).2 := by
    have := congrArg Prod.fst e2; simp only at this
    have := congrArg Prod.fst e1; simp only at this
    rw [← ‹(mk mc).1 = (mk lc).2›, e3, this]
  rw [g1]
  exact cols_shape M1.tq.shp M1.tp.shp (fun i => (M1.lens i).symm) a
theorem star_shape {w : List Int} (hn : w.Nodup) (c : Int) : sameShape (insW [] (star c w)) (insW [] w) := by
  have hn2 : (w.map (fun z => c - z)).Nodup := by
    unfold List.Nodup at hn ⊢; rw [List.pairwise_map]; exact hn.imp (fun p => by omega)
  unfold star
  rw [insW_rev _ hn2]
  exact cols_shape2 (insW_T _ [] trivial).shp (insW_T _ [] trivial).shp (comp_shape hn c)

end Go.Proofs.Ytpbkidgdpejenae

namespace Go.Proofs.Ytpbkidgdpejenae

/-- The holes at the beginning of a row. -/
def hol : List Int → Nat
  | [] => 0
  | x :: r => if x = 0 then hol r + 1 else 0
theorem hol_le : ∀ (r : List Int), hol r ≤ r.length := by
  intro r
  induction r with
  | nil => exact Nat.le_refl _
  | cons x r ih => simp only [hol]; split <;> simp <;> omega
theorem hol_zero : ∀ (r : List Int) (j : Nat), j < hol r → r.getD j 0 = 0 := by
  intro r
  induction r with
  | nil => intro j h; simp [hol] at h
  | cons x r ih =>
    intro j h
    simp only [hol] at h
    by_cases c : x = 0
    · rw [if_pos c] at h
      cases j with
      | zero => simpa using c
      | succ j => simpa using ih j (by omega)
    · rw [if_neg c] at h; omega
theorem hol_stop : ∀ (r : List Int), hol r < r.length → r.getD (hol r) 0 ≠ 0 := by
  intro r
  induction r with
  | nil => intro h; simp [hol] at h
  | cons x r ih =>
    intro h
    simp only [hol] at h ⊢
    by_cases c : x = 0
    · rw [if_pos c] at h ⊢; simpa using ih (by simpa using h)
    · rw [if_neg c]; simpa using c
theorem hol_is {r : List Int} {k : Nat} (hk : k ≤ r.length) (h : ∀ j, j < k → r.getD j 0 = 0) (hs : k < r.length → r.getD k 0 ≠ 0) : hol r = k := by
  rcases Nat.lt_trichotomy (hol r) k with c | c | c
  · exact absurd (h _ c) (hol_stop r (by omega))
  · exact c
  · exact absurd (hol_zero r k c) (hs (by have := hol_le r; omega))
def H (s : List (List Int)) (a : Nat) : Nat := hol (row s a)

/-- Letters, none less than the one ahead. -/
def letB (r : List Int) : Bool := (List.range r.length).all fun j => decide (1 ≤ r.getD j 0) && decide (r.getD j 0 ≤ 99) && (decide (j = 0) || decide (r.getD (j - 1) 0 ≤ r.getD j 0))
theorem letB_is (r : List Int) : letB r = risesB r := rfl
/-- A row under another one. -/
def lieB (r up : List Int) : Bool := decide (r.length ≤ up.length) && decide (hol r ≤ hol up) && (List.range r.length).all fun j => decide (j < hol up) || decide (up.getD j 0 < r.getD j 0)
def skB (i : Nat) (up r : List Int) : Bool := decide (0 < r.length) && risesB (r.drop (hol r)) && (decide (i = 0) || lieB r up)
def okSk (s : List (List Int)) : Bool := (List.range s.length).all fun i => skB i (upOf s i) (row s i)
def schk (s : List (List Int)) : Int := if 40 < s.flatten.length then 2 else if okSk s = true then 0 else 1

structure SkRow (i : Nat) (up r : List Int) : Prop where
  one : 0 < r.length
  low : ∀ j, hol r ≤ j → j < r.length → 1 ≤ r.getD j 0 ∧ r.getD j 0 ≤ 99
  along : ∀ j, hol r ≤ j → j + 1 < r.length → r.getD j 0 ≤ r.getD (j + 1) 0
  len : 0 < i → r.length ≤ up.length
  hol : 0 < i → hol r ≤ hol up
  over : 0 < i → ∀ j, Go.Proofs.Ytpbkidgdpejenae.hol up ≤ j → j < r.length → up.getD j 0 < r.getD j 0
theorem lieB_iff {r up : List Int} : lieB r up = true ↔ r.length ≤ up.length ∧ hol r ≤ hol up ∧ ∀ j, hol up ≤ j → j < r.length → up.getD j 0 < r.getD j 0 := by
  unfold lieB
  rw [Bool.and_eq_true, Bool.and_eq_true, decide_eq_true_eq, decide_eq_true_eq, List.all_eq_true, and_assoc]
  refine and_congr Iff.rfl (and_congr Iff.rfl ⟨fun h j h1 h2 => ?_, fun h j hj => ?_⟩)
  · have := h j (List.mem_range.2 h2)
    rw [Bool.or_eq_true, decide_eq_true_eq, decide_eq_true_eq] at this
    rcases this with q | q
    · omega
    · exact q
  · rw [Bool.or_eq_true, decide_eq_true_eq, decide_eq_true_eq]
    rcases Nat.lt_or_ge j (hol up) with c | c
    · exact Or.inl c
    · exact Or.inr (h j c (List.mem_range.1 hj))
theorem skB_iff {i : Nat} {up r : List Int} : skB i up r = true ↔ SkRow i up r := by
  unfold skB
  rw [Bool.and_eq_true, Bool.and_eq_true, Bool.or_eq_true, decide_eq_true_eq, decide_eq_true_eq, risesB_iff, lieB_iff]
  constructor
  · rintro ⟨⟨h1, h2⟩, h3⟩
    have g : ∀ j, hol r ≤ j → j < r.length → (r.drop (hol r)).getD (j - hol r) 0 = r.getD j 0 := fun j q _ => by rw [drop_getD']; congr 1; omega
    refine ⟨h1, fun j q1 q2 => ?_, fun j q1 q2 => ?_, fun q => ?_, fun q => ?_, fun q => ?_⟩
    · have := h2 (j - hol r) (by rw [List.length_drop]; omega)
      rw [g j q1 q2] at this
      exact ⟨this.1, this.2.1⟩
    · have := (h2 (j + 1 - hol r) (by rw [List.length_drop]; omega)).2.2 (by omega)
      rw [g (j + 1) (by omega) q2, show j + 1 - hol r - 1 = j - hol r by omega, g j q1 (by omega)] at this
      exact this
    · rcases h3 with z | z
      · omega
      · exact z.1
    · rcases h3 with z | z
      · omega
      · exact z.2.1
    · rcases h3 with z | z
      · omega
      · exact z.2.2
  · intro h
    refine ⟨⟨h.one, fun j hj => ?_⟩, ?_⟩
    · rw [List.length_drop] at hj
      rw [drop_getD']
      refine ⟨(h.low (hol r + j) (by omega) (by omega)).1, (h.low (hol r + j) (by omega) (by omega)).2, fun q => ?_⟩
      rw [drop_getD']
      have := h.along (hol r + (j - 1)) (by omega) (by omega)
      rw [show hol r + (j - 1) + 1 = hol r + j by omega] at this
      exact this
    · rcases Nat.eq_zero_or_pos i with c | c
      · exact Or.inl c
      · exact Or.inr ⟨h.len c, h.hol c, h.over c⟩
structure IsSk (s : List (List Int)) : Prop where
  few : s.flatten.length ≤ 40
  ok : ∀ i, i < s.length → SkRow i (upOf s i) (row s i)
theorem okSk_iff {s : List (List Int)} : okSk s = true ↔ ∀ i, i < s.length → SkRow i (upOf s i) (row s i) := by
  unfold okSk
  rw [List.all_eq_true]
  exact ⟨fun h i hi => skB_iff.1 (h i (List.mem_range.2 hi)), fun h i hi => skB_iff.2 (h i (List.mem_range.1 hi))⟩
theorem schk_ok {s : List (List Int)} : schk s = 0 ↔ IsSk s := by
  unfold schk
  by_cases c : 40 < s.flatten.length
  · rw [if_pos c]; exact ⟨fun h => by omega, fun h => by have := h.few; omega⟩
  · rw [if_neg c]
    by_cases c2 : okSk s = true
    · rw [if_pos c2]; exact ⟨fun _ => ⟨by omega, okSk_iff.1 c2⟩, fun _ => rfl⟩
    · rw [if_neg c2]; exact ⟨fun h => by omega, fun h => absurd (okSk_iff.2 h.ok) c2⟩
theorem schk_range (s : List (List Int)) : schk s = 0 ∨ schk s = 1 ∨ schk s = 2 := by
  unfold schk
  split
  · exact Or.inr (Or.inr rfl)
  · split
    · exact Or.inl rfl
    · exact Or.inr (Or.inl rfl)
theorem okSk_no {s : List (List Int)} {i : Nat} (hi : i < s.length) (h : skB i (upOf s i) (row s i) = false) : okSk s = false := by
  cases e : okSk s with
  | false => rfl
  | true => have := skB_iff.2 (okSk_iff.1 e i hi); rw [h] at this; cases this

theorem IsSk.sk {s : List (List Int)} (h : IsSk s) : Sk non (H s) s := by
  have hr := h.ok
  have hshp : Shp s := ⟨fun a ha => (hr a ha).one, fun a ha => by have := (hr (a + 1) ha).len (by omega); rw [upOf_succ] at this; exact this⟩
  have hm : ∀ a, H s (a + 1) ≤ H s a := fun a => by
    rcases Nat.lt_or_ge (a + 1) s.length with c | c
    · have := (hr (a + 1) c).hol (by omega); rw [upOf_succ] at this; exact this
    · unfold H; rw [row_out c]; simp [hol]
  have hal : ∀ a, a < s.length → ∀ b d, H s a ≤ b → b + d < (row s a).length → box s a b ≤ box s a (b + d) := by
    intro a ha b d h1
    induction d with
    | zero => intro _; exact Int.le_refl _
    | succ d ih =>
      intro h2
      have q1 := ih (by omega)
      have q2 := (hr a ha).along (b + d) (by unfold H at h1; omega) (by omega)
      unfold box at q1 ⊢
      rw [show b + (d + 1) = b + d + 1 by omega]; omega
  have hmo : ∀ a d, H s (a + d) ≤ H s a := by
    intro a d
    induction d with
    | zero => exact Nat.le_refl _
    | succ d ih => exact Nat.le_trans (hm (a + d)) ih
  have hdn : ∀ a b d, H s a ≤ b → b < (row s (a + d + 1)).length → box s a b < box s (a + d + 1) b := by
    intro a b d h1
    induction d with
    | zero =>
      intro h2
      have := (hr (a + 1) (row_lt h2)).over (by omega) b
      rw [upOf_succ] at this
      exact this h1 h2
    | succ d ih =>
      intro h2
      have q := hshp.shorter' (a := a + d + 1) (b := a + (d + 1) + 1) (by omega)
      have q1 := ih (by omega)
      have q2 := (hr (a + (d + 1) + 1) (row_lt h2)).over (by omega) b
      rw [upOf_succ] at q2
      have q3 := q2 (by have := hmo a (d + 1); unfold H at this h1; omega) h2
      unfold box at q1 ⊢
      rw [show a + d + 1 = a + (d + 1) by omega] at q1
      omega
  refine ⟨hshp, hm, fun a => hol_le _, fun a b hb => hol_zero _ b hb, fun a b h1 h2 _ => ((hr a (row_lt h2)).low b h1 h2).1, fun a b c h1 h2 h3 _ _ => ?_, fun a c b h1 h2 h3 _ _ => ?_⟩
  · have := hal a (row_lt h3) b (c - b) h1 (by omega)
    rw [show b + (c - b) = c by omega] at this; exact this
  · have := hdn a b (c - a - 1) h2 (by rw [show a + (c - a - 1) + 1 = c by omega]; exact h3)
    rw [show a + (c - a - 1) + 1 = c by omega] at this; exact this
theorem Sk.hol {h : Nat → Nat} {s : List (List Int)} (k : Sk non h s) (a : Nat) : Go.Proofs.Ytpbkidgdpejenae.hol (row s a) = h a :=
  hol_is (k.hl a) (fun j hj => k.zer a j hj) (fun hj => by have := k.pos a (h a) (Nat.le_refl _) hj (fun q => q); unfold box at this; omega)
theorem Sk.isSk {h : Nat → Nat} {s : List (List Int)} (k : Sk non h s) (h40 : s.flatten.length ≤ 40) (h99 : ∀ z ∈ sword h s, z ≤ 99) (hbx : ∀ a b, h a ≤ b → b < (row s a).length → box s a b ∈ sword h s) : IsSk s := by
  refine ⟨h40, fun i hi => ⟨k.shp.1 i hi, fun j h1 h2 => ?_, fun j h1 h2 => ?_, fun q => ?_, fun q => ?_, fun q j h1 h2 => ?_⟩⟩
  · rw [k.hol] at h1; exact ⟨k.pos i j h1 h2 (fun q => q), h99 _ (hbx i j h1 h2)⟩
  · rw [k.hol] at h1; exact k.along i j (j + 1) h1 (by omega) h2 (fun q => q) (fun q => q)
  · obtain ⟨i, rfl⟩ : ∃ m, i = m + 1 := ⟨i - 1, by omega⟩
    rw [upOf_succ]; exact k.shp.shorter' (by omega)
  · obtain ⟨i, rfl⟩ : ∃ m, i = m + 1 := ⟨i - 1, by omega⟩
    rw [upOf_succ, k.hol, k.hol]; exact k.hm i
  · obtain ⟨i, rfl⟩ : ∃ m, i = m + 1 := ⟨i - 1, by omega⟩
    rw [upOf_succ] at h1 ⊢
    rw [k.hol] at h1
    exact k.down i (i + 1) j (by omega) h1 h2 (fun q => q) (fun q => q)
theorem mem_sword : ∀ (s : List (List Int)) (h : Nat → Nat) (a b : Nat), h a ≤ b → b < (row s a).length → box s a b ∈ sword h s := by
  intro s
  induction s with
  | nil => intro h a b _ hb; simp [row] at hb
  | cons r s ih =>
    intro h a b h1 h2
    simp only [sword]
    cases a with
    | zero =>
      refine List.mem_append.2 (Or.inr ?_)
      have h2' : b < r.length := h2
      have : box (r :: s) 0 b = (r.drop (h 0)).getD (b - h 0) 0 := by rw [drop_getD']; show r.getD b 0 = _; congr 1; omega
      rw [this]; exact getD_mem (by rw [List.length_drop]; omega)
    | succ a => exact List.mem_append.2 (Or.inl (ih (fun a => h (a + 1)) a b h1 h2))

/-- One hole less. -/
def less (h : Nat → Nat) (i : Nat) : Nat → Nat := fun a => if a = i then h i - 1 else h a
theorem sword_congr : ∀ (s : List (List Int)) (h h' : Nat → Nat), (∀ a, a < s.length → h a = h' a) → sword h s = sword h' s := by
  intro s
  induction s with
  | nil => intro h h' _; rfl
  | cons r s ih => intro h h' e; simp only [sword]; rw [ih _ _ (fun a ha => e (a + 1) (by simpa using ha)), e 0 (by simp)]
theorem corner_hol {h : Nat → Nat} {s : List (List Int)} (k : Sk non h s) {i : Nat} (hc : h (i + 1) < h i) : Hol (less h i) s i (h i - 1) ∧ sword (less h i) (er s i (h i - 1)) = sword h s := by
  have hi : ∀ a b, less h i a ≤ b → ¬ one i (h i - 1) a b → h a ≤ b := fun a b h1 h2 => by
    unfold less at h1
    by_cases e : a = i
    · rw [if_pos e] at h1
      have : b ≠ h i - 1 := fun q => h2 ⟨e, q⟩
      rw [e]; omega
    · rw [if_neg e] at h1; exact h1
  have hl := k.hl i
  refine ⟨⟨⟨k.shp, fun a => ?_, fun a => ?_, fun a b hb => k.zer a b ?_, fun a b h1 h2 hx => k.pos a b (hi a b h1 hx) h2 (fun q => q), fun a b c h1 h2 h3 hx hy => k.along a b c (hi a b h1 hx) h2 h3 (fun q => q) (fun q => q), fun a c b h1 h2 h3 hx hy => k.down a c b h1 (hi a b h2 hx) h3 (fun q => q) (fun q => q)⟩, by unfold less; rw [if_pos rfl]; exact Nat.le_refl _, by omega⟩, ?_⟩
  · have := k.hm a
    unfold less
    by_cases e : a = i
    · subst e; rw [if_neg (by omega), if_pos rfl]; omega
    · rw [if_neg e]
      by_cases e2 : a + 1 = i
      · rw [if_pos e2, ← e2]; omega
      · rw [if_neg e2]; exact this
  · have := k.hl a
    unfold less
    by_cases e : a = i
    · rw [if_pos e, ← e]; omega
    · rw [if_neg e]; exact this
  · unfold less at hb
    by_cases e : a = i
    · rw [if_pos e] at hb; rw [e]; omega
    · rw [if_neg e] at hb; exact hb
  · have hir : i < s.length := row_lt (c := h i - 1) (by omega)
    unfold er
    rw [sword1 _ hir]
    have e0 : s.set i (row s i) = s := by
      refine ext_row (by simp) (fun a _ => ?_)
      rw [set_row]
      by_cases q : a = i ∧ i < s.length
      · rw [if_pos q, q.1]
      · rw [if_neg q]
    have := sword1 h hir (row s i)
    rw [e0] at this
    rw [this]
    congr 1
    · congr 1
      · exact sword_congr _ _ _ (fun a _ => by unfold less; rw [if_neg (by omega)])
      · unfold less
        rw [if_pos rfl, erase_at, List.drop_append_of_le_length (by rw [List.length_take]; omega)]
        rw [show h i - 1 + 1 = h i by omega, List.drop_eq_nil_of_le (by rw [List.length_take]; omega), List.nil_append]
    · exact sword_congr _ _ _ (fun a ha => by rw [List.length_take] at ha; unfold less; rw [if_neg (by omega)])

/-- The slide from the last hole of a row. -/
def slR (s : List (List Int)) (i : Nat) : List (List Int) × Nat :=
  (tk (mv (left s i (hol (row s i) - 1)) s i (hol (row s i) - 1)).1 (mv (left s i (hol (row s i) - 1)) s i (hol (row s i) - 1)).2.1, (mv (left s i (hol (row s i) - 1)) s i (hol (row s i) - 1)).2.1)
theorem slR_ok {h : Nat → Nat} {s : List (List Int)} (k : Sk non h s) {i : Nat} (hc : h (i + 1) < h i) : Sk non (less h i) (slR s i).1 ∧ Eqv (sword h s) (sword (less h i) (slR s i).1) ∧ (slR s i).1.flatten.length + 1 = s.flatten.length := by
  obtain ⟨k1, k2⟩ := corner_hol k hc
  have hh := k.hol i
  have e := mv_ends _ _ s i (h i - 1) k1 (Nat.le_refl _)
  obtain ⟨c1, c2⟩ := e.corner
  obtain ⟨g1, g2, g3⟩ := tk_sk e.hol c1 c2
  unfold slR
  rw [hh]
  refine ⟨g1, ?_, ?_⟩
  · rw [← k2, ← g2]; exact e.word
  · have hi' := e.hol.row
    simp only
    generalize mv (left s i (h i - 1)) s i (h i - 1) = m at *
    rw [flat_sum, flat_sum s]
    have hlen : ∀ a, (row (tk m.1 m.2.1) a).length = if a = m.2.1 then m.2.2 else (row s a).length := fun a => by
      rw [g3]
      by_cases q : a = m.2.1
      · rw [if_pos q, if_pos q, List.length_dropLast, c1]; rfl
      · rw [if_neg q, if_neg q, e.lens]
    have hS : S (tk m.1 m.2.1).length (fun a => (row (tk m.1 m.2.1) a).length) = S s.length (fun a => (row (tk m.1 m.2.1) a).length) := by
      have hle : (tk m.1 m.2.1).length ≤ s.length := by
        unfold tk
        have := e.len
        split
        · rw [List.length_take]; omega
        · rw [List.length_set]; omega
      exact (S_cut hle (fun a h1 _ => by rw [row_out h1]; rfl)).symm
    rw [hS, S_congr (fun a _ => hlen a)]
    have hi2 : m.2.1 < s.length := by rw [← e.len]; exact hi'
    have e2 : S s.length (fun a => (row s a).length) = S s.length (fun a => (if a = m.2.1 then m.2.2 else (row s a).length) + ind (a = m.2.1)) := S_congr (fun a _ => by
      by_cases q : a = m.2.1
      · subst q
        rw [if_pos rfl, ← e.lens, c1]; simp [ind]
      · rw [if_neg q]; simp [ind, q])
    rw [e2, S_add, S_just (p := fun a => a = m.2.1) hi2 rfl (fun i _ q => q)]

/-- The rows of the holes, the first ones first. -/
def Lat (rows : List Nat) : Prop := ∀ k a, (rows.take k).count (a + 1) ≤ (rows.take k).count a
def recS : List Nat → List (List Int) → List (List Int)
  | [], s => s
  | i :: l, s => recS l (slR s i).1
theorem rec_ok : ∀ (n : Nat) (rows : List Nat) (s : List (List Int)) (h : Nat → Nat), rows.length = n → Lat rows → Sk non h s → (∀ a, h a = rows.count a) → Sk non (fun _ => 0) (recS rows.reverse s) ∧ Eqv (sword h s) (wrd (recS rows.reverse s)) := by
  intro n
  induction n with
  | zero =>
    intro rows s h hn _ k e
    have : rows = [] := List.eq_nil_of_length_eq_zero hn
    subst this
    have e' : h = fun _ => 0 := funext (fun a => by rw [e]; rfl)
    subst e'
    exact ⟨k, by rw [sword_zero]; exact Eqv.refl _⟩
  | succ n ih =>
    intro rows s h hn hL k e
    obtain ⟨l, i, rfl⟩ : ∃ l i, rows = l ++ [i] := by
      have : rows ≠ [] := fun q => by rw [q] at hn; simp at hn
      exact ⟨rows.dropLast, rows.getLast this, (List.dropLast_concat_getLast this).symm⟩
    rw [List.reverse_append]
    show Sk non (fun _ => 0) (recS l.reverse (slR s i).1) ∧ Eqv (sword h s) (wrd (recS l.reverse (slR s i).1))
    have hl : l.length = n := by simpa using hn
    have hc : h (i + 1) < h i := by
      have := hL l.length i
      rw [List.take_left] at this
      rw [e, e, List.count_append, List.count_append, List.count_singleton_self]
      have : List.count (i + 1) [i] = 0 := by simp
      omega
    obtain ⟨k1, k2, _⟩ := slR_ok k hc
    have hL' : Lat l := fun m a => by
      by_cases c : m ≤ l.length
      · have := hL m a
        rw [List.take_append_of_le_length c] at this
        exact this
      · have := hL l.length a
        rw [List.take_left] at this
        rw [List.take_of_length_le (by omega)]
        exact this
    obtain ⟨g1, g2⟩ := ih l _ _ hl hL' k1 (fun a => by
      unfold less
      by_cases q : a = i
      · rw [if_pos q, e, q, List.count_append, List.count_singleton_self]; omega
      · rw [if_neg q, e, List.count_append]
        have : List.count a [i] = 0 := by rw [List.count_eq_zero]; simp; exact q
        omega)
    exact ⟨g1, k2.trans g2⟩
theorem rec_is {rows : List Nat} {s : List (List Int)} {h : Nat → Nat} (hL : Lat rows) (k : Sk non h s) (e : ∀ a, h a = rows.count a) : recS rows.reverse s = insW [] (sword h s) := by
  obtain ⟨g1, g2⟩ := rec_ok _ rows s h rfl hL k e
  rw [g2.P, wrd_T _ (sk_T g1)]

end Go.Proofs.Ytpbkidgdpejenae

namespace Go.Proofs.Ytpbkidgdpejenae

theorem nodup_filter (p : Int → Bool) {w : List Int} (h : w.Nodup) : (w.filter p).Nodup := List.Pairwise.sublist List.filter_sublist h

/-- A standard tableau of n boxes. -/
structure Std (n : Nat) (t : List (List Int)) : Prop where
  tab : T t
  perm : IsPerm (wrd t)
  len : (wrd t).length = n
theorem Std.low {n : Nat} {t : List (List Int)} (h : Std n t) : ∀ z ∈ wrd t, 1 ≤ z ∧ z ≤ n := fun z hz => ⟨h.perm.low z hz, by have := h.perm.high z hz; rw [h.len] at this; exact this⟩
theorem Std.all {n : Nat} {t : List (List Int)} (h : Std n t) {v : Int} (h1 : 1 ≤ v) (h2 : v ≤ n) : v ∈ wrd t := h.perm.all h1 (by rw [h.len]; exact h2)
theorem perm_isPerm {u v : List Int} (h : u.Perm v) (hv : IsPerm v) : IsPerm u :=
  ⟨by rw [h.length_eq]; exact hv.len, fun z hz => hv.low z (h.mem_iff.1 hz), fun z hz => by rw [h.length_eq]; exact hv.high z (h.mem_iff.1 hz), h.nodup_iff.2 hv.once⟩

theorem star_filter (c k : Int) (w : List Int) : (star c w).filter (fun z => decide (z ≤ k)) = star c (w.filter (fun z => decide (c - k ≤ z))) := by
  unfold star
  rw [List.filter_reverse, List.filter_map]
  congr 2
  refine List.filter_congr (fun z _ => ?_)
  simp only [Function.comp_apply]
  exact decide_eq_decide.2 (by omega)
theorem star_perm {n : Nat} {w : List Int} (h : IsPerm w) (hl : w.length = n) : IsPerm (star (n + 1) w) := by
  refine ⟨by simp [star]; exact h.len, fun z hz => ?_, fun z hz => ?_, ?_⟩
  · simp [star] at hz
    obtain ⟨y, hy, rfl⟩ := hz
    have := h.high y hy; rw [hl] at this; omega
  · simp [star] at hz ⊢
    obtain ⟨y, hy, rfl⟩ := hz
    have := h.low y hy; omega
  · unfold star
    have := h.once
    refine (List.reverse_perm _).nodup_iff.2 ?_
    unfold List.Nodup at this ⊢
    rw [List.pairwise_map]
    exact this.imp (fun p => by omega)

/-- The word turned over, put in. -/
def evT (n : Nat) (t : List (List Int)) : List (List Int) := insW [] (star (n + 1) (wrd t))
theorem evT_word (n : Nat) (t : List (List Int)) : Eqv (wrd (evT n t)) (star (n + 1) (wrd t)) := (eqv_word _).symm
theorem evT_std {n : Nat} {t : List (List Int)} (h : Std n t) : Std n (evT n t) := by
  have hp := (evT_word n t).perm
  exact ⟨insW_T _ [] trivial, perm_isPerm hp (star_perm h.perm h.len), by rw [hp.length_eq]; simp [star]; exact h.len⟩
theorem evT_shape {n : Nat} {t : List (List Int)} (h : Std n t) : sameShape (evT n t) t := by
  have := star_shape h.perm.once (n + 1)
  rw [wrd_T t h.tab] at this
  exact this
theorem evT_evT {n : Nat} {t : List (List Int)} (h : Std n t) : evT n (evT n t) = t := by
  refine T_uniq (evT_std (evT_std h)).tab h.tab ((evT_word n _).trans ?_)
  have := (evT_word n t).star (n + 1)
  rw [star_star] at this
  exact this

/-- What the letters above m leave. -/
def abv (m : Nat) (w : List Int) : List Int := w.filter (fun z => decide ((m : Int) < z))
theorem shape_rs {n : Nat} {t : List (List Int)} (h : Std n t) (m : Nat) (a b : Nat) :
    b < (row (insW [] (abv m (wrd t))) a).length ↔ b < (row (evT n t) a).length ∧ box (evT n t) a b ≤ (n : Int) - m := by
  have hT := (evT_std h).tab
  rw [← (rs_box (evT n t) ((n : Int) - m) hT a b).1]
  have e1 : rs ((n : Int) - m) (evT n t) = insW [] (star (n + 1) (abv m (wrd t))) := by
    rw [← wrd_T _ (T_rs _ ((n : Int) - m) hT), wrd_rs _ _ hT]
    have k := (evT_word n t).filter (fun z => decide (z ≤ (n : Int) - m)) (fun x y z h1 h2 h3 h4 => by simp at h3 h4 ⊢; omega)
    rw [star_filter] at k
    rw [k.P]
    congr 2
    unfold abv
    refine List.filter_congr (fun z _ => ?_)
    exact decide_eq_decide.2 (by omega)
  rw [e1]
  have hh := star_shape (w := abv m (wrd t)) (nodup_filter _ h.perm.once) (n + 1) a
  rw [hh]

/-- The slide that begins in the first box. -/
def sl (t : List (List Int)) : List (List Int) × Nat × Nat := (tk (mv (left t 0 0) t 0 0).1 (mv (left t 0 0) t 0 0).2.1, (mv (left t 0 0) t 0 0).2.1, (mv (left t 0 0) t 0 0).2.2)
theorem T_hol {t : List (List Int)} (h : T t) (h1 : ∀ z ∈ t.flatten, 1 ≤ z) (h0 : 0 < t.length) : Hol (fun _ => 0) t 0 0 := ⟨T_sk h h1 _, Nat.le_refl _, h.shp.1 0 h0⟩
structure Slid (t : List (List Int)) (t' : List (List Int)) (i j : Nat) : Prop where
  tab : T t'
  word : Eqv (sword (fun _ => 0) (er t 0 0)) (wrd t')
  end1 : (row t i).length = j + 1
  lens : ∀ a, (row t' a).length = if a = i then j else (row t a).length
theorem sl_ok {t : List (List Int)} (h : T t) (h1 : ∀ z ∈ t.flatten, 1 ≤ z) (h0 : 0 < t.length) : Slid t (sl t).1 (sl t).2.1 (sl t).2.2 := by
  have e := mv_ends _ _ t 0 0 (T_hol h h1 h0) (Nat.le_refl _)
  obtain ⟨c1, c2⟩ := e.corner
  obtain ⟨k1, k2, k3⟩ := tk_sk e.hol c1 c2
  refine ⟨sk_T k1, ?_, by rw [← e.lens]; exact c1, fun a => ?_⟩
  · refine e.word.trans ?_
    rw [k2, sword_zero]; exact Eqv.refl _
  · show (row (tk (mv (left t 0 0) t 0 0).1 (mv (left t 0 0) t 0 0).2.1) a).length = if a = (mv (left t 0 0) t 0 0).2.1 then (mv (left t 0 0) t 0 0).2.2 else (row t a).length
    rw [k3]
    by_cases q : a = (mv (left t 0 0) t 0 0).2.1
    · rw [if_pos q, if_pos q, List.length_dropLast, c1]; rfl
    · rw [if_neg q, if_neg q, e.lens]
theorem first_least {t : List (List Int)} (h : T t) (hn : (wrd t).Nodup) (h0 : 0 < t.length) : sword (fun _ => 0) (er t 0 0) = (wrd t).filter (fun z => decide (box t 0 0 < z)) ∧ box t 0 0 ∈ wrd t ∧ ∀ z ∈ wrd t, box t 0 0 ≤ z := by
  cases t with
  | nil => simp at h0
  | cons r t =>
    obtain ⟨x, r, rfl⟩ : ∃ x r', r = x :: r' := by
      cases r with
      | nil => have := h.1; simp at this
      | cons x r => exact ⟨x, r, rfl⟩
    have hx : box ((x :: r) :: t) 0 0 = x := rfl
    have hmin : ∀ z ∈ ((x :: r) :: t).flatten, x ≤ z := fun z hz => by
      have := rs_none (k := x - 1) h (by
        have := (spot_has (x - 1) (x :: r)).pass 0
        rcases Nat.eq_zero_or_pos (spot false (x - 1) (x :: r)) with c | c
        · exact c
        · have := this c; simp at this; omega) z hz
      omega
    rw [hx]
    refine ⟨?_, wrd_mem.2 (by simp), fun z hz => hmin z (wrd_mem.1 hz)⟩
    have e : er ((x :: r) :: t) 0 0 = r :: t := rfl
    rw [e, sword_zero, wrd_cons, wrd_cons]
    have hn' : (x :: (wrd t ++ r)).Nodup := by
      refine (List.Perm.nodup_iff ?_).1 hn
      rw [wrd_cons]; exact List.perm_middle
    have hne : ∀ z ∈ wrd t ++ r, x ≠ z := fun z hz q => (List.nodup_cons.1 hn').1 (q ▸ hz)
    have hgt : ∀ z ∈ wrd t ++ r, x < z := fun z hz => by
      have h1 := hne z hz
      have h2 := hmin z (by rw [List.mem_append, wrd_mem] at hz; rw [List.flatten_cons, List.mem_append, List.mem_cons]; rcases hz with q | q
                            · exact Or.inr q
                            · exact Or.inl (Or.inr q))
      omega
    rw [List.filter_append, List.filter_cons, if_neg (by simp), ← List.filter_append]
    exact (List.filter_eq_self.2 (fun z hz => by simpa using hgt z hz)).symm

/-- Evacuated: what is left, and what is written down. -/
def ev : Nat → List (List Int) → List (List Int) → List (List Int)
  | 0, _, u => u
  | n + 1, t, u => ev n (sl t).1 (sb u (sl t).2.1 (sl t).2.2 ((n : Int) + 1))
structure EvI (n : Nat) (t : List (List Int)) (k : Nat) (rest u : List (List Int)) : Prop where
  le : k ≤ n
  tab : T rest
  word : Eqv (wrd rest) (abv (n - k) (wrd t))
  shape : sameShape u (evT n t)
  len : u.length = (evT n t).length
  says : ∀ a b, b < (row u a).length → (row rest a).length ≤ b → box u a b = box (evT n t) a b
theorem abv_abv {w : List Int} (m : Nat) : (abv m w).filter (fun z => decide (((m : Int) + 1) < z)) = abv (m + 1) w := by
  unfold abv
  rw [List.filter_filter]
  refine List.filter_congr (fun z _ => ?_)
  rw [← Bool.decide_and]
  exact decide_eq_decide.2 (by omega)
theorem EvI.pos {n : Nat} {t : List (List Int)} {k : Nat} {rest u : List (List Int)} (h : EvI n t k rest u) : ∀ z ∈ rest.flatten, 1 ≤ z := fun z hz => by
  have := h.word.perm.mem_iff.1 (wrd_mem.2 hz)
  unfold abv at this
  have := (List.mem_filter.1 this).2
  simp at this; omega
theorem ev_more {n : Nat} {t : List (List Int)} (hs : Std n t) {k : Nat} {rest u : List (List Int)} (h : EvI n t (k + 1) rest u) : 0 < rest.length ∧ EvI n t k (sl rest).1 (sb u (sl rest).2.1 (sl rest).2.2 ((k : Int) + 1)) := by
  have hle := h.le
  have hpm := h.word.perm
  have hin : ((n - (k + 1) : Nat) : Int) + 1 ∈ wrd rest := by
    refine hpm.mem_iff.2 ?_
    unfold abv
    refine List.mem_filter.2 ⟨hs.all (by omega) (by omega), by simp; omega⟩
  have h0 : 0 < rest.length := by
    cases rest with
    | nil => simp [wrd] at hin
    | cons r t => simp
  refine ⟨h0, ?_⟩
  have hn : (wrd rest).Nodup := hpm.nodup_iff.2 (nodup_filter _ hs.perm.once)
  obtain ⟨f1, f2, f3⟩ := first_least h.tab hn h0
  have hx : box rest 0 0 = ((n - (k + 1) : Nat) : Int) + 1 := by
    have q1 := f3 _ hin
    have q2 := hpm.mem_iff.1 f2
    unfold abv at q2
    have q3 := (List.mem_filter.1 q2).2
    simp at q3
    omega
  have S := sl_ok h.tab h.pos h0
  obtain ⟨s, hse⟩ : ∃ s, s = sl rest := ⟨_, rfl⟩
  rw [← hse] at S ⊢
  have hw : Eqv (wrd s.1) (abv (n - k) (wrd t)) := by
    refine S.word.symm.trans ?_
    rw [f1, hx]
    have := h.word.filter (fun z => decide (((n - (k + 1) : Nat) : Int) + 1 < z)) (fun x y z h1 h2 h3 h4 => by simp at h3 h4 ⊢; omega)
    rw [abv_abv, show n - (k + 1) + 1 = n - k by omega] at this
    exact this
  have sh1 := shape_rs hs (n - (k + 1))
  have sh2 := shape_rs hs (n - k)
  rw [← h.word.P, wrd_T _ h.tab] at sh1
  rw [← hw.P, wrd_T _ S.tab] at sh2
  have hj : s.2.2 < (row u s.2.1).length := by
    have := (sh1 s.2.1 s.2.2).1 (by rw [S.end1]; omega)
    rw [h.shape]; exact this.1
  refine ⟨by omega, S.tab, hw, fun a => by rw [sb_len]; exact h.shape a, by rw [sb_length]; exact h.len, fun a b h1 h2 => ?_⟩
  rw [sb_len] at h1
  rw [sb_box hj]
  by_cases c : a = s.2.1 ∧ b = s.2.2
  · rw [if_pos c, c.1, c.2]
    have q1 := (sh1 s.2.1 s.2.2).1 (by rw [S.end1]; omega)
    have q2 : ¬ (s.2.2 < (row (evT n t) s.2.1).length ∧ box (evT n t) s.2.1 s.2.2 ≤ (n : Int) - ((n - k : Nat) : Int)) := fun q => by
      have := (sh2 s.2.1 s.2.2).2 q
      rw [S.lens, if_pos rfl] at this; omega
    have q3 : ¬ box (evT n t) s.2.1 s.2.2 ≤ (n : Int) - ((n - k : Nat) : Int) := fun q => q2 ⟨q1.1, q⟩
    have := q1.2
    omega
  · rw [if_neg c]
    refine h.says a b h1 ?_
    rw [S.lens] at h2
    by_cases e : a = s.2.1
    · rw [if_pos e] at h2
      rw [e, S.end1]
      have : b ≠ s.2.2 := fun q => c ⟨e, q⟩
      omega
    · rw [if_neg e] at h2; exact h2
theorem ev_is {n : Nat} {t : List (List Int)} (hs : Std n t) : ∀ (k : Nat) (rest u : List (List Int)), EvI n t k rest u → ev k rest u = evT n t := by
  intro k
  induction k with
  | zero =>
    intro rest u h
    have h0 : rest = [] := by
      have q : wrd rest = [] := by
        have := h.word.perm
        have e : abv (n - 0) (wrd t) = [] := by
          unfold abv
          refine List.filter_eq_nil_iff.2 (fun z hz => ?_)
          have := (hs.low z hz).2
          simp; omega
        rw [e] at this
        exact List.Perm.eq_nil this
      have := wrd_T rest h.tab
      rw [q] at this
      exact this.symm
    subst h0
    show u = _
    refine ext_row h.len (fun a _ => ext_getD (h.shape a) (fun b hb => ?_))
    exact h.says a b hb (by simp [row])
  | succ k ih =>
    intro rest u h
    exact ih _ _ (ev_more hs h).2
theorem ev_start {n : Nat} {t : List (List Int)} (hs : Std n t) : EvI n t n t t := by
  have sh := evT_shape hs
  refine ⟨Nat.le_refl _, hs.tab, ?_, fun a => (sh a).symm, ?_, fun a b h1 h2 => by omega⟩
  · have e : abv (n - n) (wrd t) = wrd t := by
      unfold abv
      refine List.filter_eq_self.2 (fun z hz => ?_)
      have := (hs.low z hz).1
      simp; omega
    rw [e]; exact Eqv.refl _
  · have hT := (evT_std hs).tab
    refine Nat.le_antisymm (Nat.le_of_not_lt (fun c => ?_)) (Nat.le_of_not_lt (fun c => ?_))
    · have := hs.tab.shp.1 _ c
      rw [← sh, row_out (Nat.le_refl _)] at this; simp at this
    · have := hT.shp.1 _ c
      rw [sh, row_out (Nat.le_refl _)] at this; simp at this
theorem ev_all {n : Nat} {t : List (List Int)} (hs : Std n t) : ev n t t = evT n t := ev_is hs n t t (ev_start hs)

end Go.Proofs.Ytpbkidgdpejenae

namespace Go.Proofs.Ytpbkidgdpejenae

theorem lat_sorted {rows : List Nat} (hs : rows.Pairwise (· ≤ ·)) (hc : ∀ a, rows.count (a + 1) ≤ rows.count a) : Lat rows := by
  intro k a
  by_cases c : a + 1 ∈ rows.take k
  · have e := List.take_append_drop k rows
    have h1 : (rows.drop k).count a = 0 := by
      rw [List.count_eq_zero]
      intro q
      rw [← e] at hs
      have := (List.pairwise_append.1 hs).2.2 (a + 1) c a q
      omega
    have h4 : ∀ b, rows.count b = (rows.take k).count b + (rows.drop k).count b := fun b => by
      rw [← List.count_append, e]
    have h2 := h4 a
    have h3 := h4 (a + 1)
    have := hc a
    omega
  · rw [List.count_eq_zero.2 c]; exact Nat.zero_le _
/-- The rows that the numbers stand in. -/
structure RowsOf (o : List (List Int)) (n : Nat) (rows : List Nat) : Prop where
  len : rows.length = n
  at' : ∀ a b, b < (row o a).length → rows.getD ((box o a b).toNat - 1) 0 = a
theorem countP_le_succ (r : List Int) (k : Int) : (r.filter (fun z => decide (z ≤ k + 1))).length = (r.filter (fun z => decide (z ≤ k))).length + r.count (k + 1) := by
  induction r with
  | nil => rfl
  | cons x r ih =>
    rw [List.filter_cons, List.filter_cons, List.count_cons]
    by_cases c1 : x ≤ k
    · rw [if_pos (by simp; omega), if_pos (by simpa using c1), List.length_cons, List.length_cons, ih, if_neg (by simp; omega)]; omega
    · by_cases c2 : x = k + 1
      · rw [if_pos (by simp; omega), if_neg (by simpa using c1), List.length_cons, ih, if_pos (by simp [c2])]; omega
      · rw [if_neg (by simp; omega), if_neg (by simpa using c1), ih, if_neg (by simpa using c2)]; omega
theorem RowsOf.count {o : List (List Int)} {n : Nat} {rows : List Nat} (h : RowsOf o n rows) (ho : Std n o) : ∀ (k : Nat), k ≤ n → ∀ a, (rows.take k).count a = ((row o a).filter (fun z => decide (z ≤ (k : Int)))).length := by
  intro k
  induction k with
  | zero =>
    intro _ a
    rw [List.filter_eq_nil_iff.2 (fun z hz => ?_)]
    · rfl
    · obtain ⟨b, hb, rfl⟩ := List.mem_iff_getElem.1 hz
      have := (ho.low _ (wrd_mem.2 (box_mem (row_lt hb) hb))).1
      unfold box at this
      simp [List.getD, List.getElem?_eq_getElem hb] at this
      simp; omega
  | succ k ih =>
    intro hk a
    have hkl : k < rows.length := by rw [h.len]; omega
    rw [List.take_succ_eq_append_getElem hkl, List.count_append, ih (by omega) a, show ((k + 1 : Nat) : Int) = (k : Int) + 1 by omega, countP_le_succ]
    congr 1
    obtain ⟨c, d, hc, hd, e⟩ := flat_mem (wrd_mem.1 (ho.all (v := (k : Int) + 1) (by omega) (by omega)))
    have hk2 := h.at' c d hd
    rw [e, show ((k : Int) + 1).toNat - 1 = k by omega] at hk2
    have hk3 : rows[k] = c := by rw [← hk2]; simp [List.getD, List.getElem?_eq_getElem hkl]
    rw [hk3]
    have hnd : (row o a).Nodup := by
      have h1 : o.flatten.Nodup := (wrd_perm o).nodup_iff.1 ho.perm.once
      by_cases q : a < o.length
      · unfold List.Nodup at h1
        exact (List.pairwise_flatten.1 h1).1 _ (row_mem q)
      · rw [row_out (by omega)]; exact List.nodup_nil
    by_cases q : a = c
    · subst q
      rw [List.count_singleton_self]
      have hin : (k : Int) + 1 ∈ row o a := by rw [← e]; exact getD_mem hd
      have := List.nodup_iff_count.1 hnd ((k : Int) + 1)
      have := List.count_pos_iff.2 hin
      omega
    · have z1 : List.count a [c] = 0 := by rw [List.count_eq_zero]; simp; exact q
      rw [z1]
      symm
      rw [List.count_eq_zero]
      intro hin
      obtain ⟨b, hb, e2⟩ := List.mem_iff_getElem.1 hin
      have := h.at' a b hb
      have e3 : box o a b = (k : Int) + 1 := by unfold box; simp [List.getD, List.getElem?_eq_getElem hb, e2]
      rw [e3, show ((k : Int) + 1).toNat - 1 = k by omega, hk2] at this
      exact q this.symm
theorem RowsOf.lat {o : List (List Int)} {n : Nat} {rows : List Nat} (h : RowsOf o n rows) (ho : Std n o) : Lat rows ∧ ∀ a, rows.count a = (row o a).length := by
  have key : ∀ k, k ≤ n → ∀ a, (rows.take k).count (a + 1) ≤ (rows.take k).count a := by
    intro k hk a
    rw [h.count ho k hk, h.count ho k hk]
    by_cases q : a + 1 < o.length
    · have hr := (T_row.1 ho.tab)
      obtain ⟨h1, h2, h3, h4⟩ := hr a (by omega)
      obtain ⟨g1, g2, g3, g4⟩ := hr (a + 1) q
      rw [filter_spot h2, filter_spot g2, List.length_take, List.length_take]
      have hs := spot_has (k : Int) (row o a)
      have hu := spot_has (k : Int) (row o (a + 1))
      have hle : spot false (k : Int) (row o (a + 1)) ≤ spot false (k : Int) (row o a) := Nat.le_of_not_lt (fun q => by
        have q1 := hu.pass _ q
        have q2 := hs.stop (by have := hu.le; omega)
        have q3 := h4 (spot false (k : Int) (row o a)) (by have := hu.le; omega)
        omega)
      have := hs.le
      omega
    · rw [row_out (by omega)]; simp
  have htot : ∀ a, rows.count a = (row o a).length := fun a => by
    have := h.count ho n (Nat.le_refl _) a
    rw [List.take_of_length_le (by rw [h.len]; exact Nat.le_refl _)] at this
    rw [this, List.filter_eq_self.2 (fun z hz => ?_)]
    by_cases q : a < o.length
    · have := (ho.low z (wrd_mem.2 (List.mem_flatten.2 ⟨_, row_mem q, hz⟩))).2
      simpa using this
    · rw [row_out (by omega)] at hz; simp at hz
  refine ⟨fun k a => ?_, htot⟩
  by_cases c : k ≤ n
  · exact key k c a
  · have := key n (Nat.le_refl _) a
    rw [List.take_of_length_le (by rw [h.len]; exact Nat.le_refl _)] at this
    rw [List.take_of_length_le (by rw [h.len]; omega)]
    exact this
/-- Row by row. -/
def byRow : Nat → List Int → List Nat
  | _, [] => []
  | i, x :: l => List.replicate x.toNat i ++ byRow (i + 1) l
theorem byRow_low : ∀ (l : List Int) (i : Nat), ∀ a ∈ byRow i l, i ≤ a := by
  intro l
  induction l with
  | nil => intro i a h; simp [byRow] at h
  | cons x l ih =>
    intro i a h
    simp only [byRow, List.mem_append] at h
    rcases h with q | q
    · rw [(List.mem_replicate.1 q).2]; exact Nat.le_refl _
    · have := ih (i + 1) a q; omega
theorem byRow_sorted : ∀ (l : List Int) (i : Nat), (byRow i l).Pairwise (· ≤ ·) := by
  intro l
  induction l with
  | nil => intro i; exact List.Pairwise.nil
  | cons x l ih =>
    intro i
    simp only [byRow]
    refine List.pairwise_append.2 ⟨List.pairwise_replicate.2 (Or.inr (Nat.le_refl _)), ih (i + 1), fun a ha b hb => ?_⟩
    rw [(List.mem_replicate.1 ha).2]
    have := byRow_low l (i + 1) b hb; omega
theorem byRow_count : ∀ (l : List Int) (i a : Nat), (byRow i l).count (i + a) = (l.getD a 0).toNat := by
  intro l
  induction l with
  | nil => intro i a; simp [byRow]
  | cons x l ih =>
    intro i a
    simp only [byRow, List.count_append]
    cases a with
    | zero =>
      have : (byRow (i + 1) l).count (i + 0) = 0 := by rw [List.count_eq_zero]; intro q; have := byRow_low l (i + 1) _ q; omega
      rw [this]; simp
    | succ a =>
      have h1 := ih (i + 1) a
      rw [show i + 1 + a = i + (a + 1) by omega] at h1
      rw [h1, List.count_eq_zero.2 (fun q => by have := (List.mem_replicate.1 q).2; omega)]
      simp

end Go.Proofs.Ytpbkidgdpejenae
