/-
  The least sameness that KNUTH'S steps keep; a row's word put in; a step of a slide downwards: plain facts.
-/
import Derived.Test.YtpbkidgdpejenaeISym
namespace Go.Proofs.Ytpbkidgdpejenae

/-- As KNUTH'S steps make it. -/
def Eqv (u v : List Int) : Prop := ∀ R : List Int → List Int → Prop, Plac R → R u v
theorem plac_E : Plac Eqv := ⟨fun u _ h => h.refl u, fun k R h => h.symm (k R h), fun k l R h => h.trans (k R h) (l R h), fun a b _ _ k R h => h.app a b (k R h), fun k _ h => h.k3 k⟩
theorem Eqv.refl (u : List Int) : Eqv u u := plac_E.refl u
theorem Eqv.of {u v : List Int} (h : u = v) : Eqv u v := h ▸ Eqv.refl u
theorem Eqv.symm {u v : List Int} (h : Eqv u v) : Eqv v u := plac_E.symm h
theorem Eqv.trans {u v w : List Int} (h : Eqv u v) (k : Eqv v w) : Eqv u w := plac_E.trans h k
theorem Eqv.P {u v : List Int} (h : Eqv u v) : insW [] u = insW [] v := by
  have := h SameP plac_P [] []
  simpa using this
theorem eqv_word (w : List Int) : Eqv w (wrd (insW [] w)) := fun _ h => word_of h w

/-- What is said of a word's letters alone. -/
theorem Eqv.perm {u v : List Int} (h : Eqv u v) : u.Perm v := by
  refine h (fun u v => u.Perm v) ⟨fun u => List.Perm.refl u, fun h => h.symm, fun h k => h.trans k, fun a b u v k => (List.Perm.append_left a k).append_right b, fun {u v} k => ?_⟩
  rcases k with ⟨x, y, z, _, _, rfl, rfl⟩ | ⟨x, y, z, _, _, rfl, rfl⟩
  · exact List.Perm.cons _ (List.Perm.swap _ _ _)
  · exact List.Perm.swap _ _ _

/-- Letters of an interval alone. -/
theorem Eqv.filter {u v : List Int} (h : Eqv u v) (p : Int → Bool) (hp : ∀ x y z : Int, x ≤ y → y ≤ z → p x = true → p z = true → p y = true) : Eqv (u.filter p) (v.filter p) := by
  refine h (fun u v => Eqv (u.filter p) (v.filter p)) ⟨fun u => Eqv.refl _, fun h => h.symm, fun h k => h.trans k, fun a b u v k => ?_, fun {u v} k => ?_⟩
  · simp only [List.filter_append]; exact plac_E.app _ _ k
  · rcases k with ⟨x, y, z, h1, h2, rfl, rfl⟩ | ⟨x, y, z, h1, h2, rfl, rfl⟩
    · cases hx : p x <;> cases hy : p y <;> cases hz : p z <;> simp only [List.filter_cons, List.filter_nil, hx, hy, hz, if_true] <;> (try exact Eqv.refl _)
      · exact absurd (hp x y z (by omega) h2 hx hz) (by rw [hy]; simp)
      · exact plac_E.k3 (Or.inl ⟨x, y, z, h1, h2, rfl, rfl⟩)
    · cases hx : p x <;> cases hy : p y <;> cases hz : p z <;> simp only [List.filter_cons, List.filter_nil, hx, hy, hz, if_true] <;> (try exact Eqv.refl _)
      · exact absurd (hp x y z h1 (by omega) hx hz) (by rw [hy]; simp)
      · exact plac_E.k3 (Or.inr ⟨x, y, z, h1, h2, rfl, rfl⟩)

/-- Letters moved along. -/
theorem Eqv.shift {u v : List Int} (h : Eqv u v) (d : Int) : Eqv (u.map (· + d)) (v.map (· + d)) := by
  refine h (fun u v => Eqv (u.map (· + d)) (v.map (· + d))) ⟨fun u => Eqv.refl _, fun h => h.symm, fun h k => h.trans k, fun a b u v k => ?_, fun {u v} k => ?_⟩
  · simp only [List.map_append]; exact plac_E.app _ _ k
  · rcases k with ⟨x, y, z, h1, h2, rfl, rfl⟩ | ⟨x, y, z, h1, h2, rfl, rfl⟩
    · exact plac_E.k3 (Or.inl ⟨x + d, y + d, z + d, by omega, by omega, rfl, rfl⟩)
    · exact plac_E.k3 (Or.inr ⟨x + d, y + d, z + d, by omega, by omega, rfl, rfl⟩)

/-- Read from behind, the letters turned over. -/
def star (c : Int) (w : List Int) : List Int := (w.map (fun z => c - z)).reverse
theorem star_app (c : Int) (u v : List Int) : star c (u ++ v) = star c v ++ star c u := by simp [star]
theorem star_star (c : Int) (w : List Int) : star c (star c w) = w := by
  unfold star
  rw [List.map_reverse, List.reverse_reverse, List.map_map]
  conv => rhs; rw [← List.map_id w]
  exact List.map_congr_left (fun z _ => by simp; omega)
theorem Eqv.star {u v : List Int} (h : Eqv u v) (c : Int) : Eqv (star c u) (star c v) := by
  refine h (fun u v => Eqv (Go.Proofs.Ytpbkidgdpejenae.star c u) (Go.Proofs.Ytpbkidgdpejenae.star c v)) ⟨fun u => Eqv.refl _, fun h => h.symm, fun h k => h.trans k, fun a b u v k => ?_, fun {u v} k => ?_⟩
  · simp only [star_app, ← List.append_assoc]; exact plac_E.app _ _ k
  · rcases k with ⟨x, y, z, h1, h2, rfl, rfl⟩ | ⟨x, y, z, h1, h2, rfl, rfl⟩
    · exact plac_E.symm (plac_E.symm (by
        have : Eqv [c - z, c - x, c - y] [c - x, c - z, c - y] := plac_E.k3 (Or.inr ⟨c - z, c - y, c - x, by omega, by omega, rfl, rfl⟩)
        simpa [Go.Proofs.Ytpbkidgdpejenae.star] using this))
    · have : Eqv [c - y, c - z, c - x] [c - y, c - x, c - z] := plac_E.k3 (Or.inl ⟨c - z, c - y, c - x, by omega, by omega, rfl, rfl⟩)
      simpa [Go.Proofs.Ytpbkidgdpejenae.star] using this

/-- A row put in under which another one stands. -/
theorem rw_dn : ∀ (r u p : List Int), Srt (p ++ r) → Dn r u → rwW (p ++ u) r = (p ++ r, u) := by
  intro r
  induction r with
  | nil =>
    intro u p _ h
    have hu : u = [] := List.eq_nil_of_length_eq_zero (by have := h.1; simp at this; simp [this])
    subst hu; rfl
  | cons x r ih =>
    intro u p hs hd
    have hp : ∀ j, j < p.length → p.getD j 0 ≤ x := fun j hj => by
      have h1 := hs.le (i := j) (j := p.length) (by omega) (by simp)
      have e1 : (p ++ x :: r).getD j 0 = p.getD j 0 := by simp [List.getD, List.getElem?_append_left hj]
      have e2 : (p ++ x :: r).getD p.length 0 = x := by simp [List.getD]
      rw [e1, e2] at h1; exact h1
    have hs' : Srt ((p ++ [x]) ++ r) := by simpa using hs
    cases u with
    | nil =>
      have e : spot false x (p ++ []) = (p ++ []).length := spot_all (fun j hj => by simp at hj ⊢; simpa using hp j hj)
      simp only [rwW, e]
      rw [bump_no rfl]
      have e2 : put (p ++ []).length x (p ++ []) = (p ++ [x]) ++ [] := by unfold put; simp
      rw [e2, ih [] (p ++ [x]) hs' (dn_nil r)]
      simp
    | cons y u =>
      have hxy : x < y := by have := hd.2 0 (by simp); simpa using this
      have e : spot false x (p ++ y :: u) = p.length := Spot.is ⟨by simp, fun j hj => by
        have := hp j hj
        simpa [List.getD, List.getElem?_append_left hj] using this, fun _ => by simpa [List.getD] using hxy⟩
      simp only [rwW, e]
      rw [bump_yes (by simp)]
      have e2 : put p.length x (p ++ y :: u) = (p ++ [x]) ++ u := by unfold put; rw [if_neg (by simp)]; simp
      rw [e2, ih u (p ++ [x]) hs' ⟨by have := hd.1; simp at this; omega, fun j hj => by have := hd.2 (j + 1) (by simpa using hj); simpa using this⟩]
      simp [List.getD]

/-- A tableau's word makes it. -/
theorem insW_rowT : ∀ (t : List (List Int)) (r : List Int), T (r :: t) → insW t r = r :: t := by
  intro t
  induction t with
  | nil =>
    intro r h
    rw [insW_empty (fun e => by have := h.1; rw [e] at this; simp at this), insW_row]
    have := rw_dn r [] [] (by simpa using h.2.1) (dn_nil r)
    simp at this
    rw [this]; rfl
  | cons u t ih =>
    intro r h
    rw [insW_row]
    have := rw_dn r u [] (by simpa using h.2.1) (by simpa using h.2.2.1)
    simp at this
    rw [this]
    simp only
    rw [ih u h.2.2.2]
theorem wrd_T : ∀ (t : List (List Int)), T t → insW [] (wrd t) = t := by
  intro t
  induction t with
  | nil => intro _; rfl
  | cons r t ih => intro h; rw [wrd_cons, insW_app, ih h.2.2.2, insW_rowT t r h]
theorem T_uniq {t u : List (List Int)} (ht : T t) (hu : T u) (h : Eqv (wrd t) (wrd u)) : t = u := by
  rw [← wrd_T t ht, ← wrd_T u hu]; exact h.P

/-- One of the first, one of the second, and so on. -/
def zipI : List Int → List Int → List Int
  | d :: D, a :: A => d :: a :: zipI D A
  | _, _ => []
theorem zip_left {R : List Int → List Int → Prop} (h : Plac R) : ∀ (D A E : List Int), Srt (D ++ E) → A.length = D.length → (∀ k, k < A.length → A.getD k 0 < D.getD k 0) → R (D ++ E ++ A) (zipI D A ++ E) := by
  intro D
  induction D with
  | nil =>
    intro A E _ hl _
    have hA : A = [] := List.eq_nil_of_length_eq_zero (by simpa using hl)
    subst hA; simp [zipI]; exact h.refl _
  | cons d D ih =>
    intro A E hs hl hlt
    cases A with
    | nil => simp at hl
    | cons a A =>
      have h0 : a < d := by have := hlt 0 (by simp); simpa using this
      have h1 : R (d :: (D ++ E) ++ [a]) (d :: a :: (D ++ E)) := pass_left h a (D ++ E) d (by simpa using hs) h0
      have h2 := h.right A h1
      have h3 := ih A E (Srt.tail (x := d) (by simpa using hs)) (by simpa using hl) (fun k hk => by have := hlt (k + 1) (by simpa using hk); simpa using this)
      have h4 := h.left [d, a] h3
      simp only [zipI]
      refine h.trans (by simpa using h2) (by simpa using h4)
theorem zip_right {R : List Int → List Int → Prop} (h : Plac R) : ∀ (E C B : List Int), Srt (B ++ C) → E.length = C.length → (∀ k, k < C.length → C.getD k 0 < E.getD k 0) → R (B ++ zipI E C) (E ++ B ++ C) := by
  intro E
  induction E with
  | nil =>
    intro C B _ hl _
    have hC : C = [] := List.eq_nil_of_length_eq_zero (by simpa using hl.symm)
    subst hC; simp [zipI]; exact h.refl _
  | cons e E ih =>
    intro C B hs hl hlt
    cases C with
    | nil => simp at hl
    | cons c C =>
      have h0 : c < e := by have := hlt 0 (by simp); simpa using this
      have hs' : Srt ((B ++ [c]) ++ C) := by simpa using hs
      have hs1 : Srt (B ++ [c]) := fun j hj => by
        have := hs' j (by rw [List.length_append]; omega)
        rw [List.getD, List.getD, List.getElem?_append_left (by omega), List.getElem?_append_left hj] at this
        exact this
      have h1 := h.right (zipI E C) (pass_right h e B c hs1 h0)
      have h2 := h.left [e] (ih C (B ++ [c]) hs' (by simpa using hl) (fun k hk => by have := hlt (k + 1) (by simpa using hk); simpa using this))
      simp only [zipI]
      refine h.trans (by simpa using h1) (by simpa using h2)

/-- A letter goes up into the hole over it. -/
theorem up_word {R : List Int → List Int → Prop} (h : Plac R) {D A E C : List Int} {b : Int} (hs : Srt (D ++ b :: E)) (hs2 : Srt (D ++ E)) (hc : Srt (b :: C)) (hl : A.length = D.length) (hl2 : E.length = C.length)
    (ha : ∀ k, k < A.length → A.getD k 0 < D.getD k 0) (he : ∀ k, k < C.length → C.getD k 0 < E.getD k 0) : R (D ++ b :: E ++ A ++ C) (D ++ E ++ A ++ b :: C) := by
  have hsE : Srt (E ++ []) := by
    rw [List.append_nil]
    intro j hj
    have := hs2 (D.length + j) (by rw [List.length_append]; omega)
    rw [List.getD, List.getD, List.getElem?_append_right (by omega), List.getElem?_append_right (by omega)] at this
    rw [show D.length + j - D.length = j by omega, show D.length + j + 1 - D.length = j + 1 by omega] at this
    exact this
  have h1 := h.right C (zip_left h D A (b :: E) hs hl ha)
  have h2 := zip_left h E C [] hsE hl2.symm he
  have h3 := h.left [b] h2
  have h4 := zip_right h E C [b] (by simpa using hc) hl2 he
  have h5 : R ([b] ++ (E ++ C)) (E ++ [b] ++ C) := by
    refine h.trans (by simpa using h3) (by simpa using h4)
  have h6 := h.left (zipI D A) h5
  have h7 := h.right (b :: C) (zip_left h D A E hs2 hl ha)
  refine h.trans (by simpa using h1) (h.trans (by simpa using h6) (h.symm (by simpa using h7)))

end Go.Proofs.Ytpbkidgdpejenae
