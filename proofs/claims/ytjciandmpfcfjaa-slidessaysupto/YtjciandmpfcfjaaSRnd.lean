/-
  SCHUETZENBERGER'S rounds: a box of rows of one length, promoted as often as it has boxes, is as it was: plain facts.
-/
import Derived.Test.YtjciandmpfcfjaaSDem
namespace Go.Proofs.Ytjciandmpfcfjaa

def prN (n : Nat) : Nat → List (List Int) → List (List Int)
  | 0, t => t
  | k + 1, t => pr n (prN n k t)
theorem prN_std {n : Nat} {t : List (List Int)} (h : Std n t) (h0 : 0 < n) : ∀ k, Std n (prN n k t) := by
  intro k
  induction k with
  | zero => exact h
  | succ k ih => exact (pr_ok ih h0).1
theorem prN_shape {n : Nat} {t : List (List Int)} (h : Std n t) (h0 : 0 < n) : ∀ k, sameShape (prN n k t) t := by
  intro k
  induction k with
  | zero => exact fun _ => rfl
  | succ k ih => exact fun a => by rw [← ih a]; exact (pr_ok (prN_std h h0 k) h0).2.lens a
theorem prN_add (n : Nat) (t : List (List Int)) (m : Nat) : ∀ k, prN n k (prN n m t) = prN n (m + k) t := by
  intro k
  induction k with
  | zero => rfl
  | succ k ih => show pr n (prN n k (prN n m t)) = pr n (prN n (m + k) t); rw [ih]
theorem prN_word {n : Nat} {t : List (List Int)} (h : Std n t) (h0 : 0 < n) : ∀ m, m ≤ n → Eqv ((wrd (prN n m t)).filter (fun z => decide (z ≤ (n : Int) - m))) ((abv m (wrd t)).map (· + (-(m : Int)))) := by
  intro m
  induction m with
  | zero =>
    intro _
    refine Eqv.of ?_
    unfold abv
    show (wrd t).filter _ = _
    rw [List.filter_eq_self.2 (fun z hz => by have := (h.low z hz).2; simp; omega), List.filter_eq_self.2 (fun z hz => by have := (h.low z hz).1; simp; omega)]
    conv => lhs; rw [← List.map_id (wrd t)]
    exact List.map_congr_left (fun z _ => by simp)
  | succ m ih =>
    intro hm
    have k1 := (pr_ok (prN_std h h0 m) h0).2.word.filter (fun z => decide (z ≤ (n : Int) - ((m + 1 : Nat) : Int))) (fun x y z h1 h2 h3 h4 => by simp at h3 h4 ⊢; omega)
    have k2 := ((ih (by omega)).filter (fun z => decide (1 < z)) (fun x y z h1 h2 h3 h4 => by simp at h3 h4 ⊢; omega)).shift (-1)
    have e1 : ((wrd (pr n (prN n m t))).filter (fun z => decide (z ≤ (n : Int) - 1))).filter (fun z => decide (z ≤ (n : Int) - ((m + 1 : Nat) : Int))) = (wrd (prN n (m + 1) t)).filter (fun z => decide (z ≤ (n : Int) - ((m + 1 : Nat) : Int))) := by
      rw [List.filter_filter]
      refine List.filter_congr (fun z _ => ?_)
      rw [← Bool.decide_and]
      exact decide_eq_decide.2 (by omega)
    rw [e1] at k1
    refine k1.trans (Eqv.trans (Eqv.of ?_) (k2.trans (Eqv.of ?_)))
    · rw [map_filter_shift, List.filter_filter, List.filter_filter]
      congr 1
      refine List.filter_congr (fun z _ => ?_)
      rw [← Bool.decide_and, ← Bool.decide_and]
      exact decide_eq_decide.2 (by omega)
    · rw [List.filter_map, List.map_map]
      have : (abv m (wrd t)).filter ((fun z => decide (1 < z)) ∘ (· + (-(m : Int)))) = abv (m + 1) (wrd t) := by
        rw [← abv_abv]
        refine List.filter_congr (fun z _ => ?_)
        simp only [Function.comp_apply]; exact decide_eq_decide.2 (by omega)
      rw [this]
      exact List.map_congr_left (fun z _ => by simp; omega)
theorem insW_shift (w : List Int) (d : Int) : insW [] (w.map (· + d)) = rais d (insW [] w) := by
  have k := (eqv_word w).shift d
  rw [← wrd_rais] at k
  rw [k.P, wrd_T _ (rais_T (insW_T w [] trivial))]

/-- All rows of one length. -/
def Rect (t : List (List Int)) (W : Nat) : Prop := ∀ a, a < t.length → (row t a).length = W
def rot (c : Int) (t : List (List Int)) : List (List Int) := (t.map (star c)).reverse
theorem star_getD (c : Int) (r : List Int) {j : Nat} (hj : j < r.length) : (star c r).getD j 0 = c - r.getD (r.length - 1 - j) 0 := by
  unfold star
  rw [rev_getD _ (by simpa using hj), List.length_map]
  simp [List.getD, List.getElem?_map, List.getElem?_eq_getElem (show r.length - 1 - j < r.length by omega)]
theorem star_len (c : Int) (r : List Int) : (star c r).length = r.length := by simp [star]
theorem rot_row (c : Int) (t : List (List Int)) {a : Nat} (ha : a < t.length) : row (rot c t) a = star c (row t (t.length - 1 - a)) := by
  unfold row rot
  simp only [List.getD]
  rw [List.getElem?_reverse (by simpa using ha), List.getElem?_map, List.length_map, List.getElem?_eq_getElem (show t.length - 1 - a < t.length by omega)]
  simp
theorem rot_T {t : List (List Int)} {W : Nat} (h : T t) (hr : Rect t W) (c : Int) : T (rot c t) := by
  have ht := T_row.1 h
  have hl : (rot c t).length = t.length := by simp [rot]
  refine T_row.2 (fun i hi => ?_)
  rw [hl] at hi
  have hw := hr (t.length - 1 - i) (by omega)
  obtain ⟨h1, h2, h3, h4⟩ := ht (t.length - 1 - i) (by omega)
  rw [rot_row c t hi]
  refine ⟨by rw [star_len]; exact h1, fun j hj => ?_, ?_⟩
  · rw [star_len] at hj
    rw [star_getD c _ (by omega), star_getD c _ hj]
    have := h2 ((row t (t.length - 1 - i)).length - 1 - (j + 1)) (by omega)
    rw [show (row t (t.length - 1 - i)).length - 1 - (j + 1) + 1 = (row t (t.length - 1 - i)).length - 1 - j by omega] at this
    omega
  · by_cases c1 : i + 1 < t.length
    · rw [rot_row c t c1]
      have hw2 := hr (t.length - 1 - (i + 1)) (by omega)
      obtain ⟨g1, g2, g3, g4⟩ := ht (t.length - 1 - (i + 1)) (by omega)
      rw [show t.length - 1 - (i + 1) + 1 = t.length - 1 - i by omega] at g4
      refine ⟨by rw [star_len, star_len]; omega, fun j hj => ?_⟩
      rw [star_len] at hj
      rw [star_getD c _ (by omega), star_getD c _ hj, hw, hw2]
      have := g4 (W - 1 - j) (by omega)
      omega
    · rw [row_out (ls := rot c t) (by rw [hl]; omega)]; exact dn_nil _
theorem wrd_rot (c : Int) : ∀ (t : List (List Int)), wrd (rot c t) = star c (wrd t) := by
  intro t
  unfold wrd rot
  rw [List.reverse_reverse]
  induction t with
  | nil => rfl
  | cons r t ih =>
    rw [List.map_cons, List.flatten_cons, ih, List.reverse_cons, List.flatten_append, star_app]
    simp
theorem evT_rot {n : Nat} {t : List (List Int)} (h : Std n t) {W : Nat} (hr : Rect t W) : evT n t = rot (n + 1) t := by
  unfold evT
  rw [← wrd_rot, wrd_T _ (rot_T h.tab hr _)]
theorem rect_step {n : Nat} {t : List (List Int)} (h : Std n t) (h0 : 0 < n) {W : Nat} (hr : Rect t W) {m : Nat} (hm : m ≤ n) {a b : Nat} (ha : a < t.length) (hb : b < W) :
    box (prN n m t) a b ≤ (n : Int) - m ↔ (m : Int) < box t (t.length - 1 - a) (W - 1 - b) := by
  have hS := prN_std h h0 m
  have hwd : (row t a).length = W := hr a ha
  have e1 : sameShape (rs ((n : Int) - m) (prN n m t)) (insW [] (abv m (wrd t))) := by
    have : rs ((n : Int) - m) (prN n m t) = rais (-(m : Int)) (insW [] (abv m (wrd t))) := by
      rw [← wrd_T _ (T_rs _ ((n : Int) - m) hS.tab), wrd_rs _ _ hS.tab, (prN_word h h0 m hm).P, insW_shift]
    rw [this]
    exact fun a => rais_len _ _ a
  have p1 := (rs_box (prN n m t) ((n : Int) - m) hS.tab a b).1
  rw [e1 a, shape_rs h m a b, evT_rot h hr] at p1
  have q1 : row (rot (n + 1) t) a = star (n + 1) (row t (t.length - 1 - a)) := rot_row _ t ha
  have hw2 := hr (t.length - 1 - a) (by omega)
  have q2 : box (rot (n + 1) t) a b = (n : Int) + 1 - box t (t.length - 1 - a) (W - 1 - b) := by
    unfold box
    rw [q1, star_getD _ _ (by omega), hw2]
  rw [q1, star_len, hw2, q2, prN_shape h h0 m a, hwd] at p1
  constructor
  · intro q
    have := (p1.2 ⟨hb, q⟩).2
    omega
  · intro q
    exact (p1.1 ⟨hb, by omega⟩).2
theorem rect_round {n : Nat} {t : List (List Int)} (h : Std n t) (h0 : 0 < n) {W : Nat} (hr : Rect t W) : prN n n t = t := by
  have hS := prN_std h h0
  have hsh := prN_shape h h0
  refine ext_row (len_of_shape (hS n).tab.shp h.tab.shp (hsh n)) (fun a ha => ext_getD (hsh n a) (fun b hb => ?_))
  show box (prN n n t) a b = box t a b
  rw [len_of_shape (hS n).tab.shp h.tab.shp (hsh n)] at ha
  rw [hsh n a] at hb
  have hw := hr a ha
  have key : ∀ m : Nat, m ≤ n → (box (prN n n t) a b ≤ (m : Int) ↔ box t a b ≤ (m : Int)) := by
    intro m hm
    have s1 := rect_step h h0 hr hm (a := t.length - 1 - a) (b := W - 1 - b) (by omega) (by omega)
    rw [show t.length - 1 - (t.length - 1 - a) = a by omega, show W - 1 - (W - 1 - b) = b by omega] at s1
    have hl := len_of_shape (hS m).tab.shp h.tab.shp (hsh m)
    have s2 := rect_step (hS m) h0 (W := W) (fun c hc => by rw [hsh m c]; exact hr c (by omega)) (m := n - m) (by omega) (a := a) (b := b) (by omega) (by omega)
    rw [prN_add, show m + (n - m) = n by omega, hl] at s2
    rw [show (n : Int) - ((n - m : Nat) : Int) = (m : Int) by omega] at s2
    rw [s2]
    constructor
    · intro q
      refine Int.not_lt.1 (fun z => ?_)
      have := s1.2 z
      omega
    · intro q
      refine Int.not_le.1 (fun z => ?_)
      have := s1.1 (by omega)
      omega
  have b1 := (hS n).box (a := a) (b := b) (by rw [hsh n a]; exact hb)
  have b2 := h.box hb
  have k1 := (key (box t a b).toNat (by omega)).2 (by omega)
  have k2 := (key (box (prN n n t) a b).toNat (by omega)).1 (by omega)
  omega

end Go.Proofs.Ytjciandmpfcfjaa
