/-
  Slides: rows with holes, a hole that goes its way, what the word becomes: plain facts.
-/
import Derived.Test.YtpbkidgdpejenaeSPla
namespace Go.Proofs.Ytpbkidgdpejenae

/-- Another letter in one box. -/
def sb (s : List (List Int)) (i j : Nat) (x : Int) : List (List Int) := s.set i ((row s i).set j x)
theorem sb_length (s : List (List Int)) (i j : Nat) (x : Int) : (sb s i j x).length = s.length := by simp [sb]
theorem set_row (s : List (List Int)) (i : Nat) (r : List Int) (a : Nat) : row (s.set i r) a = if a = i ∧ i < s.length then r else row s a := by
  unfold row
  simp only [List.getD, List.getElem?_set]
  by_cases e : i = a
  · subst e
    by_cases e2 : i < s.length
    · simp [e2]
    · simp [e2]
  · rw [if_neg e, if_neg (fun k => e k.1.symm)]
theorem sb_row (s : List (List Int)) (i j : Nat) (x : Int) (a : Nat) : row (sb s i j x) a = if a = i then (row s i).set j x else row s a := by
  unfold sb
  rw [set_row]
  by_cases e : a = i
  · subst e
    by_cases e2 : a < s.length
    · rw [if_pos ⟨rfl, e2⟩, if_pos rfl]
    · rw [if_neg (fun k => e2 k.2), if_pos rfl, row_out (by omega)]; simp
  · rw [if_neg (fun k => e k.1), if_neg e]
theorem sb_len (s : List (List Int)) (i j : Nat) (x : Int) (a : Nat) : (row (sb s i j x) a).length = (row s a).length := by
  rw [sb_row]
  by_cases e : a = i
  · rw [if_pos e, e]; simp
  · rw [if_neg e]
theorem sb_box {s : List (List Int)} {i j : Nat} (hj : j < (row s i).length) (x : Int) (a b : Nat) : box (sb s i j x) a b = if a = i ∧ b = j then x else box s a b := by
  unfold box
  rw [sb_row]
  by_cases e : a = i
  · subst e
    rw [if_pos rfl, getD_set]
    by_cases e2 : b = j
    · rw [if_pos ⟨e2, hj⟩, if_pos ⟨rfl, e2⟩]
    · rw [if_neg (fun k => e2 k.1), if_neg (fun k => e2 k.2)]
  · rw [if_neg e, if_neg (fun k => e k.1)]
theorem sb_shp {s : List (List Int)} (h : Shp s) (i j : Nat) (x : Int) : Shp (sb s i j x) := by
  refine ⟨fun a ha => ?_, fun a ha => ?_⟩
  · rw [sb_len]; rw [sb_length] at ha; exact h.1 a ha
  · rw [sb_len, sb_len]; rw [sb_length] at ha; exact h.2 a ha

/-- Rows of letters behind holes: as many in row a as h says; what stands in the boxes X is left open. -/
structure Sk (X : Nat → Nat → Prop) (h : Nat → Nat) (s : List (List Int)) : Prop where
  shp : Shp s
  hm : ∀ a, h (a + 1) ≤ h a
  hl : ∀ a, h a ≤ (row s a).length
  zer : ∀ a b, b < h a → box s a b = 0
  pos : ∀ a b, h a ≤ b → b < (row s a).length → ¬ X a b → 1 ≤ box s a b
  along : ∀ a b c, h a ≤ b → b < c → c < (row s a).length → ¬ X a b → ¬ X a c → box s a b ≤ box s a c
  down : ∀ a c b, a < c → h a ≤ b → b < (row s c).length → ¬ X a b → ¬ X c b → box s a b < box s c b
def one (i j : Nat) : Nat → Nat → Prop := fun a b => a = i ∧ b = j
def non : Nat → Nat → Prop := fun _ _ => False

theorem Sk.mono {X : Nat → Nat → Prop} {h : Nat → Nat} {s : List (List Int)} (k : Sk X h s) {a c : Nat} (hac : a ≤ c) : h c ≤ h a := by
  induction c with
  | zero => obtain rfl : a = 0 := by omega
            exact Nat.le_refl _
  | succ c ih =>
    by_cases e : a = c + 1
    · rw [e]; exact Nat.le_refl _
    · exact Nat.le_trans (k.hm c) (ih (by omega))
theorem box_out {s : List (List Int)} {a b : Nat} (h : (row s a).length ≤ b) : box s a b = 0 := by
  unfold box; simp [List.getD, List.getElem?_eq_none h]

/-- The hole goes right. -/
theorem Sk.right {h : Nat → Nat} {s : List (List Int)} {i j : Nat} (k : Sk (one i j) h s) (hj : h i ≤ j) (hr : j + 1 < (row s i).length) (hlow : j < (row s (i + 1)).length → box s i (j + 1) < box s (i + 1) j) :
    Sk (one i (j + 1)) h (sb s i j (box s i (j + 1))) := by
  have hbx := sb_box (s := s) (i := i) (j := j) (by omega) (box s i (j + 1))
  refine ⟨sb_shp k.shp _ _ _, k.hm, fun a => by rw [sb_len]; exact k.hl a, fun a b hb => ?_, fun a b h1 h2 hx => ?_, fun a b c h1 h2 h3 hx hy => ?_, fun a c b h1 h2 h3 hx hy => ?_⟩
  · rw [hbx, if_neg (fun e => by obtain ⟨rfl, rfl⟩ := e; omega)]; exact k.zer a b hb
  · rw [sb_len] at h2
    rw [hbx]
    by_cases e : a = i ∧ b = j
    · rw [if_pos e]; exact k.pos i (j + 1) (by omega) hr (fun q => by have := q.2; omega)
    · rw [if_neg e]; exact k.pos a b h1 h2 e
  · rw [sb_len] at h3
    rw [hbx, hbx]
    by_cases e : a = i ∧ b = j
    · rw [if_pos e, if_neg (fun q => by omega)]
      obtain ⟨rfl, rfl⟩ := e
      have : ¬ c = b + 1 := fun q => hy ⟨rfl, q⟩
      exact k.along a (b + 1) c (by omega) (by omega) h3 (fun q => by have := q.2; omega) (fun q => by have := q.2; omega)
    · rw [if_neg e]
      by_cases e2 : a = i ∧ c = j
      · rw [if_pos e2]
        obtain ⟨rfl, rfl⟩ := e2
        exact k.along a b (c + 1) h1 (by omega) hr e (fun q => by have := q.2; omega)
      · rw [if_neg e2]; exact k.along a b c h1 h2 h3 e e2
  · rw [sb_len] at h3
    rw [hbx, hbx]
    have hcl := k.shp.shorter' (a := a) (b := c) (by omega)
    by_cases e : a = i ∧ b = j
    · rw [if_pos e, if_neg (fun q => by omega)]
      obtain ⟨rfl, rfl⟩ := e
      have hll := k.shp.shorter' (a := a + 1) (b := c) (by omega)
      have h4 := hlow (by omega)
      by_cases e3 : c = a + 1
      · rw [e3]; exact h4
      · have := k.down (a + 1) c b (by omega) (by have := k.hm a; omega) h3 (fun q => by have := q.1; omega) (fun q => by have := q.1; omega)
        omega
    · rw [if_neg e]
      by_cases e2 : c = i ∧ b = j
      · rw [if_pos e2]
        obtain ⟨rfl, rfl⟩ := e2
        have q1 := k.along a b (b + 1) h2 (by omega) (by omega) e (fun q => by have := q.2; omega)
        have q2 := k.down a c (b + 1) h1 (by omega) hr (fun q => by have := q.2; omega) (fun q => by have := q.2; omega)
        omega
      · rw [if_neg e2]; exact k.down a c b h1 h2 h3 e e2

/-- The hole goes down. -/
theorem Sk.below {h : Nat → Nat} {s : List (List Int)} {i j : Nat} (k : Sk (one i j) h s) (hj : h i ≤ j) (hr : j < (row s (i + 1)).length) (hright : j + 1 < (row s i).length → box s (i + 1) j ≤ box s i (j + 1)) :
    Sk (one (i + 1) j) h (sb s i j (box s (i + 1) j)) := by
  have hsh := k.shp.shorter' (a := i) (b := i + 1) (by omega)
  have hm := k.hm i
  have hbx := sb_box (s := s) (i := i) (j := j) (by omega) (box s (i + 1) j)
  refine ⟨sb_shp k.shp _ _ _, k.hm, fun a => by rw [sb_len]; exact k.hl a, fun a b hb => ?_, fun a b h1 h2 hx => ?_, fun a b c h1 h2 h3 hx hy => ?_, fun a c b h1 h2 h3 hx hy => ?_⟩
  · rw [hbx, if_neg (fun e => by obtain ⟨rfl, rfl⟩ := e; omega)]; exact k.zer a b hb
  · rw [sb_len] at h2
    rw [hbx]
    by_cases e : a = i ∧ b = j
    · rw [if_pos e]; exact k.pos (i + 1) j (by omega) hr (fun q => by have := q.1; omega)
    · rw [if_neg e]; exact k.pos a b h1 h2 e
  · rw [sb_len] at h3
    rw [hbx, hbx]
    by_cases e : a = i ∧ b = j
    · rw [if_pos e, if_neg (fun q => by omega)]
      obtain ⟨rfl, rfl⟩ := e
      have q1 := hright (by omega)
      by_cases e3 : c = b + 1
      · rw [e3]; exact q1
      · have := k.along a (b + 1) c (by omega) (by omega) h3 (fun q => by have := q.2; omega) (fun q => by have := q.2; omega)
        omega
    · rw [if_neg e]
      by_cases e2 : a = i ∧ c = j
      · rw [if_pos e2]
        obtain ⟨rfl, rfl⟩ := e2
        have q1 := k.down a (a + 1) b (by omega) h1 (by omega) e (fun q => by have := q.1; omega)
        have q2 := k.along (a + 1) b c (by omega) h2 hr (fun q => by have := q.1; omega) (fun q => by have := q.1; omega)
        omega
      · rw [if_neg e2]; exact k.along a b c h1 h2 h3 e e2
  · rw [sb_len] at h3
    rw [hbx, hbx]
    by_cases e : a = i ∧ b = j
    · rw [if_pos e, if_neg (fun q => by omega)]
      obtain ⟨rfl, rfl⟩ := e
      have : ¬ c = a + 1 := fun q => hy ⟨q, rfl⟩
      exact k.down (a + 1) c b (by omega) (by omega) h3 (fun q => by have := q.1; omega) (fun q => by have := q.1; omega)
    · rw [if_neg e]
      by_cases e2 : c = i ∧ b = j
      · rw [if_pos e2]
        obtain ⟨rfl, rfl⟩ := e2
        exact k.down a (c + 1) b (by omega) h2 hr e (fun q => by have := q.1; omega)
      · rw [if_neg e2]; exact k.down a c b h1 h2 h3 e e2

/-- The letters, the last row first. -/
def sword (h : Nat → Nat) : List (List Int) → List Int
  | [] => []
  | r :: t => sword (fun a => h (a + 1)) t ++ r.drop (h 0)
theorem sword_app : ∀ (u v : List (List Int)) (h : Nat → Nat), sword h (u ++ v) = sword (fun a => h (a + u.length)) v ++ sword h u := by
  intro u
  induction u with
  | nil => intro v h; simp [sword]
  | cons r u ih =>
    intro v h
    simp only [List.cons_append, sword, ih, List.length_cons, List.append_assoc]
    congr 1
theorem split2 {s : List (List Int)} {i : Nat} (hi : i + 1 < s.length) : s = s.take i ++ (row s i :: row s (i + 1) :: s.drop (i + 2)) := by
  have h1 := List.take_append_drop i s
  rw [List.drop_eq_getElem_cons (by omega), List.drop_eq_getElem_cons (by omega)] at h1
  have e1 : row s i = s[i] := by simp [row, List.getD, List.getElem?_eq_getElem (show i < s.length by omega)]
  have e2 : row s (i + 1) = s[i + 1] := by simp [row, List.getD, List.getElem?_eq_getElem hi]
  rw [e1, e2]
  exact h1.symm
theorem sword2 (h : Nat → Nat) {s : List (List Int)} {i : Nat} (hi : i + 1 < s.length) (r r' : List Int) :
    sword h ((s.set i r).set (i + 1) r') = sword (fun a => h (a + 2 + i)) (s.drop (i + 2)) ++ (r'.drop (h (i + 1)) ++ r.drop (h i)) ++ sword h (s.take i) := by
  have e : (s.set i r).set (i + 1) r' = s.take i ++ (r :: r' :: s.drop (i + 2)) := by
    conv => lhs; rw [split2 hi]
    rw [List.set_append_right _ _ (by rw [List.length_take]; omega), List.set_append_right _ _ (by rw [List.length_take]; omega)]
    rw [List.length_take, show min i s.length = i by omega, show i - i = 0 by omega, show i + 1 - i = 1 by omega]
    rfl
  rw [e, sword_app]
  simp only [sword, List.length_take, show min i s.length = i by omega, List.append_assoc, Nat.zero_add]
  congr 1
  congr 1
  rw [show 1 + i = i + 1 by omega]
theorem sword1 (h : Nat → Nat) {s : List (List Int)} {i : Nat} (hi : i < s.length) (r : List Int) :
    sword h (s.set i r) = sword (fun a => h (a + 1 + i)) (s.drop (i + 1)) ++ r.drop (h i) ++ sword h (s.take i) := by
  have e : s.set i r = s.take i ++ (r :: s.drop (i + 1)) := by
    rw [List.set_eq_take_append_cons_drop, if_pos hi]
  rw [e, sword_app]
  simp only [sword, List.length_take, show min i s.length = i by omega, List.append_assoc, Nat.zero_add]

/-- The rows without one box. -/
def er (s : List (List Int)) (i j : Nat) : List (List Int) := s.set i ((row s i).eraseIdx j)

theorem er_right {s : List (List Int)} {i j : Nat} (hr : j + 1 < (row s i).length) : er (sb s i j (box s i (j + 1))) i (j + 1) = er s i j := by
  unfold er
  rw [sb_row, if_pos rfl]
  unfold sb
  rw [List.set_set]
  congr 1
  refine List.ext_getElem? (fun m => ?_)
  simp only [List.getElem?_eraseIdx, List.getElem?_set]
  by_cases c1 : m < j
  · rw [if_pos (by omega), if_neg (by omega), if_pos c1]
  · by_cases c2 : m = j
    · subst c2
      rw [if_pos (by omega), if_pos rfl, if_pos (by omega), if_neg (by omega)]
      unfold box
      simp [List.getD, List.getElem?_eq_getElem hr]
    · rw [if_neg (by omega), if_neg (by omega), if_neg (by omega)]

end Go.Proofs.Ytpbkidgdpejenae
