/-
  LINDSTROEM, GESSEL, VIENNOT: of paths through a grid that step right or up: the determinant of their numbers is the number of families that keep apart, by all ways, each with its sign. (Starts are taken one after the other, from the least one on: a path begins at it and ends there, or goes on from one of the two next to it.)
-/
import Derived.Test.YtapchcamjeafmaaDoorQFam
namespace Go.Proofs.YtapchcamjeafmaaDoor

/-- All paths from a point to another one, through points that are not marked; fuel: enough. -/
def plG (cl : Nat → Bool) : Nat → Nat × Nat → Nat × Nat → List (List (Nat × Nat))
  | 0, _, _ => []
  | f + 1, p, e => if cl (ixP8 p) = true ∨ e.1 < p.1 ∨ e.2 < p.2 then [] else if p = e then [[p]] else (plG cl f (p.1 + 1, p.2) e ++ plG cl f (p.1, p.2 + 1) e).map (p :: ·)
theorem plG_far (cl : Nat → Bool) (f : Nat) (p e : Nat × Nat) (h : e.1 < p.1 ∨ e.2 < p.2) : plG cl f p e = [] := by
  cases f with
  | zero => rfl
  | succ f => rw [plG, if_pos (Or.inr h)]
theorem plG_fuel (cl : Nat → Bool) : ∀ (f : Nat) (p e : Nat × Nat), dsP p e < f → plG cl (f + 1) p e = plG cl f p e
  | 0, p, e, h => by omega
  | f + 1, p, e, h => by
    conv => lhs; rw [plG]
    conv => rhs; rw [plG]
    by_cases h1 : cl (ixP8 p) = true ∨ e.1 < p.1 ∨ e.2 < p.2
    · rw [if_pos h1, if_pos h1]
    · rw [if_neg h1, if_neg h1]
      by_cases h2 : p = e
      · rw [if_pos h2, if_pos h2]
      · rw [if_neg h2, if_neg h2]
        have h3 : ¬ e.1 < p.1 ∧ ¬ e.2 < p.2 := ⟨fun x => h1 (Or.inr (Or.inl x)), fun x => h1 (Or.inr (Or.inr x))⟩
        have e1 : plG cl (f + 1) (p.1 + 1, p.2) e = plG cl f (p.1 + 1, p.2) e := by
          by_cases h4 : p.1 < e.1
          · exact plG_fuel cl f _ _ (by unfold dsP at h ⊢; simp only; omega)
          · rw [plG_far cl _ _ _ (Or.inl (by simp only; omega)), plG_far cl _ _ _ (Or.inl (by simp only; omega))]
        have e2 : plG cl (f + 1) (p.1, p.2 + 1) e = plG cl f (p.1, p.2 + 1) e := by
          by_cases h4 : p.2 < e.2
          · exact plG_fuel cl f _ _ (by unfold dsP at h ⊢; simp only; omega)
          · rw [plG_far cl _ _ _ (Or.inr (by simp only; omega)), plG_far cl _ _ _ (Or.inr (by simp only; omega))]
        rw [e1, e2]
theorem plG_any (cl : Nat → Bool) (p e : Nat × Nat) : ∀ f, dsP p e < f → plG cl f p e = plG cl (dsP p e + 1) p e := by
  intro f hf
  obtain ⟨k, rfl⟩ : ∃ k, f = dsP p e + 1 + k := ⟨f - (dsP p e + 1), by omega⟩
  clear hf
  induction k with
  | zero => rfl
  | succ k ih => rw [← Nat.add_assoc, plG_fuel cl _ _ _ (by omega), ih]
def pth (cl : Nat → Bool) (p e : Nat × Nat) : List (List (Nat × Nat)) := plG cl (dsP p e + 1) p e
/-- A path that is at its end. -/
def dnP (v e : Nat × Nat) : List (List (Nat × Nat)) := if e = v then [[]] else []
theorem pth_far {cl : Nat → Bool} {p e : Nat × Nat} (h : e.1 < p.1 ∨ e.2 < p.2) : pth cl p e = [] := plG_far _ _ _ _ h
theorem pth_shut {cl : Nat → Bool} {p e : Nat × Nat} (h : cl (ixP8 p) = true) : pth cl p e = [] := by
  unfold pth; rw [plG, if_pos (Or.inl h)]
theorem pth_step {cl : Nat → Bool} {v : Nat × Nat} (e : Nat × Nat) (h : cl (ixP8 v) = false) : pth cl v e = (dnP v e ++ pth cl (v.1 + 1, v.2) e ++ pth cl (v.1, v.2 + 1) e).map (v :: ·) := by
  by_cases hf : e.1 < v.1 ∨ e.2 < v.2
  · rw [pth_far hf, pth_far (by simp only; omega), pth_far (by simp only; omega)]
    unfold dnP
    rw [if_neg (by rintro rfl; omega)]; rfl
  · have hs : ¬ (cl (ixP8 v) = true ∨ e.1 < v.1 ∨ e.2 < v.2) := by rw [h]; simpa using hf
    conv => lhs; unfold pth
    rw [plG, if_neg hs]
    by_cases h2 : v = e
    · subst h2
      rw [if_pos rfl, pth_far (Or.inl (by simp only; omega)), pth_far (Or.inr (by simp only; omega))]
      unfold dnP
      rw [if_pos rfl]; rfl
    · rw [if_neg h2]
      have e0 : dnP v e = [] := by unfold dnP; rw [if_neg (fun x => h2 x.symm)]
      have e1 : plG cl (dsP v e) (v.1 + 1, v.2) e = pth cl (v.1 + 1, v.2) e := by
        by_cases h4 : v.1 < e.1
        · exact plG_any cl _ _ _ (by unfold dsP; simp only; omega)
        · rw [plG_far cl _ _ _ (Or.inl (by simp only; omega)), pth_far (Or.inl (by simp only; omega))]
      have e2 : plG cl (dsP v e) (v.1, v.2 + 1) e = pth cl (v.1, v.2 + 1) e := by
        by_cases h4 : v.2 < e.2
        · exact plG_any cl _ _ _ (by unfold dsP; simp only; omega)
        · rw [plG_far cl _ _ _ (Or.inr (by simp only; omega)), pth_far (Or.inr (by simp only; omega))]
      rw [e0, e1, e2]; rfl
/-- Where paths lie. -/
theorem plG_in (cl : Nat → Bool) : ∀ (f : Nat) (p e : Nat × Nat) (q : List (Nat × Nat)), q ∈ plG cl f p e → (∀ x ∈ q, p.1 ≤ x.1 ∧ p.2 ≤ x.2 ∧ x.1 ≤ e.1 ∧ x.2 ≤ e.2) ∧ p ∈ q
  | 0, _, _, _, h => by simp [plG] at h
  | f + 1, p, e, q, h => by
    rw [plG] at h
    by_cases h1 : cl (ixP8 p) = true ∨ e.1 < p.1 ∨ e.2 < p.2
    · rw [if_pos h1] at h; cases h
    · rw [if_neg h1] at h
      have h3 : ¬ e.1 < p.1 ∧ ¬ e.2 < p.2 := ⟨fun x => h1 (Or.inr (Or.inl x)), fun x => h1 (Or.inr (Or.inr x))⟩
      by_cases h2 : p = e
      · subst h2
        rw [if_pos rfl, List.mem_singleton] at h
        subst h
        refine ⟨fun x hx => ?_, by simp⟩
        rw [List.mem_singleton] at hx; subst hx; omega
      · rw [if_neg h2, List.mem_map] at h
        obtain ⟨r, hr, rfl⟩ := h
        refine ⟨fun x hx => ?_, by simp⟩
        rcases List.mem_cons.1 hx with rfl | hx
        · omega
        · rcases List.mem_append.1 hr with hr | hr
          · have := (plG_in cl f _ e r hr).1 x hx; simp only at this; omega
          · have := (plG_in cl f _ e r hr).1 x hx; simp only at this; omega
theorem pth_in {cl : Nat → Bool} {p e : Nat × Nat} {q : List (Nat × Nat)} (h : q ∈ pth cl p e) : (∀ x ∈ q, p.1 ≤ x.1 ∧ p.2 ≤ x.2 ∧ x.1 ≤ e.1 ∧ x.2 ≤ e.2) ∧ p ∈ q := plG_in _ _ _ _ _ h

/-- No point of a path is taken. -/
def dsj (q T : List (Nat × Nat)) : Bool := q.all fun x => !T.contains x
/-- How many families keep apart, one path out of each list. -/
def apR : List (Nat × Nat) → List (List (List (Nat × Nat))) → Nat
  | _, [] => 1
  | T, L :: Ls => (L.map fun q => if dsj q T = true then apR (q ++ T) Ls else 0).sum
theorem dsj_congr {q T U : List (Nat × Nat)} (h : ∀ x ∈ q, (x ∈ T ↔ x ∈ U)) : dsj q T = dsj q U := by
  unfold dsj
  rw [Bool.eq_iff_iff, List.all_eq_true, List.all_eq_true]
  constructor
  · intro g x hx; have := g x hx; have h2 := h x hx; simp at this ⊢; exact fun y => this (h2.2 y)
  · intro g x hx; have := g x hx; have h2 := h x hx; simp at this ⊢; exact fun y => this (h2.1 y)
theorem apR_congr : ∀ (Ls : List (List (List (Nat × Nat)))) (T U : List (Nat × Nat)), (∀ L ∈ Ls, ∀ q ∈ L, ∀ x ∈ q, (x ∈ T ↔ x ∈ U)) → apR T Ls = apR U Ls
  | [], _, _, _ => rfl
  | L :: Ls, T, U, h => by
    rw [apR, apR]
    congr 1
    apply List.map_congr_left
    intro q hq
    rw [dsj_congr (fun x hx => h L (by simp) q hq x hx)]
    split
    · exact apR_congr Ls _ _ (fun M hM r hr x hx => by
        have := h M (List.mem_cons_of_mem _ hM) r hr x hx
        simp [this])
    · rfl
theorem sum_noughts {α : Type} : ∀ L : List α, (L.map fun _ => 0).sum = 0
  | [] => rfl
  | _ :: L => by rw [List.map_cons, List.sum_cons, sum_noughts L]
theorem apR_none : ∀ (Ls : List (List (List (Nat × Nat)))) (T : List (Nat × Nat)), [] ∈ Ls → apR T Ls = 0
  | L :: Ls, T, h => by
    rcases List.mem_cons.1 h with h | h
    · rw [← h]; rfl
    · rw [apR]
      have e : (L.map fun q => if dsj q T = true then apR (q ++ T) Ls else 0) = L.map fun _ => 0 := by
        apply List.map_congr_left
        intro q _
        rw [apR_none Ls _ h]; simp
      rw [e]; exact sum_noughts _
theorem sum_add_map {α : Type} (L : List α) (f g h : α → Nat) (H : ∀ x ∈ L, f x = g x + h x) : (L.map f).sum = (L.map g).sum + (L.map h).sum := by
  induction L with
  | nil => rfl
  | cons a L ih =>
    simp only [List.map_cons, List.sum_cons]
    rw [ih (fun x hx => H x (List.mem_cons_of_mem _ hx)), H a (by simp)]; omega
theorem apR_add (X Y : List (List (Nat × Nat))) (post : List (List (List (Nat × Nat)))) : ∀ (pre : List (List (List (Nat × Nat)))) (T : List (Nat × Nat)), apR T (pre ++ (X ++ Y) :: post) = apR T (pre ++ X :: post) + apR T (pre ++ Y :: post)
  | [], T => by simp [apR]
  | L :: pre, T => by
    rw [List.cons_append, List.cons_append, List.cons_append, apR, apR, apR]
    apply sum_add_map
    intro q _
    split
    · exact apR_add X Y post pre _
    · rfl
theorem apR_head {v : Nat × Nat} (X : List (List (Nat × Nat))) (post : List (List (List (Nat × Nat)))) (hp : ∀ L ∈ post, ∀ q ∈ L, v ∉ q) : ∀ (pre : List (List (List (Nat × Nat)))) (T : List (Nat × Nat)), v ∉ T → (∀ L ∈ pre, ∀ q ∈ L, v ∉ q) → apR T (pre ++ X.map (v :: ·) :: post) = apR T (pre ++ X :: post)
  | [], T, hT, _ => by
    rw [List.nil_append, List.nil_append, apR, apR, List.map_map]
    congr 1
    apply List.map_congr_left
    intro q _
    simp only [Function.comp]
    have e : dsj (v :: q) T = dsj q T := by unfold dsj; simp [hT]
    rw [e]
    split
    · apply apR_congr
      intro L hL r hr x hx
      have : x ≠ v := fun h => hp L hL r hr (h ▸ hx)
      simp [this]
    · rfl
  | L :: pre, T, hT, hpre => by
    rw [List.cons_append, List.cons_append, apR, apR]
    congr 1
    apply List.map_congr_left
    intro q hq
    split
    · exact apR_head X post hp pre _ (by simp [hT, hpre L (by simp) q hq]) (fun M hM => hpre M (List.mem_cons_of_mem _ hM))
    · rfl
theorem apR_taken {v : Nat × Nat} : ∀ (Ls : List (List (List (Nat × Nat)))) (T : List (Nat × Nat)), v ∈ T → (∃ L ∈ Ls, ∀ q ∈ L, v ∈ q) → apR T Ls = 0
  | [], _, _, ⟨L, h, _⟩ => by cases h
  | L :: Ls, T, hT, ⟨M, hM, hv⟩ => by
    rw [apR]
    have e : (L.map fun q => if dsj q T = true then apR (q ++ T) Ls else 0) = L.map fun _ => 0 := by
      apply List.map_congr_left
      intro q hq
      rcases List.mem_cons.1 hM with rfl | hM
      · have : dsj q T = false := by
          unfold dsj
          rw [List.all_eq_false]
          exact ⟨v, hv q hq, by simp [hT]⟩
        rw [this]; rfl
      · rw [apR_taken Ls _ (by simp [hT]) ⟨M, hM, hv⟩]; simp
    rw [e]; exact sum_noughts _
theorem apR_two {v : Nat × Nat} (M N : List (List (Nat × Nat))) (hM : ∀ q ∈ M, v ∈ q) (hN : ∀ q ∈ N, v ∈ q) (mid post : List (List (List (Nat × Nat)))) : ∀ (pre : List (List (List (Nat × Nat)))) (T : List (Nat × Nat)), apR T (pre ++ M :: (mid ++ N :: post)) = 0
  | [], T => by
    rw [List.nil_append, apR]
    have e : (M.map fun q => if dsj q T = true then apR (q ++ T) (mid ++ N :: post) else 0) = M.map fun _ => 0 := by
      apply List.map_congr_left
      intro q hq
      rw [apR_taken (v := v) _ _ (by simp [hM q hq]) ⟨N, by simp, hN⟩]; simp
    rw [e]; exact sum_noughts _
  | L :: pre, T => by
    rw [List.cons_append, apR]
    have e : (L.map fun q => if dsj q T = true then apR (q ++ T) (pre ++ M :: (mid ++ N :: post)) else 0) = L.map fun _ => 0 := by
      apply List.map_congr_left
      intro q _
      rw [apR_two M N hM hN mid post pre]; simp
    rw [e]; exact sum_noughts _

/-- The orders of so many numbers, each with its sign. -/
def ordL : Nat → List (List Nat × Int)
  | 0 => [([], 1)]
  | n + 1 => (ordL n).flatMap fun p => (List.range (p.1.length + 1)).map fun k => (p.1.take k ++ n :: p.1.drop k, if (p.1.length - k) % 2 = 1 then -p.2 else p.2)
theorem ordL_len : ∀ (n : Nat) (p : List Nat × Int), p ∈ ordL n → p.1.length = n
  | 0, p, h => by
    rw [ordL, List.mem_singleton] at h; subst h; rfl
  | n + 1, p, h => by
    rw [ordL, List.mem_flatMap] at h
    obtain ⟨q, hq, h⟩ := h
    rw [List.mem_map] at h
    obtain ⟨k, hk, rfl⟩ := h
    have := ordL_len n q hq
    have hk' := List.mem_range.1 hk
    simp; omega
/-- A product along an order. -/
def prW : List (Nat → Int) → List Nat → Int
  | r :: rs, c :: cs => r c * prW rs cs
  | _, _ => 1
/-- The sum of products, each with its sign. -/
def lbn (rows : List (Nat → Int)) : Int := ((ordL rows.length).map fun p => p.2 * prW rows p.1).sum
theorem prW_add (f g : Nat → Int) (post : List (Nat → Int)) : ∀ (pre : List (Nat → Int)) (w : List Nat), w.length = (pre ++ f :: post).length → prW (pre ++ (fun c => f c + g c) :: post) w = prW (pre ++ f :: post) w + prW (pre ++ g :: post) w
  | [], [], h => by simp at h
  | [], c :: w, _ => by simp only [List.nil_append, prW, Int.add_mul]
  | r :: pre, [], h => by simp at h
  | r :: pre, c :: w, h => by
    simp only [List.cons_append, prW]
    rw [prW_add f g post pre w (by simpa using h), Int.mul_add]
theorem sum_add_int {α : Type} (L : List α) (f g h : α → Int) (H : ∀ x ∈ L, f x = g x + h x) : (L.map f).sum = (L.map g).sum + (L.map h).sum := by
  induction L with
  | nil => rfl
  | cons a L ih =>
    simp only [List.map_cons, List.sum_cons]
    rw [ih (fun x hx => H x (List.mem_cons_of_mem _ hx)), H a (by simp)]; omega
theorem lbn_add (f g : Nat → Int) (pre post : List (Nat → Int)) : lbn (pre ++ (fun c => f c + g c) :: post) = lbn (pre ++ f :: post) + lbn (pre ++ g :: post) := by
  unfold lbn
  rw [show (pre ++ (fun c => f c + g c) :: post).length = (pre ++ f :: post).length by simp, show (pre ++ g :: post).length = (pre ++ f :: post).length by simp]
  apply sum_add_int
  intro p hp
  rw [prW_add f g post pre p.1 (by rw [ordL_len _ p hp]), Int.mul_add]
theorem prW_zero : ∀ (rows : List (Nat → Int)) (w : List Nat), w.length = rows.length → (∃ r ∈ rows, ∀ c, r c = 0) → prW rows w = 0
  | [], _, _, ⟨r, h, _⟩ => by cases h
  | r :: rs, [], h, _ => by simp at h
  | r :: rs, c :: w, h, ⟨s, hs, h0⟩ => by
    rw [prW]
    rcases List.mem_cons.1 hs with rfl | hs
    · rw [h0]; simp
    · rw [prW_zero rs w (by simpa using h) ⟨s, hs, h0⟩]; simp
theorem sum_zero {α : Type} (L : List α) (f : α → Int) (H : ∀ x ∈ L, f x = 0) : (L.map f).sum = 0 := by
  induction L with
  | nil => rfl
  | cons a L ih =>
    simp only [List.map_cons, List.sum_cons]
    rw [ih (fun x hx => H x (List.mem_cons_of_mem _ hx)), H a (by simp)]; rfl
end Go.Proofs.YtapchcamjeafmaaDoor
