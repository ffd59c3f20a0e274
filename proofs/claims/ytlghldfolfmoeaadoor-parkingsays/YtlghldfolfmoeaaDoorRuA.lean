/-
  Right fillings as the search finds them: plain.
-/
import Derived.Test.YtlghldfolfmoeaaDoorBOwn
namespace Go.Proofs.YtlghldfolfmoeaaDoor

/-- One box changed. -/
def upd2 (g : Nat → Nat → Nat) (i j x : Nat) : Nat → Nat → Nat := fun a b => if a = i ∧ b = j then x else g a b
def inc1 (u : Nat → Nat) (x : Nat) : Nat → Nat := fun y => if y = x then u y + 1 else u y
theorem upd2_same (g : Nat → Nat → Nat) (i j x : Nat) : upd2 g i j x i j = x := by simp [upd2]
theorem upd2_other (g : Nat → Nat → Nat) {i j x a b : Nat} (h : ¬ (a = i ∧ b = j)) : upd2 g i j x a b = g a b := by simp [upd2, h]

/-- The rows c, filled by g. -/
def tabN (c : Nat → Nat) (m : Nat) (g : Nat → Nat → Nat) : List (List Nat) := (List.range m).map fun i => (List.range (c i)).map (g i)
theorem tabN_at {c : Nat → Nat} {m : Nat} {g : Nat → Nat → Nat} {i j : Nat} (hi : i < m) (hj : j < c i) : ((tabN c m g).getD i []).getD j 0 = g i j := by
  simp [tabN, List.getD, hi, hj]
theorem tabN_congr {c : Nat → Nat} {m : Nat} {g g' : Nat → Nat → Nat} (h : ∀ i j, i < m → j < c i → g i j = g' i j) : tabN c m g = tabN c m g' := by
  unfold tabN
  refine List.map_congr_left fun i hi => List.map_congr_left fun j hj => h i j (List.mem_range.1 hi) (List.mem_range.1 hj)

def loN (g : Nat → Nat → Nat) (i j : Nat) : Nat := if i = 0 then 1 else g (i - 1) j + 1
def hiN (n : Nat) (c : Nat → Nat) (g : Nat → Nat → Nat) (i j : Nat) : Nat := if j + 1 = c i then n else g i (j + 1)
def mayN (b u : Nat → Nat) (x : Nat) : Bool := decide (u x ≠ b x) && (decide (x = 1) || decide (u x < u (x - 1)))

/-- What the search hands on. -/
def srch (n : Nat) (b c : Nat → Nat) (m : Nat) : List (Nat × Nat) → (Nat → Nat → Nat) → (Nat → Nat) → List (List (List Nat))
  | [], g, _ => [tabN c m g]
  | (i, j) :: bs, g, u => (List.range' (loN g i j) (hiN n c g i j + 1 - loN g i j)).flatMap fun x => if mayN b u x then srch n b c m bs (upd2 g i j x) (inc1 u x) else []

/-- The boxes come in such an order that what is above and what is right of one comes ahead of it. -/
def OrdB : List (Nat × Nat) → Prop
  | [] => True
  | (i, j) :: bs => (i, j) ∉ bs ∧ (0 < i → (i - 1, j) ∉ bs) ∧ (i, j + 1) ∉ bs ∧ OrdB bs

def Loc (n : Nat) (b c : Nat → Nat) : List (Nat × Nat) → (Nat → Nat → Nat) → (Nat → Nat) → Prop
  | [], _, _ => True
  | (i, j) :: bs, g, u => loN g i j ≤ g i j ∧ g i j ≤ hiN n c g i j ∧ mayN b u (g i j) = true ∧ Loc n b c bs g (inc1 u (g i j))

theorem lo_congr {g g' : Nat → Nat → Nat} {i j : Nat} (h : 0 < i → g (i - 1) j = g' (i - 1) j) : loN g i j = loN g' i j := by
  unfold loN
  split
  · rfl
  · rw [h (by omega)]
theorem hi_congr {n : Nat} {c : Nat → Nat} {g g' : Nat → Nat → Nat} {i j : Nat} (h : g i (j + 1) = g' i (j + 1)) : hiN n c g i j = hiN n c g' i j := by
  unfold hiN; rw [h]

/-- What lies in the boxes that are still to come makes no difference. -/
theorem srch_congr (n : Nat) (b c : Nat → Nat) (m : Nat) : ∀ (bs : List (Nat × Nat)) (g g' : Nat → Nat → Nat) (u : Nat → Nat), OrdB bs → (∀ i j, (i, j) ∉ bs → g i j = g' i j) → srch n b c m bs g u = srch n b c m bs g' u := by
  intro bs
  induction bs with
  | nil => intro g g' u _ h; simp only [srch]; rw [show g = g' from funext fun i => funext fun j => h i j (by simp)]
  | cons x bs ih =>
    obtain ⟨i, j⟩ := x
    intro g g' u ho h
    obtain ⟨h1, h2, h3, h4⟩ := ho
    have e1 : loN g i j = loN g' i j := lo_congr (fun hi => h _ _ (by simp only [List.mem_cons, not_or]; exact ⟨fun e => by have := (Prod.mk.inj e).1; omega, h2 hi⟩))
    have e2 : hiN n c g i j = hiN n c g' i j := hi_congr (h _ _ (by simp only [List.mem_cons, not_or]; exact ⟨fun e => by have := (Prod.mk.inj e).2; omega, h3⟩))
    simp only [srch]
    rw [e1, e2]
    congr 1
    funext x
    split
    · refine ih _ _ _ h4 fun a b hab => ?_
      by_cases e : a = i ∧ b = j
      · obtain ⟨rfl, rfl⟩ := e; rw [upd2_same, upd2_same]
      · rw [upd2_other _ e, upd2_other _ e]
        exact h _ _ (by simp only [List.mem_cons, not_or]; exact ⟨fun e2 => e (Prod.mk.inj e2), hab⟩)
    · rfl

theorem mem_srch (n : Nat) (b c : Nat → Nat) (m : Nat) : ∀ (bs : List (Nat × Nat)) (g : Nat → Nat → Nat) (u : Nat → Nat) (t : List (List Nat)), OrdB bs →
    (t ∈ srch n b c m bs g u ↔ ∃ g', t = tabN c m g' ∧ (∀ i j, (i, j) ∉ bs → g' i j = g i j) ∧ Loc n b c bs g' u) := by
  intro bs
  induction bs with
  | nil =>
    intro g u t _
    simp only [srch, List.mem_singleton, Loc, and_true]
    constructor
    · rintro rfl; exact ⟨g, rfl, fun _ _ _ => rfl⟩
    · rintro ⟨g', rfl, h⟩
      rw [show g' = g from funext fun i => funext fun j => h i j (by simp)]
  | cons x bs ih =>
    obtain ⟨i, j⟩ := x
    intro g u t ho
    obtain ⟨h1, h2, h3, h4⟩ := ho
    simp only [srch, List.mem_flatMap, Loc]
    have key : ∀ g' : Nat → Nat → Nat, (∀ a b, (a, b) ∉ (i, j) :: bs → g' a b = g a b) → loN g' i j = loN g i j ∧ hiN n c g' i j = hiN n c g i j := fun g' h =>
      ⟨lo_congr (fun hi => h _ _ (by simp only [List.mem_cons, not_or]; exact ⟨fun e => by have := (Prod.mk.inj e).1; omega, h2 hi⟩)),
       hi_congr (h _ _ (by simp only [List.mem_cons, not_or]; exact ⟨fun e => by have := (Prod.mk.inj e).2; omega, h3⟩))⟩
    constructor
    · rintro ⟨x, hx, ht⟩
      by_cases hm : mayN b u x = true
      · rw [if_pos hm] at ht
        obtain ⟨g', rfl, hg, hl⟩ := (ih _ _ _ h4).1 ht
        have e : g' i j = x := by rw [hg i j h1, upd2_same]
        have hg2 : ∀ a b, (a, b) ∉ (i, j) :: bs → g' a b = g a b := fun a b hab => by
          simp only [List.mem_cons, not_or] at hab
          rw [hg a b hab.2, upd2_other _ (fun e2 => hab.1 (by rw [e2.1, e2.2]))]
        obtain ⟨k1, k2⟩ := key g' hg2
        have hr := List.mem_range'_1.1 hx
        exact ⟨g', rfl, hg2, by rw [k1, e]; exact hr.1, by rw [k2, e]; omega, by rw [e]; exact hm, by rw [e]; exact hl⟩
      · rw [if_neg hm] at ht; cases ht
    · rintro ⟨g', rfl, hg, l1, l2, l3, l4⟩
      obtain ⟨k1, k2⟩ := key g' hg
      refine ⟨g' i j, List.mem_range'_1.2 ⟨by rw [← k1]; exact l1, by rw [← k1, ← k2]; omega⟩, ?_⟩
      rw [if_pos l3]
      refine (ih _ _ _ h4).2 ⟨g', rfl, fun a b hab => ?_, l4⟩
      by_cases e : a = i ∧ b = j
      · obtain ⟨rfl, rfl⟩ := e; rw [upd2_same]
      · rw [upd2_other _ e]
        exact hg a b (by simp only [List.mem_cons, not_or]; exact ⟨fun e2 => e (Prod.mk.inj e2), hab⟩)

theorem nodup_flat {α β : Type} (f : α → List β) : ∀ l : List α, l.Nodup → (∀ x ∈ l, (f x).Nodup) → (∀ x ∈ l, ∀ y ∈ l, x ≠ y → ∀ z ∈ f x, z ∉ f y) → (l.flatMap f).Nodup := by
  intro l
  induction l with
  | nil => intro _ _ _; simp
  | cons a l ih =>
    intro h1 h2 h3
    rw [List.flatMap_cons, List.nodup_append]
    obtain ⟨ha, hl⟩ := List.nodup_cons.1 h1
    refine ⟨h2 a (by simp), ih hl (fun x hx => h2 x (by simp [hx])) (fun x hx y hy => h3 x (by simp [hx]) y (by simp [hy])), fun z hz z' hz' e => ?_⟩
    subst e
    obtain ⟨y, hy, hzy⟩ := List.mem_flatMap.1 hz'
    exact h3 a (by simp) y (by simp [hy]) (fun e => ha (by rw [e]; exact hy)) z hz hzy

theorem srch_nodup (n : Nat) (b c : Nat → Nat) (m : Nat) : ∀ (bs : List (Nat × Nat)) (g : Nat → Nat → Nat) (u : Nat → Nat), OrdB bs → (∀ p ∈ bs, p.1 < m ∧ p.2 < c p.1) → (srch n b c m bs g u).Nodup := by
  intro bs
  induction bs with
  | nil => intro g u _ _; simp [srch]
  | cons x bs ih =>
    obtain ⟨i, j⟩ := x
    intro g u ho hin
    obtain ⟨h1, h2, h3, h4⟩ := ho
    have hij := hin (i, j) (by simp)
    simp only [srch]
    have hv : ∀ x t, t ∈ (if mayN b u x then srch n b c m bs (upd2 g i j x) (inc1 u x) else []) → (t.getD i []).getD j 0 = x := fun x t ht => by
      split at ht
      · obtain ⟨g', rfl, hg, _⟩ := (mem_srch n b c m bs _ _ _ h4).1 ht
        rw [tabN_at hij.1 hij.2, hg i j h1, upd2_same]
      · cases ht
    refine nodup_flat _ _ (List.nodup_range' ..) (fun x _ => ?_) (fun x _ y _ hxy z hz hz' => hxy ((hv x z hz).symm.trans (hv y z hz')))
    split
    · exact ih _ _ h4 (fun p hp => hin p (by simp [hp]))
    · simp

end Go.Proofs.YtlghldfolfmoeaaDoor
