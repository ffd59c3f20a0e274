/-
  LINDSTROEM, GESSEL, VIENNOT: the theorem.
-/
import Derived.Test.YtapchcamjeafmaaDoorQLgv
namespace Go.Proofs.YtapchcamjeafmaaDoor

theorem ord2 : ordL 2 = [([1, 0], -1), ([0, 1], 1)] := by decide
theorem ord3 : ordL 3 = [([2, 1, 0], -1), ([1, 2, 0], 1), ([1, 0, 2], -1), ([2, 0, 1], 1), ([0, 2, 1], -1), ([0, 1, 2], 1)] := by decide
theorem ord4 : ordL 4 = [([3, 2, 1, 0], 1), ([2, 3, 1, 0], -1), ([2, 1, 3, 0], 1), ([2, 1, 0, 3], -1), ([3, 1, 2, 0], -1), ([1, 3, 2, 0], 1), ([1, 2, 3, 0], -1), ([1, 2, 0, 3], 1), ([3, 1, 0, 2], 1), ([1, 3, 0, 2], -1), ([1, 0, 3, 2], 1), ([1, 0, 2, 3], -1), ([3, 2, 0, 1], -1), ([2, 3, 0, 1], 1), ([2, 0, 3, 1], -1), ([2, 0, 1, 3], 1), ([3, 0, 2, 1], 1), ([0, 3, 2, 1], -1), ([0, 2, 3, 1], 1), ([0, 2, 1, 3], -1), ([3, 0, 1, 2], -1), ([0, 3, 1, 2], 1), ([0, 1, 3, 2], -1), ([0, 1, 2, 3], 1)] := by decide
theorem lbn2 (a b : Nat → Int) : lbn [a, b] = -1 * (a 1 * (b 0 * 1)) + (1 * (a 0 * (b 1 * 1)) + 0) := by
  show ((ordL 2).map fun p => p.2 * prW [a, b] p.1).sum = _
  rw [ord2]; rfl
theorem lbn3 (a b c : Nat → Int) : lbn [a, b, c] = a 0 * (b 1 * c 2) - a 0 * (b 2 * c 1) + a 1 * (b 2 * c 0) - a 1 * (b 0 * c 2) + a 2 * (b 0 * c 1) - a 2 * (b 1 * c 0) := by
  show ((ordL 3).map fun p => p.2 * prW [a, b, c] p.1).sum = _
  rw [ord3]
  simp only [List.map_cons, List.map_nil, List.sum_cons, List.sum_nil, prW, Int.mul_one]
  omega
theorem lbn4 (a b c d : Nat → Int) : lbn [a, b, c, d] =
    a 0 * (b 1 * (c 2 * d 3)) - a 0 * (b 1 * (c 3 * d 2)) + a 0 * (b 2 * (c 3 * d 1)) - a 0 * (b 2 * (c 1 * d 3)) + a 0 * (b 3 * (c 1 * d 2)) - a 0 * (b 3 * (c 2 * d 1))
    - a 1 * (b 0 * (c 2 * d 3)) + a 1 * (b 0 * (c 3 * d 2)) - a 1 * (b 2 * (c 3 * d 0)) + a 1 * (b 2 * (c 0 * d 3)) - a 1 * (b 3 * (c 0 * d 2)) + a 1 * (b 3 * (c 2 * d 0))
    + a 2 * (b 0 * (c 1 * d 3)) - a 2 * (b 0 * (c 3 * d 1)) + a 2 * (b 1 * (c 3 * d 0)) - a 2 * (b 1 * (c 0 * d 3)) + a 2 * (b 3 * (c 0 * d 1)) - a 2 * (b 3 * (c 1 * d 0))
    - a 3 * (b 0 * (c 1 * d 2)) + a 3 * (b 0 * (c 2 * d 1)) - a 3 * (b 1 * (c 2 * d 0)) + a 3 * (b 1 * (c 0 * d 2)) - a 3 * (b 2 * (c 0 * d 1)) + a 3 * (b 2 * (c 1 * d 0)) := by
  show ((ordL 4).map fun p => p.2 * prW [a, b, c, d] p.1).sum = _
  rw [ord4]
  simp only [List.map_cons, List.map_nil, List.sum_cons, List.sum_nil, prW, Int.mul_one]
  omega
/-- Where two rows are alike it is 0. -/
theorem lbn_twice (f : Nat → Int) (pre mid post : List (Nat → Int)) (h : (pre ++ f :: (mid ++ f :: post)).length ≤ 4) : lbn (pre ++ f :: (mid ++ f :: post)) = 0 := by
  have key (a b c d : Int) : a * (b * (c * d)) = b * (a * (c * d)) := Int.mul_left_comm _ _ _
  match pre, mid, post, h with
  | [], [], [], _ =>
    show lbn [f, f] = 0
    rw [lbn2]; have := Int.mul_comm (f 0) (f 1); simp only [Int.mul_one]; omega
  | [], [], [a], _ =>
    show lbn [f, f, a] = 0
    rw [lbn3]; have h1 := Int.mul_left_comm (f 0) (f 1) (a 2); have h2 := Int.mul_left_comm (f 0) (f 2) (a 1); have h3 := Int.mul_left_comm (f 1) (f 2) (a 0); omega
  | [], [a], [], _ =>
    show lbn [f, a, f] = 0
    rw [lbn3]; simp only [Int.mul_comm, Int.mul_left_comm, Int.mul_assoc]; omega
  | [a], [], [], _ =>
    show lbn [a, f, f] = 0
    rw [lbn3]; simp only [Int.mul_comm, Int.mul_left_comm, Int.mul_assoc]; omega
  | [], [], [a, b], _ =>
    show lbn [f, f, a, b] = 0
    rw [lbn4]; simp only [Int.mul_comm, Int.mul_left_comm, Int.mul_assoc]; omega
  | [], [a], [b], _ =>
    show lbn [f, a, f, b] = 0
    rw [lbn4]; simp only [Int.mul_comm, Int.mul_left_comm, Int.mul_assoc]; omega
  | [], [a, b], [], _ =>
    show lbn [f, a, b, f] = 0
    rw [lbn4]; simp only [Int.mul_comm, Int.mul_left_comm, Int.mul_assoc]; omega
  | [a], [], [b], _ =>
    show lbn [a, f, f, b] = 0
    rw [lbn4]; simp only [Int.mul_comm, Int.mul_left_comm, Int.mul_assoc]; omega
  | [a], [b], [], _ =>
    show lbn [a, f, b, f] = 0
    rw [lbn4]; simp only [Int.mul_comm, Int.mul_left_comm, Int.mul_assoc]; omega
  | [a, b], [], [], _ =>
    show lbn [a, b, f, f] = 0
    rw [lbn4]; simp only [Int.mul_comm, Int.mul_left_comm, Int.mul_assoc]; omega
  | _ :: _ :: _ :: _, _, _, h => exact absurd h (by simp; omega)
  | _ :: _, _ :: _ :: _, _, h => exact absurd h (by simp; omega)
  | _ :: _, _, _ :: _ :: _, h => exact absurd h (by simp; omega)
  | _ :: _, _ :: _, _ :: _, h => exact absurd h (by simp; omega)
  | _ :: _ :: _, _ :: _, _, h => exact absurd h (by simp; omega)
  | _ :: _ :: _, _, _ :: _, h => exact absurd h (by simp; omega)
  | _, _ :: _ :: _ :: _, _, h => exact absurd h (by simp; omega)
  | _, _, _ :: _ :: _ :: _, h => exact absurd h (by simp; omega)
  | _, _ :: _ :: _, _ :: _, h => exact absurd h (by simp; omega)
  | _, _ :: _, _ :: _ :: _, h => exact absurd h (by simp; omega)

/-- A start that is still to go (true), or a path that has ended there. -/
def tpT (cl : Nat → Bool) (a : Bool × (Nat × Nat)) (e : Nat × Nat) : List (List (Nat × Nat)) := if a.1 = true then pth cl a.2 e else dnP a.2 e
def rwT (cl : Nat → Bool) (B : Nat → Nat × Nat) (a : Bool × (Nat × Nat)) : Nat → Int := fun c => ((tpT cl a (B c)).length : Int)
/-- The lists of paths along an order. -/
def tlT (cl : Nat → Bool) (B : Nat → Nat × Nat) : List (Bool × (Nat × Nat)) → List Nat → List (List (List (Nat × Nat)))
  | a :: A, c :: w => tpT cl a (B c) :: tlT cl B A w
  | _, _ => []
/-- Families that keep apart, by all orders, each with its sign. -/
def apS (cl : Nat → Bool) (B : Nat → Nat × Nat) (A : List (Bool × (Nat × Nat))) : Int := ((ordL A.length).map fun p => p.2 * (apR [] (tlT cl B A p.1) : Int)).sum
theorem tlT_app (cl : Nat → Bool) (B : Nat → Nat × Nat) (a : Bool × (Nat × Nat)) (post : List (Bool × (Nat × Nat))) : ∀ (pre : List (Bool × (Nat × Nat))) (w : List Nat), w.length = (pre ++ a :: post).length → ∃ w1 c w2, w = w1 ++ c :: w2 ∧ w1.length = pre.length ∧ w2.length = post.length
  | [], [], h => by simp at h
  | [], c :: w, h => ⟨[], c, w, rfl, rfl, by simpa using h⟩
  | b :: pre, [], h => by simp at h
  | b :: pre, d :: w, h => by
    obtain ⟨w1, c, w2, rfl, h1, h2⟩ := tlT_app cl B a post pre w (by simpa using h)
    exact ⟨d :: w1, c, w2, rfl, by simp [h1], h2⟩
theorem tlT_split (cl : Nat → Bool) (B : Nat → Nat × Nat) (a : Bool × (Nat × Nat)) (post : List (Bool × (Nat × Nat))) (c : Nat) (w2 : List Nat) : ∀ (pre : List (Bool × (Nat × Nat))) (w1 : List Nat), w1.length = pre.length → tlT cl B (pre ++ a :: post) (w1 ++ c :: w2) = tlT cl B pre w1 ++ tpT cl a (B c) :: tlT cl B post w2
  | [], [], _ => rfl
  | [], _ :: _, h => by simp at h
  | b :: pre, [], h => by simp at h
  | b :: pre, d :: w1, h => by
    simp only [List.cons_append, tlT]
    rw [tlT_split cl B a post c w2 pre w1 (by simpa using h)]
theorem tlT_mem (cl : Nat → Bool) (B : Nat → Nat × Nat) : ∀ (A : List (Bool × (Nat × Nat))) (w : List Nat) (L : List (List (Nat × Nat))), L ∈ tlT cl B A w → ∃ a ∈ A, ∃ c, L = tpT cl a (B c)
  | [], _, L, h => by simp [tlT] at h
  | a :: A, [], L, h => by simp [tlT] at h
  | a :: A, c :: w, L, h => by
    rw [tlT] at h
    rcases List.mem_cons.1 h with rfl | h
    · exact ⟨a, by simp, c, rfl⟩
    · obtain ⟨b, hb, d, rfl⟩ := tlT_mem cl B A w L h
      exact ⟨b, List.mem_cons_of_mem _ hb, d, rfl⟩
/-- Where a start has no path at all. -/
theorem lgv_dead {cl : Nat → Bool} {B : Nat → Nat × Nat} {A : List (Bool × (Nat × Nat))} {a : Bool × (Nat × Nat)} (ha : a ∈ A) (h : ∀ c, tpT cl a (B c) = []) : lbn (A.map (rwT cl B)) = apS cl B A := by
  have h1 : lbn (A.map (rwT cl B)) = 0 := by
    unfold lbn
    apply sum_zero
    intro p hp
    rw [prW_zero _ _ (ordL_len _ p hp) ⟨rwT cl B a, List.mem_map_of_mem ha, fun c => by unfold rwT; rw [h]; rfl⟩]; simp
  have h2 : apS cl B A = 0 := by
    unfold apS
    apply sum_zero
    intro p hp
    obtain ⟨pre, post, rfl⟩ := List.append_of_mem ha
    obtain ⟨w1, c, w2, hw, hl, _⟩ := tlT_app cl B a post pre p.1 (ordL_len _ p hp)
    rw [hw, tlT_split _ _ _ _ _ _ _ _ hl, h, apR_none _ _ (by simp)]; simp
  rw [h1, h2]
/-- Where two starts are one. -/
theorem lgv_twice {cl : Nat → Bool} {B : Nat → Nat × Nat} {v : Nat × Nat} {pre mid post : List (Bool × (Nat × Nat))} (h : (pre ++ (true, v) :: (mid ++ (true, v) :: post)).length ≤ 4) : lbn ((pre ++ (true, v) :: (mid ++ (true, v) :: post)).map (rwT cl B)) = apS cl B (pre ++ (true, v) :: (mid ++ (true, v) :: post)) := by
  have h1 : lbn ((pre ++ (true, v) :: (mid ++ (true, v) :: post)).map (rwT cl B)) = 0 := by
    rw [List.map_append, List.map_cons, List.map_append, List.map_cons]
    exact lbn_twice _ _ _ _ (by simpa using h)
  have h2 : apS cl B (pre ++ (true, v) :: (mid ++ (true, v) :: post)) = 0 := by
    unfold apS
    apply sum_zero
    intro p hp
    obtain ⟨w1, c, w2, hw, hl, hl2⟩ := tlT_app cl B (true, v) _ pre p.1 (ordL_len _ p hp)
    obtain ⟨w3, d, w4, rfl, hl3, _⟩ := tlT_app cl B (true, v) post mid w2 hl2
    rw [hw, tlT_split _ _ _ _ _ _ _ _ hl, tlT_split _ _ _ _ _ _ _ _ hl3, apR_two (v := v) (tpT cl (true, v) (B c)) (tpT cl (true, v) (B d)) (fun q hq => (pth_in (cl := cl) (e := B c) hq).2) (fun q hq => (pth_in (cl := cl) (e := B d) hq).2)]; simp
  rw [h1, h2]
/-- One step of one start. -/
theorem lgv_one {cl : Nat → Bool} {B : Nat → Nat × Nat} {v : Nat × Nat} {pre post : List (Bool × (Nat × Nat))} (hv : cl (ixP8 v) = false) (hpre : ∀ a ∈ pre ++ post, ∀ c, ∀ q ∈ tpT cl a (B c), v ∉ q)
    (h0 : lbn ((pre ++ (false, v) :: post).map (rwT cl B)) = apS cl B (pre ++ (false, v) :: post))
    (h1 : lbn ((pre ++ (true, (v.1 + 1, v.2)) :: post).map (rwT cl B)) = apS cl B (pre ++ (true, (v.1 + 1, v.2)) :: post))
    (h2 : lbn ((pre ++ (true, (v.1, v.2 + 1)) :: post).map (rwT cl B)) = apS cl B (pre ++ (true, (v.1, v.2 + 1)) :: post)) :
    lbn ((pre ++ (true, v) :: post).map (rwT cl B)) = apS cl B (pre ++ (true, v) :: post) := by
  have e1 : rwT cl B (true, v) = fun c => (fun c => rwT cl B (false, v) c + rwT cl B (true, (v.1 + 1, v.2)) c) c + rwT cl B (true, (v.1, v.2 + 1)) c := by
    funext c
    show ((pth cl v (B c)).length : Int) = ((dnP v (B c)).length : Int) + ((pth cl (v.1 + 1, v.2) (B c)).length : Int) + ((pth cl (v.1, v.2 + 1) (B c)).length : Int)
    rw [pth_step _ hv]; simp; omega
  rw [List.map_append, List.map_cons, e1, lbn_add, lbn_add]
  simp only [List.map_append, List.map_cons] at h0 h1 h2
  rw [h0, h1, h2]
  symm
  unfold apS
  rw [show (pre ++ (false, v) :: post).length = (pre ++ (true, v) :: post).length by simp, show (pre ++ (true, (v.1 + 1, v.2)) :: post).length = (pre ++ (true, v) :: post).length by simp, show (pre ++ (true, (v.1, v.2 + 1)) :: post).length = (pre ++ (true, v) :: post).length by simp]
  have s1 := sum_add_int (ordL (pre ++ (true, v) :: post).length) (fun p => p.2 * (apR [] (tlT cl B (pre ++ (true, v) :: post) p.1) : Int)) (fun p => p.2 * (apR [] (tlT cl B (pre ++ (false, v) :: post) p.1) : Int) + p.2 * (apR [] (tlT cl B (pre ++ (true, (v.1 + 1, v.2)) :: post) p.1) : Int)) (fun p => p.2 * (apR [] (tlT cl B (pre ++ (true, (v.1, v.2 + 1)) :: post) p.1) : Int)) (fun p hp => by
    obtain ⟨w1, c, w2, hw, hl, _⟩ := tlT_app cl B (true, v) post pre p.1 (ordL_len _ p hp)
    rw [hw, tlT_split _ _ _ _ _ _ _ _ hl, tlT_split _ _ _ _ _ _ _ _ hl, tlT_split _ _ _ _ _ _ _ _ hl, tlT_split _ _ _ _ _ _ _ _ hl]
    show p.2 * (apR [] (_ ++ pth cl v (B c) :: _) : Int) = p.2 * (apR [] (_ ++ dnP v (B c) :: _) : Int) + p.2 * (apR [] (_ ++ pth cl (v.1 + 1, v.2) (B c) :: _) : Int) + p.2 * (apR [] (_ ++ pth cl (v.1, v.2 + 1) (B c) :: _) : Int)
    rw [pth_step _ hv, apR_head _ _ (fun L hL q hq => ?_) _ _ (by simp) (fun L hL q hq => ?_), apR_add, apR_add, Int.natCast_add, Int.natCast_add, Int.mul_add, Int.mul_add]
    · obtain ⟨a, ha, d, rfl⟩ := tlT_mem _ _ _ _ _ hL
      exact hpre a (List.mem_append_right _ ha) d q hq
    · obtain ⟨a, ha, d, rfl⟩ := tlT_mem _ _ _ _ _ hL
      exact hpre a (List.mem_append_left _ ha) d q hq)
  rw [s1, sum_add_int (ordL (pre ++ (true, v) :: post).length) _ (fun p => p.2 * (apR [] (tlT cl B (pre ++ (false, v) :: post) p.1) : Int)) (fun p => p.2 * (apR [] (tlT cl B (pre ++ (true, (v.1 + 1, v.2)) :: post) p.1) : Int)) (fun p _ => rfl)]
/-- Where all have ended. -/
theorem lgv_done {cl : Nat → Bool} {B : Nat → Nat × Nat} {A : List (Bool × (Nat × Nat))} (h : ∀ a ∈ A, a.1 = false) : lbn (A.map (rwT cl B)) = apS cl B A := by
  unfold lbn apS
  rw [List.length_map]
  congr 1
  apply List.map_congr_left
  intro p _
  congr 1
  suffices H : ∀ (A : List (Bool × (Nat × Nat))) (w : List Nat) (T : List (Nat × Nat)), (∀ a ∈ A, a.1 = false) → prW (A.map (rwT cl B)) w = (apR T (tlT cl B A w) : Int) from H A p.1 [] h
  intro A
  induction A with
  | nil => intro w T _; cases w <;> rfl
  | cons a A ih =>
    intro w T hA
    cases w with
    | nil => rfl
    | cons c w =>
      rw [List.map_cons, prW, tlT, apR, ih w T (fun b hb => hA b (List.mem_cons_of_mem _ hb))]
      have e : tpT cl a (B c) = dnP a.2 (B c) := by unfold tpT; rw [hA a (by simp)]; rfl
      unfold rwT
      rw [e]
      unfold dnP
      by_cases hc : B c = a.2
      · rw [if_pos hc]
        simp [dsj]
      · rw [if_neg hc]
        simp
/-- LINDSTROEM, GESSEL, VIENNOT. -/
theorem lgv_from {cl : Nat → Bool} {B : Nat → Nat × Nat} (hB : ∀ c, (B c).1 < 8 ∧ (B c).2 < 8) : ∀ (k : Nat) (A : List (Bool × (Nat × Nat))), A.length ≤ 4 → (∀ a ∈ A, a.1 = true → 8 ≤ a.2.1 ∨ 8 ≤ a.2.2 ∨ 64 ≤ ixP8 a.2 + k) → lbn (A.map (rwT cl B)) = apS cl B A := by
  intro k
  induction k with
  | zero =>
    intro A h4 hA
    by_cases hl : ∃ a ∈ A, a.1 = true
    · obtain ⟨a, ha, h1⟩ := hl
      refine lgv_dead ha (fun c => ?_)
      have := hA a ha h1
      have hb := hB c
      unfold tpT
      rw [if_pos h1, pth_far (by unfold ixP8 at this; omega)]
    · exact lgv_done (fun a ha => by
        cases h : a.1 with
        | false => rfl
        | true => exact absurd ⟨a, ha, h⟩ hl)
  | succ k ih =>
    intro A h4 hA
    by_cases hd : ∃ a ∈ A, a.1 = true ∧ (8 ≤ a.2.1 ∨ 8 ≤ a.2.2)
    · obtain ⟨a, ha, h1, h8⟩ := hd
      refine lgv_dead ha (fun c => ?_)
      have hb := hB c
      unfold tpT
      rw [if_pos h1, pth_far (by omega)]
    · have hlt : ∀ a ∈ A, a.1 = true → a.2.1 < 8 ∧ a.2.2 < 8 := fun a ha h1 => by
        constructor
        · by_cases h : a.2.1 < 8
          · exact h
          · exact absurd ⟨a, ha, h1, Or.inl (by omega)⟩ hd
        · by_cases h : a.2.2 < 8
          · exact h
          · exact absurd ⟨a, ha, h1, Or.inr (by omega)⟩ hd
      by_cases hk : 64 ≤ k
      · exact ih A h4 (fun a ha h1 => Or.inr (Or.inr (by omega)))
      · obtain ⟨v, hv1, hv2, hv⟩ : ∃ v : Nat × Nat, v.1 < 8 ∧ v.2 < 8 ∧ ixP8 v + (k + 1) = 64 := ⟨((63 - k) / 8, (63 - k) % 8), by simp only; omega, by simp only; omega, by unfold ixP8; simp only; omega⟩
        by_cases hm : (true, v) ∈ A
        · obtain ⟨pre, post, rfl⟩ := List.append_of_mem hm
          by_cases ht : (true, v) ∈ post
          · obtain ⟨mid, post, rfl⟩ := List.append_of_mem ht
            exact lgv_twice h4
          · by_cases ht2 : (true, v) ∈ pre
            · obtain ⟨pre, mid, rfl⟩ := List.append_of_mem ht2
              have e : pre ++ (true, v) :: mid ++ (true, v) :: post = pre ++ (true, v) :: (mid ++ (true, v) :: post) := by simp
              rw [e] at h4 ⊢
              exact lgv_twice h4
            · cases hc : cl (ixP8 v) with
              | true =>
                refine lgv_dead hm (fun c => ?_)
                unfold tpT
                rw [if_pos rfl, pth_shut hc]
              | false =>
                have hrest : ∀ a ∈ pre ++ post, a.1 = true → 8 ≤ a.2.1 ∨ 8 ≤ a.2.2 ∨ 64 ≤ ixP8 a.2 + k := fun a ha h1 => by
                  have hmem : a ∈ pre ++ (true, v) :: post := by
                    rcases List.mem_append.1 ha with h | h
                    · exact List.mem_append_left _ h
                    · exact List.mem_append_right _ (List.mem_cons_of_mem _ h)
                  have h64 := hA a hmem h1
                  have h8 := hlt a hmem h1
                  by_cases heq : ixP8 a.2 = ixP8 v
                  · exfalso
                    have : a = (true, v) := by
                      obtain ⟨a1, a2, a3⟩ := a
                      obtain ⟨v1, v2⟩ := v
                      unfold ixP8 at heq
                      simp only at *
                      subst h1
                      have : a2 = v1 := by omega
                      have : a3 = v2 := by omega
                      subst a2 a3; rfl
                    subst this
                    rcases List.mem_append.1 ha with h | h
                    · exact ht2 h
                    · exact ht h
                  · omega
                have hnew : ∀ b : Bool × (Nat × Nat), (b.1 = true → 8 ≤ b.2.1 ∨ 8 ≤ b.2.2 ∨ 64 ≤ ixP8 b.2 + k) → ∀ a ∈ pre ++ b :: post, a.1 = true → 8 ≤ a.2.1 ∨ 8 ≤ a.2.2 ∨ 64 ≤ ixP8 a.2 + k := fun b hb a ha h1 => by
                  rcases List.mem_append.1 ha with h | h
                  · exact hrest a (List.mem_append_left _ h) h1
                  · rcases List.mem_cons.1 h with rfl | h
                    · exact hb h1
                    · exact hrest a (List.mem_append_right _ h) h1
                refine lgv_one hc (fun a ha c q hq hvq => ?_) (ih _ (by simpa using h4) (hnew (false, v) (fun h => by cases h))) (ih _ (by simpa using h4) (hnew (true, (v.1 + 1, v.2)) (fun _ => ?_))) (ih _ (by simpa using h4) (hnew (true, (v.1, v.2 + 1)) (fun _ => ?_)))
                · unfold tpT at hq
                  by_cases h1 : a.1 = true
                  · rw [if_pos h1] at hq
                    have h3 := (pth_in hq).1 v hvq
                    have h5 := hrest a ha h1
                    unfold ixP8 at h5 hv
                    have := hB c
                    omega
                  · rw [if_neg h1] at hq
                    unfold dnP at hq
                    split at hq
                    · rw [List.mem_singleton] at hq; subst hq; cases hvq
                    · cases hq
                · unfold ixP8 at hv ⊢; simp only; omega
                · unfold ixP8 at hv ⊢; simp only; omega
        · refine ih A h4 (fun a ha h1 => ?_)
          have h64 := hA a ha h1
          have h8 := hlt a ha h1
          by_cases heq : ixP8 a.2 = ixP8 v
          · exfalso
            apply hm
            have : a = (true, v) := by
              obtain ⟨a1, a2, a3⟩ := a
              obtain ⟨v1, v2⟩ := v
              unfold ixP8 at heq
              simp only at *
              subst h1
              have : a2 = v1 := by omega
              have : a3 = v2 := by omega
              subst a2 a3; rfl
            exact this ▸ ha
          · omega
theorem lgv {cl : Nat → Bool} {B : Nat → Nat × Nat} (hB : ∀ c, (B c).1 < 8 ∧ (B c).2 < 8) (A : List (Bool × (Nat × Nat))) (h4 : A.length ≤ 4) : lbn (A.map (rwT cl B)) = apS cl B A :=
  lgv_from hB 64 A h4 (fun a _ _ => Or.inr (Or.inr (by omega)))
end Go.Proofs.YtapchcamjeafmaaDoor
