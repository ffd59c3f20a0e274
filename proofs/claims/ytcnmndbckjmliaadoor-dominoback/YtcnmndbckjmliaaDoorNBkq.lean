/-
  A block turned: it may be turned again, and then all is as it was. Plain.
-/
import Derived.Test.YtcnmndbckjmliaaDoorNBkp
namespace Go.Proofs.YtcnmndbckjmliaaDoor
open Go.RowKit

theorem cv_cases (f : Nat → UInt8) (i j : Nat) (up : Bool) (_hj : j + 1 < 8) (k : Nat) :
    cvF f i j up k = if k = i * 8 + j then (if up = true then 117 else 108) else if k = i * 8 + (j + 1) then (if up = true then 117 else 114) else if k = (i + 1) * 8 + j then (if up = true then 100 else 108) else if k = (i + 1) * 8 + (j + 1) then (if up = true then 100 else 114) else f k := by
  cases up with
  | true =>
    unfold cvF up2 upB
    simp only [if_true]
    repeat' split
    all_goals first | rfl | (exfalso; omega)
  | false =>
    unfold cvF up2 upB
    simp only [Bool.false_eq_true, if_false]
    repeat' split
    all_goals first | rfl | (exfalso; omega)
/-- The four letters of a block that may be turned. -/
theorem qR_vals {f : Nat → UInt8} {i j : Nat} (h : qR f i j = true) : (f (i * 8 + j) = 108 ∧ f (i * 8 + (j + 1)) = 114 ∧ f ((i + 1) * 8 + j) = 108 ∧ f ((i + 1) * 8 + (j + 1)) = 114) ∨ (f (i * 8 + j) = 117 ∧ f (i * 8 + (j + 1)) = 117 ∧ f ((i + 1) * 8 + j) = 100 ∧ f ((i + 1) * 8 + (j + 1)) = 100) := by
  unfold qR at h
  simp only [Bool.or_eq_true, Bool.and_eq_true, beq_iff_eq, and_assoc] at h
  exact h
theorem cv_corner2 (f : Nat → UInt8) (i j : Nat) (up : Bool) (hj : j + 1 < 8) : cvF f i j up (i * 8 + j) = if up = true then 117 else 108 := by
  rw [cv_cases f i j up hj, if_pos rfl]
theorem cv01 (f : Nat → UInt8) (i j : Nat) (up : Bool) (hj : j + 1 < 8) : cvF f i j up (i * 8 + (j + 1)) = if up = true then 117 else 114 := by
  rw [cv_cases f i j up hj, if_neg (by omega), if_pos rfl]
theorem cv10 (f : Nat → UInt8) (i j : Nat) (up : Bool) (hj : j + 1 < 8) : cvF f i j up ((i + 1) * 8 + j) = if up = true then 100 else 108 := by
  rw [cv_cases f i j up hj, if_neg (by omega), if_neg (by omega), if_pos rfl]
theorem cv11 (f : Nat → UInt8) (i j : Nat) (up : Bool) (hj : j + 1 < 8) : cvF f i j up ((i + 1) * 8 + (j + 1)) = if up = true then 100 else 114 := by
  rw [cv_cases f i j up hj, if_neg (by omega), if_neg (by omega), if_neg (by omega), if_pos rfl]
theorem cv_qR (f : Nat → UInt8) (i j : Nat) (up : Bool) (hj : j + 1 < 8) : qR (cvF f i j up) i j = true := by
  unfold qR
  rw [cv_corner2 f i j up hj, cv01 f i j up hj, cv10 f i j up hj, cv11 f i j up hj]
  cases up <;> rfl
theorem prB_l {r c : Nat} {f : Nat → UInt8} {i j : Nat} (h : atB r c f (i : Int) (j : Int) = 108) (h2 : atB r c f (i : Int) ((j : Int) + 1) = 114) : prB r c f i j = true := by
  unfold prB; rw [h, if_pos rfl, h2]; rfl
theorem prB_r {r c : Nat} {f : Nat → UInt8} {i j : Nat} (h : atB r c f (i : Int) (j : Int) = 114) (h2 : atB r c f (i : Int) ((j : Int) - 1) = 108) : prB r c f i j = true := by
  unfold prB; rw [h, if_neg (by decide), if_pos rfl, h2]; rfl
theorem prB_u {r c : Nat} {f : Nat → UInt8} {i j : Nat} (h : atB r c f (i : Int) (j : Int) = 117) (h2 : atB r c f ((i : Int) + 1) (j : Int) = 100) : prB r c f i j = true := by
  unfold prB; rw [h, if_neg (by decide), if_neg (by decide), if_pos rfl, h2]; rfl
theorem prB_d {r c : Nat} {f : Nat → UInt8} {i j : Nat} (h : atB r c f (i : Int) (j : Int) = 100) (h2 : atB r c f ((i : Int) - 1) (j : Int) = 117) : prB r c f i j = true := by
  unfold prB; rw [h, if_neg (by decide), if_neg (by decide), if_neg (by decide), if_pos rfl, h2]; rfl
/-- Turned twice. -/
theorem cv_back {f : Nat → UInt8} {i j : Nat} (up : Bool) (hj : j + 1 < 8) (h : qR f i j = true) (hup : up = (f (i * 8 + j) == 108)) : cvF (cvF f i j up) i j (!up) = f := by
  funext k
  rw [cv_cases _ i j (!up) hj, cv_cases f i j up hj]
  rcases qR_vals h with ⟨h0, h1, h2, h3⟩ | ⟨h0, h1, h2, h3⟩
  · have : up = true := by rw [hup, h0]; rfl
    subst this
    simp only [Bool.not_true, Bool.false_eq_true, if_false]
    by_cases e0 : k = i * 8 + j
    · rw [if_pos e0, e0, h0]
    · rw [if_neg e0]
      by_cases e1 : k = i * 8 + (j + 1)
      · rw [if_pos e1, e1, h1]
      · rw [if_neg e1]
        by_cases e2 : k = (i + 1) * 8 + j
        · rw [if_pos e2, e2, h2]
        · rw [if_neg e2]
          by_cases e3 : k = (i + 1) * 8 + (j + 1)
          · rw [if_pos e3, e3, h3]
          · rw [if_neg e3, if_neg e0, if_neg e1, if_neg e2, if_neg e3]
  · have : up = false := by rw [hup, h0]; rfl
    subst this
    simp only [Bool.not_false, if_true]
    by_cases e0 : k = i * 8 + j
    · rw [if_pos e0, e0, h0]
    · rw [if_neg e0]
      by_cases e1 : k = i * 8 + (j + 1)
      · rw [if_pos e1, e1, h1]
      · rw [if_neg e1]
        by_cases e2 : k = (i + 1) * 8 + j
        · rw [if_pos e2, e2, h2]
        · rw [if_neg e2]
          by_cases e3 : k = (i + 1) * 8 + (j + 1)
          · rw [if_pos e3, e3, h3]
          · rw [if_neg e3, if_neg e0, if_neg e1, if_neg e2, if_neg e3]
/-- Where no domino of the block is, all stays. -/
theorem cv_far {f : Nat → UInt8} {i j : Nat} {up : Bool} (hj : j + 1 < 8) {k : Nat} (e0 : k ≠ i * 8 + j) (e1 : k ≠ i * 8 + (j + 1)) (e2 : k ≠ (i + 1) * 8 + j) (e3 : k ≠ (i + 1) * 8 + (j + 1)) : cvF f i j up k = f k := by
  rw [cv_cases f i j up hj, if_neg e0, if_neg e1, if_neg e2, if_neg e3]
theorem cv_half {f : Nat → UInt8} {i j : Nat} (up : Bool) (hj : j + 1 < 8) (k : Nat) : isH (cvF f i j up k) ∨ cvF f i j up k = f k := by
  rw [cv_cases f i j up hj]
  unfold isH
  cases up <;> (repeat' split) <;> simp
theorem brd_same {f : Nat → UInt8} {i j : Nat} (up : Bool) (hj : j + 1 < 8) (h : qR f i j = true) (k : Nat) : brdF (cvF f i j up) k = brdF f k := by
  unfold brdF
  have hv := qR_vals h
  by_cases e0 : k = i * 8 + j
  · subst e0
    rw [cv_corner2 f i j up hj]
    have h1 : f (i * 8 + j) ≠ 46 := by rcases hv with ⟨q, _⟩ | ⟨q, _⟩ <;> rw [q] <;> decide
    rw [if_pos h1]; cases up <;> rfl
  · by_cases e1 : k = i * 8 + (j + 1)
    · subst e1
      have h1 : f (i * 8 + (j + 1)) ≠ 46 := by rcases hv with ⟨_, q, _⟩ | ⟨_, q, _⟩ <;> rw [q] <;> decide
      rw [cv_cases f i j up hj, if_neg e0, if_pos rfl, if_pos h1]; cases up <;> rfl
    · by_cases e2 : k = (i + 1) * 8 + j
      · subst e2
        have h1 : f ((i + 1) * 8 + j) ≠ 46 := by rcases hv with ⟨_, _, q, _⟩ | ⟨_, _, q, _⟩ <;> rw [q] <;> decide
        rw [cv_cases f i j up hj, if_neg e0, if_neg e1, if_pos rfl, if_pos h1]; cases up <;> rfl
      · by_cases e3 : k = (i + 1) * 8 + (j + 1)
        · subst e3
          have h1 : f ((i + 1) * 8 + (j + 1)) ≠ 46 := by rcases hv with ⟨_, _, _, q⟩ | ⟨_, _, _, q⟩ <;> rw [q] <;> decide
          rw [cv_cases f i j up hj, if_neg e0, if_neg e1, if_neg e2, if_pos rfl, if_pos h1]; cases up <;> rfl
        · rw [cv_far hj e0 e1 e2 e3]
theorem atB_in2 {r c : Nat} {f : Nat → UInt8} {a b : Nat} (ha : a < r) (hb : b < c) : atB r c f (a : Int) (b : Int) = f (a * 8 + b) := by rw [atB_nat, if_pos ⟨ha, hb⟩]
/-- A turned block keeps a tiling a tiling. -/
theorem cv_ok {r c : Nat} {f : Nat → UInt8} {i j : Nat} (up : Bool) (hc : c + 1 ≤ 8) (hi : i < r) (hjc : j < c) (h : qR f i j = true) (ok : OkT (r + 1) (c + 1) f) : OkT (r + 1) (c + 1) (cvF f i j up) := fun a ha b hb => by
  have hj : j + 1 < 8 := by omega
  have hv := qR_vals h
  have p1 : ∀ x : Nat, ((x : Int) + 1) = ((x + 1 : Nat) : Int) := fun x => by omega
  by_cases e0 : a * 8 + b = i * 8 + j
  · obtain rfl : a = i := by omega
    obtain rfl : b = j := by omega
    cases up with
    | true => exact prB_u (by rw [atB_in2 ha hb, cv_corner2 f _ _ _ hj]; rfl) (by rw [p1, atB_in2 (by omega) hb, cv10 f _ _ _ hj]; rfl)
    | false => exact prB_l (by rw [atB_in2 ha hb, cv_corner2 f _ _ _ hj]; rfl) (by rw [p1, atB_in2 ha (by omega), cv01 f _ _ _ hj]; rfl)
  · by_cases e1 : a * 8 + b = i * 8 + (j + 1)
    · obtain rfl : a = i := by omega
      obtain rfl : b = j + 1 := by omega
      cases up with
      | true => exact prB_u (by rw [atB_in2 ha hb, cv01 f _ _ _ hj]; rfl) (by rw [p1, atB_in2 (by omega) hb, cv11 f _ _ _ hj]; rfl)
      | false => exact prB_r (by rw [atB_in2 ha hb, cv01 f _ _ _ hj]; rfl) (by rw [show (((j + 1 : Nat) : Int) - 1) = (j : Int) by omega, atB_in2 ha (by omega), cv_corner2 f _ _ _ hj]; rfl)
    · by_cases e2 : a * 8 + b = (i + 1) * 8 + j
      · obtain rfl : a = i + 1 := by omega
        obtain rfl : b = j := by omega
        cases up with
        | true => exact prB_d (by rw [atB_in2 ha hb, cv10 f _ _ _ hj]; rfl) (by rw [show (((i + 1 : Nat) : Int) - 1) = (i : Int) by omega, atB_in2 (by omega) hb, cv_corner2 f _ _ _ hj]; rfl)
        | false => exact prB_l (by rw [atB_in2 ha hb, cv10 f _ _ _ hj]; rfl) (by rw [p1, atB_in2 ha (by omega), cv11 f _ _ _ hj]; rfl)
      · by_cases e3 : a * 8 + b = (i + 1) * 8 + (j + 1)
        · obtain rfl : a = i + 1 := by omega
          obtain rfl : b = j + 1 := by omega
          cases up with
          | true => exact prB_d (by rw [atB_in2 ha hb, cv11 f _ _ _ hj]; rfl) (by rw [show (((i + 1 : Nat) : Int) - 1) = (i : Int) by omega, atB_in2 (by omega) hb, cv01 f _ _ _ hj]; rfl)
          | false => exact prB_r (by rw [atB_in2 ha hb, cv11 f _ _ _ hj]; rfl) (by rw [show (((j + 1 : Nat) : Int) - 1) = (j : Int) by omega, atB_in2 ha (by omega), cv10 f _ _ _ hj]; rfl)
        · have hk : cvF f i j up (a * 8 + b) = f (a * 8 + b) := cv_far hj e0 e1 e2 e3
          have h0 := ok a ha b hb
          unfold prB at h0 ⊢
          rw [atB_in2 ha hb] at h0 ⊢
          rw [hk]
          by_cases q1 : f (a * 8 + b) = 108
          · rw [if_pos q1] at h0 ⊢
            have h0 := of_decide_eq_true h0
            rw [p1, atB_nat] at h0 ⊢
            by_cases hb1 : a < r + 1 ∧ b + 1 < c + 1
            · rw [if_pos hb1] at h0 ⊢
              rw [cv_far hj (fun e => ?_) (fun e => ?_) (fun e => ?_) (fun e => ?_)]
              · exact decide_eq_true h0
              · rw [e] at h0; rcases hv with ⟨q, _⟩ | ⟨q, _⟩ <;> rw [q] at h0 <;> exact absurd h0 (by decide)
              · exact e0 (by omega)
              · rw [e] at h0; rcases hv with ⟨_, _, q, _⟩ | ⟨_, _, q, _⟩ <;> rw [q] at h0 <;> exact absurd h0 (by decide)
              · exact e2 (by omega)
            · rw [if_neg hb1] at h0; exact absurd h0 (by decide)
          · rw [if_neg q1] at h0 ⊢
            by_cases q2 : f (a * 8 + b) = 114
            · rw [if_pos q2] at h0 ⊢
              have h0 := of_decide_eq_true h0
              rcases Nat.eq_zero_or_pos b with hb0 | hb0
              · subst hb0
                exact absurd (show (46 : UInt8) = 108 from by unfold atB at h0; rw [if_neg (by omega)] at h0; exact h0) (by decide)
              · obtain ⟨b', rfl⟩ : ∃ b', b = b' + 1 := ⟨b - 1, by omega⟩
                rw [show (((b' + 1 : Nat) : Int) - 1) = (b' : Int) by omega, atB_in2 ha (by omega)] at h0 ⊢
                rw [cv_far hj (fun e => ?_) (fun e => ?_) (fun e => ?_) (fun e => ?_)]
                · exact decide_eq_true h0
                · exact e1 (by omega)
                · rw [e] at h0; rcases hv with ⟨_, q, _⟩ | ⟨_, q, _⟩ <;> rw [q] at h0 <;> exact absurd h0 (by decide)
                · exact e3 (by omega)
                · rw [e] at h0; rcases hv with ⟨_, _, _, q⟩ | ⟨_, _, _, q⟩ <;> rw [q] at h0 <;> exact absurd h0 (by decide)
            · rw [if_neg q2] at h0 ⊢
              by_cases q3 : f (a * 8 + b) = 117
              · rw [if_pos q3] at h0 ⊢
                have h0 := of_decide_eq_true h0
                rw [p1, atB_nat] at h0 ⊢
                by_cases hb1 : a + 1 < r + 1 ∧ b < c + 1
                · rw [if_pos hb1] at h0 ⊢
                  rw [cv_far hj (fun e => ?_) (fun e => ?_) (fun e => ?_) (fun e => ?_)]
                  · exact decide_eq_true h0
                  · rw [e] at h0; rcases hv with ⟨q, _⟩ | ⟨q, _⟩ <;> rw [q] at h0 <;> exact absurd h0 (by decide)
                  · rw [e] at h0; rcases hv with ⟨_, q, _⟩ | ⟨_, q, _⟩ <;> rw [q] at h0 <;> exact absurd h0 (by decide)
                  · exact e0 (by omega)
                  · exact e1 (by omega)
                · rw [if_neg hb1] at h0; exact absurd h0 (by decide)
              · rw [if_neg q3] at h0 ⊢
                by_cases q4 : f (a * 8 + b) = 100
                · rw [if_pos q4] at h0 ⊢
                  have h0 := of_decide_eq_true h0
                  rcases Nat.eq_zero_or_pos a with ha0 | ha0
                  · subst ha0
                    exact absurd (show (46 : UInt8) = 117 from by unfold atB at h0; rw [if_neg (by omega)] at h0; exact h0) (by decide)
                  · obtain ⟨a', rfl⟩ : ∃ a', a = a' + 1 := ⟨a - 1, by omega⟩
                    rw [show (((a' + 1 : Nat) : Int) - 1) = (a' : Int) by omega, atB_in2 (by omega) hb] at h0 ⊢
                    rw [cv_far hj (fun e => ?_) (fun e => ?_) (fun e => ?_) (fun e => ?_)]
                    · exact decide_eq_true h0
                    · exact e2 (by omega)
                    · exact e3 (by omega)
                    · rw [e] at h0; rcases hv with ⟨_, _, q, _⟩ | ⟨_, _, q, _⟩ <;> rw [q] at h0 <;> exact absurd h0 (by decide)
                    · rw [e] at h0; rcases hv with ⟨_, _, _, q⟩ | ⟨_, _, _, q⟩ <;> rw [q] at h0 <;> exact absurd h0 (by decide)
                · rw [if_neg q4]

end Go.Proofs.YtcnmndbckjmliaaDoor
