/-
  A tiling of what First tells; a block turned twice. Plain.
  A block turned: it may be turned again, and then all is as it was. Plain.
-/
import Derived.Test.YtcnmndbckjmliaaDoorNFst
import Derived.Test.YtcnmndbckjmliaaDoorNBd
namespace Go.Proofs.YtcnmndbckjmliaaDoor
open Go.RowKit

theorem atB_congr {r c : Nat} {f g : Nat → UInt8} (h : ∀ i, i < r → ∀ j, j < c → f (i * 8 + j) = g (i * 8 + j)) (i j : Int) : atB r c f i j = atB r c g i j := by
  unfold atB
  by_cases q : 0 ≤ i ∧ i < (r : Int) ∧ 0 ≤ j ∧ j < (c : Int)
  · rw [if_pos q, if_pos q]; exact h _ (by omega) _ (by omega)
  · rw [if_neg q, if_neg q]
theorem prB_congr {r c : Nat} {f g : Nat → UInt8} (h : ∀ i, i < r → ∀ j, j < c → f (i * 8 + j) = g (i * 8 + j)) (i j : Nat) : prB r c f i j = prB r c g i j := by
  unfold prB
  rw [atB_congr h, atB_congr h, atB_congr h, atB_congr h, atB_congr h]
/-- Letters and '.'. -/
theorem lrud_of {b : UInt8} (h : isH b ∨ b = 46) : b ∈ lrud := by
  unfold lrud
  rcases h with (e | e | e | e) | e <;> subst e <;> decide
theorem no47 : (47 : UInt8) ∉ lrud := by decide
theorem cef_tx {lt : List UInt8} {r c : Nat} {f : Nat → UInt8} (r1 : 1 ≤ r) (c8 : c ≤ 8) (h : ∀ i, i < r → ∀ j, j < c → f (i * 8 + j) ∈ lt) (h47 : (47 : UInt8) ∉ lt) {i j : Nat} (hi : i < r) (hj : j < c) : cef (pz (tx r c f)) (i * 8 + j) = f (i * 8 + j) := by
  rw [pz_tx r1 h h47]; exact cef_rwz r c f i j hi hj c8
theorem til_mk {r c : Nat} {f : Nat → UInt8} (r1 : 1 ≤ r) (r8 : r ≤ 8) (c1 : 1 ≤ c) (c8 : c ≤ 8) (h : ∀ i, i < r → ∀ j, j < c → f (i * 8 + j) ∈ lrud) (ok : OkT r c f) : Til (tx r c f) r c := by
  refine ⟨?_, fun i hi j hj => ?_⟩
  · rw [pz_tx r1 h no47]; exact shz_rwz r1 r8 c1 c8 h
  · rw [prB_congr (fun i hi j hj => cef_tx r1 c8 h no47 hi hj)]; exact ok i hi j hj
theorem bd_in {g : UInt8} (h : g ∈ bdL) : g = 35 ∨ g = 46 := by
  unfold bdL at h; simpa using h
theorem bd_at {s : List UInt8} {r c : Nat} (h : Shz bdL r c (pz s)) {i j : Nat} (hi : i < r) (hj : j < c) : cef (pz s) (i * 8 + j) = 35 ∨ cef (pz s) (i * 8 + j) = 46 := by
  have hc8 := h.2.2.2.2.1
  rw [cef_at _ _ _ (by omega)]
  have hm : (pz s).getD i [] ∈ pz s := by rw [List.getD_eq_getElem?_getD, List.getElem?_eq_getElem (by rw [h.1]; exact hi), Option.getD_some]; exact List.getElem_mem _
  have h6 := h.2.2.2.2.2 _ hm
  apply bd_in
  apply h6.2
  obtain ⟨z, hz⟩ : ∃ z, z = (pz s).getD i [] := ⟨_, rfl⟩
  rw [← hz] at h6 ⊢
  rw [List.getD_eq_getElem?_getD, List.getElem?_eq_getElem (by rw [h6.1]; exact hj), Option.getD_some]
  exact List.getElem_mem _
/-- A tiling of a board is a tiling; its board is the board. -/
theorem tilOf_til {s : List UInt8} {r c : Nat} {f : Nat → UInt8} (h : Shz bdL r c (pz s)) (ht : TilOf r c (cef (pz s)) f) : Til (tx r c f) r c ∧ tx r c (brdF (cef (pz (tx r c f)))) = s := by
  have hl : ∀ i, i < r → ∀ j, j < c → f (i * 8 + j) ∈ lrud := fun i hi j hj => by
    obtain ⟨h1, h2⟩ := ht i hi j hj
    rcases bd_at h hi hj with e | e
    · exact lrud_of (Or.inl (h1 e).1)
    · exact lrud_of (Or.inr (by rw [h2 (by rw [e]; decide), e]))
  have hok : OkT r c f := fun i hi j hj => by
    obtain ⟨h1, h2⟩ := ht i hi j hj
    rcases bd_at h hi hj with e | e
    · exact (h1 e).2
    · have hf : f (i * 8 + j) = 46 := by rw [h2 (by rw [e]; decide), e]
      have e1 : atB r c f (i : Int) (j : Int) = 46 := by rw [atB_nat, if_pos ⟨hi, hj⟩]; exact hf
      unfold prB
      rw [e1]; rfl
  refine ⟨til_mk h.2.1 h.2.2.1 h.2.2.2.1 h.2.2.2.2.1 hl hok, ?_⟩
  have e := tx_cef h
  refine Eq.trans (tx_congr (fun i hi j hj => ?_)) e
  unfold brdF
  rw [cef_tx h.2.1 h.2.2.2.2.1 hl no47 hi hj]
  obtain ⟨h1, h2⟩ := ht i hi j hj
  rcases bd_at h hi hj with e1 | e1
  · rw [e1]
    have := (h1 e1).1
    rw [if_pos (by rcases this with q | q | q | q <;> rw [q] <;> decide)]
  · rw [h2 (by rw [e1]; decide), e1]; rfl
theorem out_uniq {r c : Nat} {f : Nat → UInt8} {i j x y : Nat} (h : OutP r c f i j x) (h' : OutP r c f i j y) : x = y := by
  apply Nat.eq_of_testBit_eq
  intro k
  by_cases hk : k < 64
  · rw [h.2 k hk, h'.2 k hk]
  · have e : 2 ^ 64 ≤ 2 ^ k := Nat.pow_le_pow_right (by omega) (by omega)
    rw [Nat.testBit_lt_two_pow (by have := h.1; unfold allC at this; omega), Nat.testBit_lt_two_pow (by have := h'.1; unfold allC at this; omega)]
/-- The board of two cells. -/
theorem pz_two : pz [35, 35] = [[35, 35]] := by decide
theorem shz_two : Shz bdL 1 2 (pz [35, 35]) := by
  rw [pz_two]
  refine ⟨rfl, by omega, by omega, by omega, by omega, fun x hx => ?_⟩
  obtain rfl : x = [35, 35] := by simpa using hx
  exact ⟨rfl, fun b hb => by
    have h35 : b = 35 := by simpa using hb
    rw [h35]; decide⟩
theorem cnt_two : cntC 18446744073709551612 = 1 := by decide +kernel
theorem out_two {f : Nat → UInt8} {x : Nat} (h0 : f 0 = 35) (h1 : f 1 = 35) (h : OutP 1 2 f 1 0 x) : x = 18446744073709551612 := by
  refine out_uniq h ⟨by decide, fun k hk => ?_⟩
  by_cases e0 : k = 0
  · subst e0; unfold isC; rw [h0]; decide
  · by_cases e1 : k = 1
    · subst e1; unfold isC; rw [h1]; decide
    · have hc : (isC 1 2 f k && decide (k < 1 * 8 + 0)) = false := by
        unfold isC
        by_cases q : k / 8 < 1
        · rw [decide_eq_false (show ¬ k % 8 < 2 by omega)]; simp
        · rw [decide_eq_false q]; simp
      rw [hc]
      have key : ∀ n, n < 64 → n ≠ 0 → n ≠ 1 → Nat.testBit 18446744073709551612 n = true := by decide +kernel
      rw [key k hk e0 e1]; rfl
theorem first_two {v : Value} {er : Int} (h : FiP [35, 35] v er) : v = .string ⟨#[108, 114]⟩ ∧ er = 0 := by
  have g0 : cef (pz [35, 35]) 0 = 35 := by rw [pz_two]; rfl
  have g1 : cef (pz [35, 35]) 1 = 35 := by rw [pz_two]; rfl
  rcases h with ⟨r, c, x, hz, ho, h⟩ | ⟨_, _, hno⟩
  · have e1 := shz_eq shz_two
    have e2 := shz_eq hz
    obtain rfl : r = 1 := e2.1.trans e1.1.symm
    obtain rfl : c = 2 := e2.2.trans e1.2.symm
    rcases h with ⟨rfl, _, f, ht, rfl⟩ | ⟨_, h0, _⟩
    · refine ⟨?_, rfl⟩
      obtain ⟨a1, _⟩ := ht 0 (by omega) 0 (by omega)
      obtain ⟨b1, _⟩ := ht 0 (by omega) 1 (by omega)
      have a2 := a1 g0
      have b2 := b1 g1
      simp only [Nat.zero_mul, Nat.zero_add] at a2 b2
      obtain ⟨ha, pa⟩ := a2
      obtain ⟨hb, pb⟩ := b2
      have x0 : atB 1 2 f ((0 : Nat) : Int) ((0 : Nat) : Int) = f 0 := by rw [atB_nat, if_pos (by omega)]
      have out1 : atB 1 2 f (((0 : Nat) : Int) + 1) ((0 : Nat) : Int) = 46 := rfl
      have out2 : atB 1 2 f (((0 : Nat) : Int) - 1) ((0 : Nat) : Int) = 46 := rfl
      have out3 : atB 1 2 f ((0 : Nat) : Int) (((0 : Nat) : Int) - 1) = 46 := rfl
      have in1 : atB 1 2 f ((0 : Nat) : Int) (((0 : Nat) : Int) + 1) = f 1 := by
        rw [show (((0 : Nat) : Int) + 1) = ((1 : Nat) : Int) from rfl, atB_nat, if_pos (by omega)]
      unfold prB at pa
      rw [x0, out1, out2, out3, in1] at pa
      have f0 : f 0 = 108 := by
        rcases ha with e | e | e | e
        · exact e
        · rw [e, if_neg (by decide), if_pos rfl] at pa; exact absurd (of_decide_eq_true pa) (by decide)
        · rw [e, if_neg (by decide), if_neg (by decide), if_pos rfl] at pa; exact absurd (of_decide_eq_true pa) (by decide)
        · rw [e, if_neg (by decide), if_neg (by decide), if_neg (by decide), if_pos rfl] at pa; exact absurd (of_decide_eq_true pa) (by decide)
      rw [f0, if_pos rfl] at pa
      have f1 : f 1 = 114 := of_decide_eq_true pa
      have et : tx 1 2 f = [108, 114] := by
        rw [tx_one]
        show [f 0, f 1] = _
        rw [f0, f1]
      rw [et]
    · rw [out_two g0 g1 ho, cnt_two] at h0; cases h0
  · exact absurd shz_two (hno 1 2)

end Go.Proofs.YtcnmndbckjmliaaDoor

namespace Go.Proofs.YtcnmndbckjmliaaDoor
open Go.RowKit

theorem cv_cases (f : Nat → UInt8) (i j : Nat) (up : Bool) (_hj : j + 1 < 8) (k : Nat) :
    cvF f i j up k = if k = i * 8 + j then (if up = true then 117 else 108) else if k = i * 8 + (j + 1) then (if up = true then 117 else 114) else if k = (i + 1) * 8 + j then (if up = true then 100 else 108) else if k = (i + 1) * 8 + (j + 1) then (if up = true then 100 else 114) else f k := by
  cases up with
  | true =>
    unfold cvF up2 upB
    simp only [if_true]
    repeat' split
    all_goals first | rfl | (exfalso; omega)
  | false =>
    unfold cvF up2 upB
    simp only [Bool.false_eq_true, if_false]
    repeat' split
    all_goals first | rfl | (exfalso; omega)
/-- The four letters of a block that may be turned. -/
theorem qR_vals {f : Nat → UInt8} {i j : Nat} (h : qR f i j = true) : (f (i * 8 + j) = 108 ∧ f (i * 8 + (j + 1)) = 114 ∧ f ((i + 1) * 8 + j) = 108 ∧ f ((i + 1) * 8 + (j + 1)) = 114) ∨ (f (i * 8 + j) = 117 ∧ f (i * 8 + (j + 1)) = 117 ∧ f ((i + 1) * 8 + j) = 100 ∧ f ((i + 1) * 8 + (j + 1)) = 100) := by
  unfold qR at h
  simp only [Bool.or_eq_true, Bool.and_eq_true, beq_iff_eq, and_assoc] at h
  exact h
theorem cv_corner2 (f : Nat → UInt8) (i j : Nat) (up : Bool) (hj : j + 1 < 8) : cvF f i j up (i * 8 + j) = if up = true then 117 else 108 := by
  rw [cv_cases f i j up hj, if_pos rfl]
theorem cv01 (f : Nat → UInt8) (i j : Nat) (up : Bool) (hj : j + 1 < 8) : cvF f i j up (i * 8 + (j + 1)) = if up = true then 117 else 114 := by
  rw [cv_cases f i j up hj, if_neg (by omega), if_pos rfl]
theorem cv10 (f : Nat → UInt8) (i j : Nat) (up : Bool) (hj : j + 1 < 8) : cvF f i j up ((i + 1) * 8 + j) = if up = true then 100 else 108 := by
  rw [cv_cases f i j up hj, if_neg (by omega), if_neg (by omega), if_pos rfl]
theorem cv11 (f : Nat → UInt8) (i j : Nat) (up : Bool) (hj : j + 1 < 8) : cvF f i j up ((i + 1) * 8 + (j + 1)) = if up = true then 100 else 114 := by
  rw [cv_cases f i j up hj, if_neg (by omega), if_neg (by omega), if_neg (by omega), if_pos rfl]
theorem cv_qR (f : Nat → UInt8) (i j : Nat) (up : Bool) (hj : j + 1 < 8) : qR (cvF f i j up) i j = true := by
  unfold qR
  rw [cv_corner2 f i j up hj, cv01 f i j up hj, cv10 f i j up hj, cv11 f i j up hj]
  cases up <;> rfl
theorem prB_l {r c : Nat} {f : Nat → UInt8} {i j : Nat} (h : atB r c f (i : Int) (j : Int) = 108) (h2 : atB r c f (i : Int) ((j : Int) + 1) = 114) : prB r c f i j = true := by
  unfold prB; rw [h, if_pos rfl, h2]; rfl
theorem prB_r {r c : Nat} {f : Nat → UInt8} {i j : Nat} (h : atB r c f (i : Int) (j : Int) = 114) (h2 : atB r c f (i : Int) ((j : Int) - 1) = 108) : prB r c f i j = true := by
  unfold prB; rw [h, if_neg (by decide), if_pos rfl, h2]; rfl
theorem prB_u {r c : Nat} {f : Nat → UInt8} {i j : Nat} (h : atB r c f (i : Int) (j : Int) = 117) (h2 : atB r c f ((i : Int) + 1) (j : Int) = 100) : prB r c f i j = true := by
  unfold prB; rw [h, if_neg (by decide), if_neg (by decide), if_pos rfl, h2]; rfl
theorem prB_d {r c : Nat} {f : Nat → UInt8} {i j : Nat} (h : atB r c f (i : Int) (j : Int) = 100) (h2 : atB r c f ((i : Int) - 1) (j : Int) = 117) : prB r c f i j = true := by
  unfold prB; rw [h, if_neg (by decide), if_neg (by decide), if_neg (by decide), if_pos rfl, h2]; rfl
/-- Turned twice. -/
theorem cv_back {f : Nat → UInt8} {i j : Nat} (up : Bool) (hj : j + 1 < 8) (h : qR f i j = true) (hup : up = (f (i * 8 + j) == 108)) : cvF (cvF f i j up) i j (!up) = f := by
  funext k
  rw [cv_cases _ i j (!up) hj, cv_cases f i j up hj]
  rcases qR_vals h with ⟨h0, h1, h2, h3⟩ | ⟨h0, h1, h2, h3⟩
  · have : up = true := by rw [hup, h0]; rfl
    subst this
    simp only [Bool.not_true, Bool.false_eq_true, if_false]
    by_cases e0 : k = i * 8 + j
    · rw [if_pos e0, e0, h0]
    · rw [if_neg e0]
      by_cases e1 : k = i * 8 + (j + 1)
      · rw [if_pos e1, e1, h1]
      · rw [if_neg e1]
        by_cases e2 : k = (i + 1) * 8 + j
        · rw [if_pos e2, e2, h2]
        · rw [if_neg e2]
          by_cases e3 : k = (i + 1) * 8 + (j + 1)
          · rw [if_pos e3, e3, h3]
          · rw [if_neg e3, if_neg e0, if_neg e1, if_neg e2, if_neg e3]
  · have : up = false := by rw [hup, h0]; rfl
    subst this
    simp only [Bool.not_false, if_true]
    by_cases e0 : k = i * 8 + j
    · rw [if_pos e0, e0, h0]
    · rw [if_neg e0]
      by_cases e1 : k = i * 8 + (j + 1)
      · rw [if_pos e1, e1, h1]
      · rw [if_neg e1]
        by_cases e2 : k = (i + 1) * 8 + j
        · rw [if_pos e2, e2, h2]
        · rw [if_neg e2]
          by_cases e3 : k = (i + 1) * 8 + (j + 1)
          · rw [if_pos e3, e3, h3]
          · rw [if_neg e3, if_neg e0, if_neg e1, if_neg e2, if_neg e3]
/-- Where no domino of the block is, all stays. -/
theorem cv_far {f : Nat → UInt8} {i j : Nat} {up : Bool} (hj : j + 1 < 8) {k : Nat} (e0 : k ≠ i * 8 + j) (e1 : k ≠ i * 8 + (j + 1)) (e2 : k ≠ (i + 1) * 8 + j) (e3 : k ≠ (i + 1) * 8 + (j + 1)) : cvF f i j up k = f k := by
  rw [cv_cases f i j up hj, if_neg e0, if_neg e1, if_neg e2, if_neg e3]
theorem cv_half {f : Nat → UInt8} {i j : Nat} (up : Bool) (hj : j + 1 < 8) (k : Nat) : isH (cvF f i j up k) ∨ cvF f i j up k = f k := by
  rw [cv_cases f i j up hj]
  unfold isH
  cases up <;> (repeat' split) <;> simp
theorem brd_same {f : Nat → UInt8} {i j : Nat} (up : Bool) (hj : j + 1 < 8) (h : qR f i j = true) (k : Nat) : brdF (cvF f i j up) k = brdF f k := by
  unfold brdF
  have hv := qR_vals h
  by_cases e0 : k = i * 8 + j
  · subst e0
    rw [cv_corner2 f i j up hj]
    have h1 : f (i * 8 + j) ≠ 46 := by rcases hv with ⟨q, _⟩ | ⟨q, _⟩ <;> rw [q] <;> decide
    rw [if_pos h1]; cases up <;> rfl
  · by_cases e1 : k = i * 8 + (j + 1)
    · subst e1
      have h1 : f (i * 8 + (j + 1)) ≠ 46 := by rcases hv with ⟨_, q, _⟩ | ⟨_, q, _⟩ <;> rw [q] <;> decide
      rw [cv_cases f i j up hj, if_neg e0, if_pos rfl, if_pos h1]; cases up <;> rfl
    · by_cases e2 : k = (i + 1) * 8 + j
      · subst e2
        have h1 : f ((i + 1) * 8 + j) ≠ 46 := by rcases hv with ⟨_, _, q, _⟩ | ⟨_, _, q, _⟩ <;> rw [q] <;> decide
        rw [cv_cases f i j up hj, if_neg e0, if_neg e1, if_pos rfl, if_pos h1]; cases up <;> rfl
      · by_cases e3 : k = (i + 1) * 8 + (j + 1)
        · subst e3
          have h1 : f ((i + 1) * 8 + (j + 1)) ≠ 46 := by rcases hv with ⟨_, _, _, q⟩ | ⟨_, _, _, q⟩ <;> rw [q] <;> decide
          rw [cv_cases f i j up hj, if_neg e0, if_neg e1, if_neg e2, if_pos rfl, if_pos h1]; cases up <;> rfl
        · rw [cv_far hj e0 e1 e2 e3]
theorem atB_in2 {r c : Nat} {f : Nat → UInt8} {a b : Nat} (ha : a < r) (hb : b < c) : atB r c f (a : Int) (b : Int) = f (a * 8 + b) := by rw [atB_nat, if_pos ⟨ha, hb⟩]
/-- A turned block keeps a tiling a tiling. -/
theorem cv_ok {r c : Nat} {f : Nat → UInt8} {i j : Nat} (up : Bool) (hc : c + 1 ≤ 8) (hi : i < r) (hjc : j < c) (h : qR f i j = true) (ok : OkT (r + 1) (c + 1) f) : OkT (r + 1) (c + 1) (cvF f i j up) := fun a ha b hb => by
  have hj : j + 1 < 8 := by omega
  have hv := qR_vals h
  have p1 : ∀ x : Nat, ((x : Int) + 1) = ((x + 1 : Nat) : Int) := fun x => by omega
  by_cases e0 : a * 8 + b = i * 8 + j
  · obtain rfl : a = i := by omega
    obtain rfl : b = j := by omega
    cases up with
    | true => exact prB_u (by rw [atB_in2 ha hb, cv_corner2 f _ _ _ hj]; rfl) (by rw [p1, atB_in2 (by omega) hb, cv10 f _ _ _ hj]; rfl)
    | false => exact prB_l (by rw [atB_in2 ha hb, cv_corner2 f _ _ _ hj]; rfl) (by rw [p1, atB_in2 ha (by omega), cv01 f _ _ _ hj]; rfl)
  · by_cases e1 : a * 8 + b = i * 8 + (j + 1)
    · obtain rfl : a = i := by omega
      obtain rfl : b = j + 1 := by omega
      cases up with
      | true => exact prB_u (by rw [atB_in2 ha hb, cv01 f _ _ _ hj]; rfl) (by rw [p1, atB_in2 (by omega) hb, cv11 f _ _ _ hj]; rfl)
      | false => exact prB_r (by rw [atB_in2 ha hb, cv01 f _ _ _ hj]; rfl) (by rw [show (((j + 1 : Nat) : Int) - 1) = (j : Int) by omega, atB_in2 ha (by omega), cv_corner2 f _ _ _ hj]; rfl)
    · by_cases e2 : a * 8 + b = (i + 1) * 8 + j
      · obtain rfl : a = i + 1 := by omega
        obtain rfl : b = j := by omega
        cases up with
        | true => exact prB_d (by rw [atB_in2 ha hb, cv10 f _ _ _ hj]; rfl) (by rw [show (((i + 1 : Nat) : Int) - 1) = (i : Int) by omega, atB_in2 (by omega) hb, cv_corner2 f _ _ _ hj]; rfl)
        | false => exact prB_l (by rw [atB_in2 ha hb, cv10 f _ _ _ hj]; rfl) (by rw [p1, atB_in2 ha (by omega), cv11 f _ _ _ hj]; rfl)
      · by_cases e3 : a * 8 + b = (i + 1) * 8 + (j + 1)
        · obtain rfl : a = i + 1 := by omega
          obtain rfl : b = j + 1 := by omega
          cases up with
          | true => exact prB_d (by rw [atB_in2 ha hb, cv11 f _ _ _ hj]; rfl) (by rw [show (((i + 1 : Nat) : Int) - 1) = (i : Int) by omega, atB_in2 (by omega) hb, cv01 f _ _ _ hj]; rfl)
          | false => exact prB_r (by rw [atB_in2 ha hb, cv11 f _ _ _ hj]; rfl) (by rw [show (((j + 1 : Nat) : Int) - 1) = (j : Int) by omega, atB_in2 ha (by omega), cv10 f _ _ _ hj]; rfl)
        · have hk : cvF f i j up (a * 8 + b) = f (a * 8 + b) := cv_far hj e0 e1 e2 e3
          have h0 := ok a ha b hb
          unfold prB at h0 ⊢
          rw [atB_in2 ha hb] at h0 ⊢
          rw [hk]
          by_cases q1 : f (a * 8 + b) = 108
          · rw [if_pos q1] at h0 ⊢
            have h0 := of_decide_eq_true h0
            rw [p1, atB_nat] at h0 ⊢
            by_cases hb1 : a < r + 1 ∧ b + 1 < c + 1
            · rw [if_pos hb1] at h0 ⊢
              rw [cv_far hj (fun e => ?_) (fun e => ?_) (fun e => ?_) (fun e => ?_)]
              · exact decide_eq_true h0
              · rw [e] at h0; rcases hv with ⟨q, _⟩ | ⟨q, _⟩ <;> rw [q] at h0 <;> exact absurd h0 (by decide)
              · exact e0 (by omega)
              · rw [e] at h0; rcases hv with ⟨_, _, q, _⟩ | ⟨_, _, q, _⟩ <;> rw [q] at h0 <;> exact absurd h0 (by decide)
              · exact e2 (by omega)
            · rw [if_neg hb1] at h0; exact absurd h0 (by decide)
          · rw [if_neg q1] at h0 ⊢
            by_cases q2 : f (a * 8 + b) = 114
            · rw [if_pos q2] at h0 ⊢
              have h0 := of_decide_eq_true h0
              rcases Nat.eq_zero_or_pos b with hb0 | hb0
              · subst hb0
                exact absurd (show (46 : UInt8) = 108 from by unfold atB at h0; rw [if_neg (by omega)] at h0; exact h0) (by decide)
              · obtain ⟨b', rfl⟩ : ∃ b', b = b' + 1 := ⟨b - 1, by omega⟩
                rw [show (((b' + 1 : Nat) : Int) - 1) = (b' : Int) by omega, atB_in2 ha (by omega)] at h0 ⊢
                rw [cv_far hj (fun e => ?_) (fun e => ?_) (fun e => ?_) (fun e => ?_)]
                · exact decide_eq_true h0
                · exact e1 (by omega)
                · rw [e] at h0; rcases hv with ⟨_, q, _⟩ | ⟨_, q, _⟩ <;> rw [q] at h0 <;> exact absurd h0 (by decide)
                · exact e3 (by omega)
                · rw [e] at h0; rcases hv with ⟨_, _, _, q⟩ | ⟨_, _, _, q⟩ <;> rw [q] at h0 <;> exact absurd h0 (by decide)
            · rw [if_neg q2] at h0 ⊢
              by_cases q3 : f (a * 8 + b) = 117
              · rw [if_pos q3] at h0 ⊢
                have h0 := of_decide_eq_true h0
                rw [p1, atB_nat] at h0 ⊢
                by_cases hb1 : a + 1 < r + 1 ∧ b < c + 1
                · rw [if_pos hb1] at h0 ⊢
                  rw [cv_far hj (fun e => ?_) (fun e => ?_) (fun e => ?_) (fun e => ?_)]
                  · exact decide_eq_true h0
                  · rw [e] at h0; rcases hv with ⟨q, _⟩ | ⟨q, _⟩ <;> rw [q] at h0 <;> exact absurd h0 (by decide)
                  · rw [e] at h0; rcases hv with ⟨_, q, _⟩ | ⟨_, q, _⟩ <;> rw [q] at h0 <;> exact absurd h0 (by decide)
                  · exact e0 (by omega)
                  · exact e1 (by omega)
                · rw [if_neg hb1] at h0; exact absurd h0 (by decide)
              · rw [if_neg q3] at h0 ⊢
                by_cases q4 : f (a * 8 + b) = 100
                · rw [if_pos q4] at h0 ⊢
                  have h0 := of_decide_eq_true h0
                  rcases Nat.eq_zero_or_pos a with ha0 | ha0
                  · subst ha0
                    exact absurd (show (46 : UInt8) = 117 from by unfold atB at h0; rw [if_neg (by omega)] at h0; exact h0) (by decide)
                  · obtain ⟨a', rfl⟩ : ∃ a', a = a' + 1 := ⟨a - 1, by omega⟩
                    rw [show (((a' + 1 : Nat) : Int) - 1) = (a' : Int) by omega, atB_in2 (by omega) hb] at h0 ⊢
                    rw [cv_far hj (fun e => ?_) (fun e => ?_) (fun e => ?_) (fun e => ?_)]
                    · exact decide_eq_true h0
                    · exact e2 (by omega)
                    · exact e3 (by omega)
                    · rw [e] at h0; rcases hv with ⟨_, _, q, _⟩ | ⟨_, _, q, _⟩ <;> rw [q] at h0 <;> exact absurd h0 (by decide)
                    · rw [e] at h0; rcases hv with ⟨_, _, _, q⟩ | ⟨_, _, _, q⟩ <;> rw [q] at h0 <;> exact absurd h0 (by decide)
                · rw [if_neg q4]

end Go.Proofs.YtcnmndbckjmliaaDoor
