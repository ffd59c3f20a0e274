/-
  A tiling of what First tells; a block turned twice. Plain.
-/
import Derived.Test.YtcnmndbckjmliaaDoorNFst
import Derived.Test.YtcnmndbckjmliaaDoorNBd
namespace Go.Proofs.YtcnmndbckjmliaaDoor
open Go.RowKit

theorem atB_congr {r c : Nat} {f g : Nat → UInt8} (h : ∀ i, i < r → ∀ j, j < c → f (i * 8 + j) = g (i * 8 + j)) (i j : Int) : atB r c f i j = atB r c g i j := by
  unfold atB
  by_cases q : 0 ≤ i ∧ i < (r : Int) ∧ 0 ≤ j ∧ j < (c : Int)
  · rw [if_pos q, if_pos q]; exact h _ (by omega) _ (by omega)
  · rw [if_neg q, if_neg q]
theorem prB_congr {r c : Nat} {f g : Nat → UInt8} (h : ∀ i, i < r → ∀ j, j < c → f (i * 8 + j) = g (i * 8 + j)) (i j : Nat) : prB r c f i j = prB r c g i j := by
  unfold prB
  rw [atB_congr h, atB_congr h, atB_congr h, atB_congr h, atB_congr h]
/-- Letters and '.'. -/
theorem lrud_of {b : UInt8} (h : isH b ∨ b = 46) : b ∈ lrud := by
  unfold lrud
  rcases h with (e | e | e | e) | e <;> subst e <;> decide
theorem no47 : (47 : UInt8) ∉ lrud := by decide
theorem cef_tx {lt : List UInt8} {r c : Nat} {f : Nat → UInt8} (r1 : 1 ≤ r) (c8 : c ≤ 8) (h : ∀ i, i < r → ∀ j, j < c → f (i * 8 + j) ∈ lt) (h47 : (47 : UInt8) ∉ lt) {i j : Nat} (hi : i < r) (hj : j < c) : cef (pz (tx r c f)) (i * 8 + j) = f (i * 8 + j) := by
  rw [pz_tx r1 h h47]; exact cef_rwz r c f i j hi hj c8
theorem til_mk {r c : Nat} {f : Nat → UInt8} (r1 : 1 ≤ r) (r8 : r ≤ 8) (c1 : 1 ≤ c) (c8 : c ≤ 8) (h : ∀ i, i < r → ∀ j, j < c → f (i * 8 + j) ∈ lrud) (ok : OkT r c f) : Til (tx r c f) r c := by
  refine ⟨?_, fun i hi j hj => ?_⟩
  · rw [pz_tx r1 h no47]; exact shz_rwz r1 r8 c1 c8 h
  · rw [prB_congr (fun i hi j hj => cef_tx r1 c8 h no47 hi hj)]; exact ok i hi j hj
theorem bd_in {g : UInt8} (h : g ∈ bdL) : g = 35 ∨ g = 46 := by
  unfold bdL at h; simpa using h
theorem bd_at {s : List UInt8} {r c : Nat} (h : Shz bdL r c (pz s)) {i j : Nat} (hi : i < r) (hj : j < c) : cef (pz s) (i * 8 + j) = 35 ∨ cef (pz s) (i * 8 + j) = 46 := by
  have hc8 := h.2.2.2.2.1
  rw [cef_at _ _ _ (by omega)]
  have hm : (pz s).getD i [] ∈ pz s := by rw [List.getD_eq_getElem?_getD, List.getElem?_eq_getElem (by rw [h.1]; exact hi), Option.getD_some]; exact List.getElem_mem _
  have h6 := h.2.2.2.2.2 _ hm
  apply bd_in
  apply h6.2
  obtain ⟨z, hz⟩ : ∃ z, z = (pz s).getD i [] := ⟨_, rfl⟩
  rw [← hz] at h6 ⊢
  rw [List.getD_eq_getElem?_getD, List.getElem?_eq_getElem (by rw [h6.1]; exact hj), Option.getD_some]
  exact List.getElem_mem _
/-- A tiling of a board is a tiling; its board is the board. -/
theorem tilOf_til {s : List UInt8} {r c : Nat} {f : Nat → UInt8} (h : Shz bdL r c (pz s)) (ht : TilOf r c (cef (pz s)) f) : Til (tx r c f) r c ∧ tx r c (brdF (cef (pz (tx r c f)))) = s := by
  have hl : ∀ i, i < r → ∀ j, j < c → f (i * 8 + j) ∈ lrud := fun i hi j hj => by
    obtain ⟨h1, h2⟩ := ht i hi j hj
    rcases bd_at h hi hj with e | e
    · exact lrud_of (Or.inl (h1 e).1)
    · exact lrud_of (Or.inr (by rw [h2 (by rw [e]; decide), e]))
  have hok : OkT r c f := fun i hi j hj => by
    obtain ⟨h1, h2⟩ := ht i hi j hj
    rcases bd_at h hi hj with e | e
    · exact (h1 e).2
    · have hf : f (i * 8 + j) = 46 := by rw [h2 (by rw [e]; decide), e]
      have e1 : atB r c f (i : Int) (j : Int) = 46 := by rw [atB_nat, if_pos ⟨hi, hj⟩]; exact hf
      unfold prB
      rw [e1]; rfl
  refine ⟨til_mk h.2.1 h.2.2.1 h.2.2.2.1 h.2.2.2.2.1 hl hok, ?_⟩
  have e := tx_cef h
  refine Eq.trans (tx_congr (fun i hi j hj => ?_)) e
  unfold brdF
  rw [cef_tx h.2.1 h.2.2.2.2.1 hl no47 hi hj]
  obtain ⟨h1, h2⟩ := ht i hi j hj
  rcases bd_at h hi hj with e1 | e1
  · rw [e1]
    have := (h1 e1).1
    rw [if_pos (by rcases this with q | q | q | q <;> rw [q] <;> decide)]
  · rw [h2 (by rw [e1]; decide), e1]; rfl
theorem out_uniq {r c : Nat} {f : Nat → UInt8} {i j x y : Nat} (h : OutP r c f i j x) (h' : OutP r c f i j y) : x = y := by
  apply Nat.eq_of_testBit_eq
  intro k
  by_cases hk : k < 64
  · rw [h.2 k hk, h'.2 k hk]
  · have e : 2 ^ 64 ≤ 2 ^ k := Nat.pow_le_pow_right (by omega) (by omega)
    rw [Nat.testBit_lt_two_pow (by have := h.1; unfold allC at this; omega), Nat.testBit_lt_two_pow (by have := h'.1; unfold allC at this; omega)]
/-- The board of two cells. -/
theorem pz_two : pz [35, 35] = [[35, 35]] := by decide
theorem shz_two : Shz bdL 1 2 (pz [35, 35]) := by
  rw [pz_two]
  refine ⟨rfl, by omega, by omega, by omega, by omega, fun x hx => ?_⟩
  obtain rfl : x = [35, 35] := by simpa using hx
  exact ⟨rfl, fun b hb => by
    have h35 : b = 35 := by simpa using hb
    rw [h35]; decide⟩
theorem cnt_two : cntC 18446744073709551612 = 1 := by decide +kernel
theorem out_two {f : Nat → UInt8} {x : Nat} (h0 : f 0 = 35) (h1 : f 1 = 35) (h : OutP 1 2 f 1 0 x) : x = 18446744073709551612 := by
  refine out_uniq h ⟨by decide, fun k hk => ?_⟩
  by_cases e0 : k = 0
  · subst e0; unfold isC; rw [h0]; decide
  · by_cases e1 : k = 1
    · subst e1; unfold isC; rw [h1]; decide
    · have hc : (isC 1 2 f k && decide (k < 1 * 8 + 0)) = false := by
        unfold isC
        by_cases q : k / 8 < 1
        · rw [decide_eq_false (show ¬ k % 8 < 2 by omega)]; simp
        · rw [decide_eq_false q]; simp
      rw [hc]
      have key : ∀ n, n < 64 → n ≠ 0 → n ≠ 1 → Nat.testBit 18446744073709551612 n = true := by decide +kernel
      rw [key k hk e0 e1]; rfl
theorem first_two {v : Value} {er : Int} (h : FiP [35, 35] v er) : v = .string ⟨#[108, 114]⟩ ∧ er = 0 := by
  have g0 : cef (pz [35, 35]) 0 = 35 := by rw [pz_two]; rfl
  have g1 : cef (pz [35, 35]) 1 = 35 := by rw [pz_two]; rfl
  rcases h with ⟨r, c, x, hz, ho, h⟩ | ⟨_, _, hno⟩
  · have e1 := shz_eq shz_two
    have e2 := shz_eq hz
    obtain rfl : r = 1 := e2.1.trans e1.1.symm
    obtain rfl : c = 2 := e2.2.trans e1.2.symm
    rcases h with ⟨rfl, _, f, ht, rfl⟩ | ⟨_, h0, _⟩
    · refine ⟨?_, rfl⟩
      obtain ⟨a1, _⟩ := ht 0 (by omega) 0 (by omega)
      obtain ⟨b1, _⟩ := ht 0 (by omega) 1 (by omega)
      have a2 := a1 g0
      have b2 := b1 g1
      simp only [Nat.zero_mul, Nat.zero_add] at a2 b2
      obtain ⟨ha, pa⟩ := a2
      obtain ⟨hb, pb⟩ := b2
      have x0 : atB 1 2 f ((0 : Nat) : Int) ((0 : Nat) : Int) = f 0 := by rw [atB_nat, if_pos (by omega)]
      have out1 : atB 1 2 f (((0 : Nat) : Int) + 1) ((0 : Nat) : Int) = 46 := rfl
      have out2 : atB 1 2 f (((0 : Nat) : Int) - 1) ((0 : Nat) : Int) = 46 := rfl
      have out3 : atB 1 2 f ((0 : Nat) : Int) (((0 : Nat) : Int) - 1) = 46 := rfl
      have in1 : atB 1 2 f ((0 : Nat) : Int) (((0 : Nat) : Int) + 1) = f 1 := by
        rw [show (((0 : Nat) : Int) + 1) = ((1 : Nat) : Int) from rfl, atB_nat, if_pos (by omega)]
      unfold prB at pa
      rw [x0, out1, out2, out3, in1] at pa
      have f0 : f 0 = 108 := by
        rcases ha with e | e | e | e
        · exact e
        · rw [e, if_neg (by decide), if_pos rfl] at pa; exact absurd (of_decide_eq_true pa) (by decide)
        · rw [e, if_neg (by decide), if_neg (by decide), if_pos rfl] at pa; exact absurd (of_decide_eq_true pa) (by decide)
        · rw [e, if_neg (by decide), if_neg (by decide), if_neg (by decide), if_pos rfl] at pa; exact absurd (of_decide_eq_true pa) (by decide)
      rw [f0, if_pos rfl] at pa
      have f1 : f 1 = 114 := of_decide_eq_true pa
      have et : tx 1 2 f = [108, 114] := by
        rw [tx_one]
        show [f 0, f 1] = _
        rw [f0, f1]
      rw [et]
    · rw [out_two g0 g1 ho, cnt_two] at h0; cases h0
  · exact absurd shz_two (hno 1 2)

end Go.Proofs.YtcnmndbckjmliaaDoor
