/-
  What domino.First keeps while it lays domino by domino. Plain.
-/
import Derived.Test.YtcnmndbckjmliaaDoorNOut
import Derived.Test.YtcnmndbckjmliaaDoorNRt
namespace Go.Proofs.YtcnmndbckjmliaaDoor
open Go.RowKit

/-- A half of a domino. -/
def isH (b : UInt8) : Prop := b = 108 ∨ b = 114 ∨ b = 117 ∨ b = 100
/-- So far: what is covered is laid, the rest is as it was. -/
structure Inv (r c : Nat) (g f : Nat → UInt8) (x : Nat) : Prop where
  le : x ≤ allC
  free : ∀ k, k < 64 → x.testBit k = false → isC r c g k = true ∧ f k = 35
  laid : ∀ k, k < 64 → x.testBit k = true → isC r c g k = true → isH (f k) ∧ prB r c f (k / 8) (k % 8) = true
  same : ∀ k, k < 64 → isC r c g k = false → f k = g k
theorem inv_start {r c : Nat} {g : Nat → UInt8} {x : Nat} (h : OutP r c g r 0 x) : Inv r c g g x := by
  have key : ∀ k, k < 64 → x.testBit k = !isC r c g k := fun k hk => by
    rw [h.2 k hk]
    by_cases q : k < r * 8 + 0
    · rw [decide_eq_true q, Bool.and_true]
    · have : isC r c g k = false := by unfold isC; rw [decide_eq_false (by omega)]; rfl
      rw [this]; rfl
  refine ⟨h.1, fun k hk hb => ?_, fun k hk hb hc => ?_, fun _ _ _ => rfl⟩
  · have e := key k hk
    rw [hb] at e
    have hc : isC r c g k = true := by revert e; cases isC r c g k <;> simp
    refine ⟨hc, ?_⟩
    unfold isC at hc
    simp only [Bool.and_eq_true, decide_eq_true_eq] at hc
    exact hc.2
  · have e := key k hk
    rw [hb, hc] at e; cases e
theorem isC_in {r c : Nat} {g : Nat → UInt8} {k : Nat} (h : isC r c g k = true) : k / 8 < r ∧ k % 8 < c ∧ g k = 35 := by
  unfold isC at h
  simp only [Bool.and_eq_true, decide_eq_true_eq] at h
  exact ⟨h.1.1, h.1.2, h.2⟩
theorem atB_k (r c : Nat) (f : Nat → UInt8) (k : Nat) (h : k / 8 < r ∧ k % 8 < c) : atB r c f ((k / 8 : Nat) : Int) ((k % 8 : Nat) : Int) = f k := by
  rw [atB_nat, if_pos h, show k / 8 * 8 + k % 8 = k by omega]
/-- Boxes that held '#' are written: a half that had its other half has it still. -/
theorem atB_up {r c : Nat} {f : Nat → UInt8} {p q : Nat} {a b : UInt8} (hp : f p = 35) (hq : f q = 35) (i j : Int) {y : UInt8} (hy : y ≠ 35) (h : atB r c f i j = y) : atB r c (up2 f p a q b) i j = y := by
  unfold atB at h ⊢
  split
  · rename_i g
    rw [if_pos g] at h
    unfold up2 upB
    by_cases e1 : i.toNat * 8 + j.toNat = q
    · rw [e1, hq] at h; exact absurd h.symm hy
    · rw [if_neg e1]
      by_cases e2 : i.toNat * 8 + j.toNat = p
      · rw [e2, hp] at h; exact absurd h.symm hy
      · rw [if_neg e2]; exact h
  · rename_i g
    rw [if_neg g] at h; exact h
theorem prB_up {r c : Nat} {f : Nat → UInt8} {p q : Nat} {a b : UInt8} (hp : f p = 35) (hq : f q = 35) {k : Nat} (hk : k / 8 < r ∧ k % 8 < c) (hh : isH (f k)) (h : prB r c f (k / 8) (k % 8) = true) : prB r c (up2 f p a q b) (k / 8) (k % 8) = true := by
  have e0 : atB r c f ((k / 8 : Nat) : Int) ((k % 8 : Nat) : Int) = f k := atB_k r c f k hk
  have hne : f k ≠ 35 := by rcases hh with e | e | e | e <;> rw [e] <;> decide
  have e1 := atB_up (a := a) (b := b) hp hq _ _ hne e0
  unfold prB at h ⊢
  rw [e0] at h
  rw [e1]
  rcases hh with e | e | e | e
  · rw [e] at h ⊢
    rw [if_pos rfl] at h ⊢
    exact decide_eq_true (atB_up hp hq _ _ (by decide) (of_decide_eq_true h))
  · rw [e] at h ⊢
    rw [if_neg (by decide), if_pos rfl] at h ⊢
    exact decide_eq_true (atB_up hp hq _ _ (by decide) (of_decide_eq_true h))
  · rw [e] at h ⊢
    rw [if_neg (by decide), if_neg (by decide), if_pos rfl] at h ⊢
    exact decide_eq_true (atB_up hp hq _ _ (by decide) (of_decide_eq_true h))
  · rw [e] at h ⊢
    rw [if_neg (by decide), if_neg (by decide), if_neg (by decide), if_pos rfl] at h ⊢
    exact decide_eq_true (atB_up hp hq _ _ (by decide) (of_decide_eq_true h))
theorem inv_lay {r c : Nat} {g f : Nat → UInt8} {x p q : Nat} {a b : UInt8} (h : Inv r c g f x) (hp : p < 64) (hq : q < 64) (hpq : p ≠ q) (bp : x.testBit p = false) (bq : x.testBit q = false) (ha : isH a) (hb : isH b)
    (pa : prB r c (up2 f p a q b) (p / 8) (p % 8) = true) (pb : prB r c (up2 f p a q b) (q / 8) (q % 8) = true) : Inv r c g (up2 f p a q b) (addC x p q) := by
  obtain ⟨ip, fp⟩ := h.free p hp bp
  obtain ⟨iq, fq⟩ := h.free q hq bq
  refine ⟨add_le h.le hp hq, fun k hk hb' => ?_, fun k hk hb' hc => ?_, fun k hk hc => ?_⟩
  · rw [add_bit] at hb'
    simp only [Bool.or_eq_false_iff, decide_eq_false_iff_not] at hb'
    obtain ⟨i1, i2⟩ := h.free k hk hb'.1.1
    refine ⟨i1, ?_⟩
    unfold up2 upB
    rw [if_neg (fun e => hb'.2 e.symm), if_neg (fun e => hb'.1.2 e.symm)]; exact i2
  · by_cases e1 : k = q
    · subst e1
      refine ⟨?_, pb⟩
      unfold up2 upB; rw [if_pos rfl]; exact hb
    · by_cases e2 : k = p
      · subst e2
        refine ⟨?_, pa⟩
        unfold up2 upB; rw [if_neg e1, if_pos rfl]; exact ha
      · rw [add_bit] at hb'
        have hx : x.testBit k = true := by
          rw [decide_eq_false (Ne.symm e2), decide_eq_false (Ne.symm e1)] at hb'
          simpa using hb'
        obtain ⟨l1, l2⟩ := h.laid k hk hx hc
        have hin := isC_in hc
        refine ⟨?_, prB_up fp fq ⟨hin.1, hin.2.1⟩ l1 l2⟩
        unfold up2 upB; rw [if_neg e1, if_neg e2]; exact l1
  · have e1 : k ≠ q := fun e => by rw [e, iq] at hc; cases hc
    have e2 : k ≠ p := fun e => by rw [e, ip] at hc; cases hc
    unfold up2 upB; rw [if_neg e1, if_neg e2]; exact h.same k hk hc
theorem up2_fst (f : Nat → UInt8) (p q : Nat) (a b : UInt8) (h : p ≠ q) : up2 f p a q b p = a := by unfold up2 upB; rw [if_neg h, if_pos rfl]
theorem up2_snd (f : Nat → UInt8) (p q : Nat) (a b : UInt8) : up2 f p a q b q = b := by unfold up2 upB; rw [if_pos rfl]
theorem inv_lie {r c : Nat} {g f : Nat → UInt8} {x : Nat} (h : Inv r c g f x) (hx : x < allC) (hm : mayL x = true) : Inv r c g (up2 f (fstC x) 108 (fstC x + 1) 114) (lieC x) := by
  obtain ⟨hp, bp, _⟩ := fst_spec hx
  unfold mayL at hm
  simp only [Bool.and_eq_true, decide_eq_true_eq, Bool.not_eq_true'] at hm
  obtain ⟨p, hpp⟩ : ∃ p, p = fstC x := ⟨_, rfl⟩
  unfold lieC
  rw [← hpp] at hp bp hm ⊢
  obtain ⟨ip, fp⟩ := h.free p hp bp
  obtain ⟨iq, fq⟩ := h.free (p + 1) (by omega) hm.2
  have h1 := isC_in ip
  have h2 := isC_in iq
  have v1 := up2_fst f p (p + 1) 108 114 (by omega)
  have v2 := up2_snd f p (p + 1) 108 114
  refine inv_lay h hp (by omega) (by omega) bp hm.2 (Or.inl rfl) (Or.inr (Or.inl rfl)) ?_ ?_
  · unfold prB
    rw [atB_k _ _ _ p ⟨h1.1, h1.2.1⟩, v1, if_pos rfl]
    apply decide_eq_true
    rw [show (((p % 8 : Nat) : Int) + 1) = (((p % 8 + 1 : Nat)) : Int) by omega, atB_nat, if_pos ⟨h1.1, by omega⟩, show p / 8 * 8 + (p % 8 + 1) = p + 1 by omega, v2]
  · unfold prB
    rw [atB_k _ _ _ (p + 1) ⟨h2.1, h2.2.1⟩, v2, if_neg (by decide), if_pos rfl]
    apply decide_eq_true
    rw [show ((((p + 1) % 8 : Nat) : Int) - 1) = ((p % 8 : Nat) : Int) by omega, show (p + 1) / 8 = p / 8 by omega, atB_k _ _ _ p ⟨h1.1, h1.2.1⟩, v1]
theorem inv_sta {r c : Nat} {g f : Nat → UInt8} {x : Nat} (h : Inv r c g f x) (hx : x < allC) (hm : mayS x = true) : Inv r c g (up2 f (fstC x) 117 (fstC x + 8) 100) (staC x) := by
  obtain ⟨hp, bp, _⟩ := fst_spec hx
  unfold mayS at hm
  simp only [Bool.and_eq_true, decide_eq_true_eq, Bool.not_eq_true'] at hm
  obtain ⟨p, hpp⟩ : ∃ p, p = fstC x := ⟨_, rfl⟩
  unfold staC
  rw [← hpp] at hp bp hm ⊢
  obtain ⟨ip, fp⟩ := h.free p hp bp
  obtain ⟨iq, fq⟩ := h.free (p + 8) (by omega) hm.2
  have h1 := isC_in ip
  have h2 := isC_in iq
  have v1 := up2_fst f p (p + 8) 117 100 (by omega)
  have v2 := up2_snd f p (p + 8) 117 100
  refine inv_lay h hp (by omega) (by omega) bp hm.2 (Or.inr (Or.inr (Or.inl rfl))) (Or.inr (Or.inr (Or.inr rfl))) ?_ ?_
  · unfold prB
    rw [atB_k _ _ _ p ⟨h1.1, h1.2.1⟩, v1, if_neg (by decide), if_neg (by decide), if_pos rfl]
    apply decide_eq_true
    rw [show (((p / 8 : Nat) : Int) + 1) = (((p / 8 + 1 : Nat)) : Int) by omega, atB_nat, if_pos ⟨by omega, by omega⟩, show (p / 8 + 1) * 8 + p % 8 = p + 8 by omega, v2]
  · unfold prB
    rw [atB_k _ _ _ (p + 8) ⟨h2.1, h2.2.1⟩, v2, if_neg (by decide), if_neg (by decide), if_neg (by decide), if_pos rfl]
    apply decide_eq_true
    rw [show ((((p + 8) / 8 : Nat) : Int) - 1) = ((p / 8 : Nat) : Int) by omega, show (p + 8) % 8 = p % 8 by omega, atB_k _ _ _ p ⟨h1.1, h1.2.1⟩, v1]
/-- A tiling of the board g. -/
def TilOf (r c : Nat) (g f : Nat → UInt8) : Prop := ∀ i, i < r → ∀ j, j < c → (g (i * 8 + j) = 35 → isH (f (i * 8 + j)) ∧ prB r c f i j = true) ∧ (g (i * 8 + j) ≠ 35 → f (i * 8 + j) = g (i * 8 + j))
theorem inv_end {r c : Nat} {g f : Nat → UInt8} (h : Inv r c g f allC) (hr : r ≤ 8) (hc : c ≤ 8) : TilOf r c g f := fun i hi j hj => by
  have hk : i * 8 + j < 64 := by omega
  have d1 : (i * 8 + j) / 8 = i := by omega
  have d2 : (i * 8 + j) % 8 = j := by omega
  refine ⟨fun hg => ?_, fun hg => ?_⟩
  · have hcC : isC r c g (i * 8 + j) = true := by unfold isC; rw [d1, d2, decide_eq_true hi, decide_eq_true hj, decide_eq_true hg]; rfl
    have := h.laid _ hk (allC_bit _ hk) hcC
    rw [d1, d2] at this; exact this
  · exact h.same _ hk (by unfold isC; rw [decide_eq_false hg]; simp)

end Go.Proofs.YtcnmndbckjmliaaDoor
