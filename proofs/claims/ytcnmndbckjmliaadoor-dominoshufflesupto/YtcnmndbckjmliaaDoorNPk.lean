/-
  What domino.First keeps while it lays domino by domino. Plain.
  Sheets as one number; all tilings of a board, one by one. Plain.
-/
import Derived.Test.YtcnmndbckjmliaaDoorNOut
import Derived.Test.YtcnmndbckjmliaaDoorNRt
namespace Go.Proofs.YtcnmndbckjmliaaDoor
open Go.RowKit

/-- A half of a domino. -/
def isH (b : UInt8) : Prop := b = 108 ∨ b = 114 ∨ b = 117 ∨ b = 100
/-- So far: what is covered is laid, the rest is as it was. -/
structure Inv (r c : Nat) (g f : Nat → UInt8) (x : Nat) : Prop where
  le : x ≤ allC
  free : ∀ k, k < 64 → x.testBit k = false → isC r c g k = true ∧ f k = 35
  laid : ∀ k, k < 64 → x.testBit k = true → isC r c g k = true → isH (f k) ∧ prB r c f (k / 8) (k % 8) = true
  same : ∀ k, k < 64 → isC r c g k = false → f k = g k
theorem inv_start {r c : Nat} {g : Nat → UInt8} {x : Nat} (h : OutP r c g r 0 x) : Inv r c g g x := by
  have key : ∀ k, k < 64 → x.testBit k = !isC r c g k := fun k hk => by
    rw [h.2 k hk]
    by_cases q : k < r * 8 + 0
    · rw [decide_eq_true q, Bool.and_true]
    · have : isC r c g k = false := by unfold isC; rw [decide_eq_false (by omega)]; rfl
      rw [this]; rfl
  refine ⟨h.1, fun k hk hb => ?_, fun k hk hb hc => ?_, fun _ _ _ => rfl⟩
  · have e := key k hk
    rw [hb] at e
    have hc : isC r c g k = true := by revert e; cases isC r c g k <;> simp
    refine ⟨hc, ?_⟩
    unfold isC at hc
    simp only [Bool.and_eq_true, decide_eq_true_eq] at hc
    exact hc.2
  · have e := key k hk
    rw [hb, hc] at e; cases e
theorem isC_in {r c : Nat} {g : Nat → UInt8} {k : Nat} (h : isC r c g k = true) : k / 8 < r ∧ k % 8 < c ∧ g k = 35 := by
  unfold isC at h
  simp only [Bool.and_eq_true, decide_eq_true_eq] at h
  exact ⟨h.1.1, h.1.2, h.2⟩
theorem atB_k (r c : Nat) (f : Nat → UInt8) (k : Nat) (h : k / 8 < r ∧ k % 8 < c) : atB r c f ((k / 8 : Nat) : Int) ((k % 8 : Nat) : Int) = f k := by
  rw [atB_nat, if_pos h, show k / 8 * 8 + k % 8 = k by omega]
/-- Boxes that held '#' are written: a half that had its other half has it still. -/
theorem atB_up {r c : Nat} {f : Nat → UInt8} {p q : Nat} {a b : UInt8} (hp : f p = 35) (hq : f q = 35) (i j : Int) {y : UInt8} (hy : y ≠ 35) (h : atB r c f i j = y) : atB r c (up2 f p a q b) i j = y := by
  unfold atB at h ⊢
  split
  · rename_i g
    rw [if_pos g] at h
    unfold up2 upB
    by_cases e1 : i.toNat * 8 + j.toNat = q
    · rw [e1, hq] at h; exact absurd h.symm hy
    · rw [if_neg e1]
      by_cases e2 : i.toNat * 8 + j.toNat = p
      · rw [e2, hp] at h; exact absurd h.symm hy
      · rw [if_neg e2]; exact h
  · rename_i g
    rw [if_neg g] at h; exact h
theorem prB_up {r c : Nat} {f : Nat → UInt8} {p q : Nat} {a b : UInt8} (hp : f p = 35) (hq : f q = 35) {k : Nat} (hk : k / 8 < r ∧ k % 8 < c) (hh : isH (f k)) (h : prB r c f (k / 8) (k % 8) = true) : prB r c (up2 f p a q b) (k / 8) (k % 8) = true := by
  have e0 : atB r c f ((k / 8 : Nat) : Int) ((k % 8 : Nat) : Int) = f k := atB_k r c f k hk
  have hne : f k ≠ 35 := by rcases hh with e | e | e | e <;> rw [e] <;> decide
  have e1 := atB_up (a := a) (b := b) hp hq _ _ hne e0
  unfold prB at h ⊢
  rw [e0] at h
  rw [e1]
  rcases hh with e | e | e | e
  · rw [e] at h ⊢
    rw [if_pos rfl] at h ⊢
    exact decide_eq_true (atB_up hp hq _ _ (by decide) (of_decide_eq_true h))
  · rw [e] at h ⊢
    rw [if_neg (by decide), if_pos rfl] at h ⊢
    exact decide_eq_true (atB_up hp hq _ _ (by decide) (of_decide_eq_true h))
  · rw [e] at h ⊢
    rw [if_neg (by decide), if_neg (by decide), if_pos rfl] at h ⊢
    exact decide_eq_true (atB_up hp hq _ _ (by decide) (of_decide_eq_true h))
  · rw [e] at h ⊢
    rw [if_neg (by decide), if_neg (by decide), if_neg (by decide), if_pos rfl] at h ⊢
    exact decide_eq_true (atB_up hp hq _ _ (by decide) (of_decide_eq_true h))
theorem inv_lay {r c : Nat} {g f : Nat → UInt8} {x p q : Nat} {a b : UInt8} (h : Inv r c g f x) (hp : p < 64) (hq : q < 64) (hpq : p ≠ q) (bp : x.testBit p = false) (bq : x.testBit q = false) (ha : isH a) (hb : isH b)
    (pa : prB r c (up2 f p a q b) (p / 8) (p % 8) = true) (pb : prB r c (up2 f p a q b) (q / 8) (q % 8) = true) : Inv r c g (up2 f p a q b) (addC x p q) := by
  obtain ⟨ip, fp⟩ := h.free p hp bp
  obtain ⟨iq, fq⟩ := h.free q hq bq
  refine ⟨add_le h.le hp hq, fun k hk hb' => ?_, fun k hk hb' hc => ?_, fun k hk hc => ?_⟩
  · rw [add_bit] at hb'
    simp only [Bool.or_eq_false_iff, decide_eq_false_iff_not] at hb'
    obtain ⟨i1, i2⟩ := h.free k hk hb'.1.1
    refine ⟨i1, ?_⟩
    unfold up2 upB
    rw [if_neg (fun e => hb'.2 e.symm), if_neg (fun e => hb'.1.2 e.symm)]; exact i2
  · by_cases e1 : k = q
    · subst e1
      refine ⟨?_, pb⟩
      unfold up2 upB; rw [if_pos rfl]; exact hb
    · by_cases e2 : k = p
      · subst e2
        refine ⟨?_, pa⟩
        unfold up2 upB; rw [if_neg e1, if_pos rfl]; exact ha
      · rw [add_bit] at hb'
        have hx : x.testBit k = true := by
          rw [decide_eq_false (Ne.symm e2), decide_eq_false (Ne.symm e1)] at hb'
          simpa using hb'
        obtain ⟨l1, l2⟩ := h.laid k hk hx hc
        have hin := isC_in hc
        refine ⟨?_, prB_up fp fq ⟨hin.1, hin.2.1⟩ l1 l2⟩
        unfold up2 upB; rw [if_neg e1, if_neg e2]; exact l1
  · have e1 : k ≠ q := fun e => by rw [e, iq] at hc; cases hc
    have e2 : k ≠ p := fun e => by rw [e, ip] at hc; cases hc
    unfold up2 upB; rw [if_neg e1, if_neg e2]; exact h.same k hk hc
theorem up2_fst (f : Nat → UInt8) (p q : Nat) (a b : UInt8) (h : p ≠ q) : up2 f p a q b p = a := by unfold up2 upB; rw [if_neg h, if_pos rfl]
theorem up2_snd (f : Nat → UInt8) (p q : Nat) (a b : UInt8) : up2 f p a q b q = b := by unfold up2 upB; rw [if_pos rfl]
theorem inv_lie {r c : Nat} {g f : Nat → UInt8} {x : Nat} (h : Inv r c g f x) (hx : x < allC) (hm : mayL x = true) : Inv r c g (up2 f (fstC x) 108 (fstC x + 1) 114) (lieC x) := by
  obtain ⟨hp, bp, _⟩ := fst_spec hx
  unfold mayL at hm
  simp only [Bool.and_eq_true, decide_eq_true_eq, Bool.not_eq_true'] at hm
  obtain ⟨p, hpp⟩ : ∃ p, p = fstC x := ⟨_, rfl⟩
  unfold lieC
  rw [← hpp] at hp bp hm ⊢
  obtain ⟨ip, fp⟩ := h.free p hp bp
  obtain ⟨iq, fq⟩ := h.free (p + 1) (by omega) hm.2
  have h1 := isC_in ip
  have h2 := isC_in iq
  have v1 := up2_fst f p (p + 1) 108 114 (by omega)
  have v2 := up2_snd f p (p + 1) 108 114
  refine inv_lay h hp (by omega) (by omega) bp hm.2 (Or.inl rfl) (Or.inr (Or.inl rfl)) ?_ ?_
  · unfold prB
    rw [atB_k _ _ _ p ⟨h1.1, h1.2.1⟩, v1, if_pos rfl]
    apply decide_eq_true
    rw [show (((p % 8 : Nat) : Int) + 1) = (((p % 8 + 1 : Nat)) : Int) by omega, atB_nat, if_pos ⟨h1.1, by omega⟩, show p / 8 * 8 + (p % 8 + 1) = p + 1 by omega, v2]
  · unfold prB
    rw [atB_k _ _ _ (p + 1) ⟨h2.1, h2.2.1⟩, v2, if_neg (by decide), if_pos rfl]
    apply decide_eq_true
    rw [show ((((p + 1) % 8 : Nat) : Int) - 1) = ((p % 8 : Nat) : Int) by omega, show (p + 1) / 8 = p / 8 by omega, atB_k _ _ _ p ⟨h1.1, h1.2.1⟩, v1]
theorem inv_sta {r c : Nat} {g f : Nat → UInt8} {x : Nat} (h : Inv r c g f x) (hx : x < allC) (hm : mayS x = true) : Inv r c g (up2 f (fstC x) 117 (fstC x + 8) 100) (staC x) := by
  obtain ⟨hp, bp, _⟩ := fst_spec hx
  unfold mayS at hm
  simp only [Bool.and_eq_true, decide_eq_true_eq, Bool.not_eq_true'] at hm
  obtain ⟨p, hpp⟩ : ∃ p, p = fstC x := ⟨_, rfl⟩
  unfold staC
  rw [← hpp] at hp bp hm ⊢
  obtain ⟨ip, fp⟩ := h.free p hp bp
  obtain ⟨iq, fq⟩ := h.free (p + 8) (by omega) hm.2
  have h1 := isC_in ip
  have h2 := isC_in iq
  have v1 := up2_fst f p (p + 8) 117 100 (by omega)
  have v2 := up2_snd f p (p + 8) 117 100
  refine inv_lay h hp (by omega) (by omega) bp hm.2 (Or.inr (Or.inr (Or.inl rfl))) (Or.inr (Or.inr (Or.inr rfl))) ?_ ?_
  · unfold prB
    rw [atB_k _ _ _ p ⟨h1.1, h1.2.1⟩, v1, if_neg (by decide), if_neg (by decide), if_pos rfl]
    apply decide_eq_true
    rw [show (((p / 8 : Nat) : Int) + 1) = (((p / 8 + 1 : Nat)) : Int) by omega, atB_nat, if_pos ⟨by omega, by omega⟩, show (p / 8 + 1) * 8 + p % 8 = p + 8 by omega, v2]
  · unfold prB
    rw [atB_k _ _ _ (p + 8) ⟨h2.1, h2.2.1⟩, v2, if_neg (by decide), if_neg (by decide), if_neg (by decide), if_pos rfl]
    apply decide_eq_true
    rw [show ((((p + 8) / 8 : Nat) : Int) - 1) = ((p / 8 : Nat) : Int) by omega, show (p + 8) % 8 = p % 8 by omega, atB_k _ _ _ p ⟨h1.1, h1.2.1⟩, v1]
/-- A tiling of the board g. -/
def TilOf (r c : Nat) (g f : Nat → UInt8) : Prop := ∀ i, i < r → ∀ j, j < c → (g (i * 8 + j) = 35 → isH (f (i * 8 + j)) ∧ prB r c f i j = true) ∧ (g (i * 8 + j) ≠ 35 → f (i * 8 + j) = g (i * 8 + j))
theorem inv_end {r c : Nat} {g f : Nat → UInt8} (h : Inv r c g f allC) (hr : r ≤ 8) (hc : c ≤ 8) : TilOf r c g f := fun i hi j hj => by
  have hk : i * 8 + j < 64 := by omega
  have d1 : (i * 8 + j) / 8 = i := by omega
  have d2 : (i * 8 + j) % 8 = j := by omega
  refine ⟨fun hg => ?_, fun hg => ?_⟩
  · have hcC : isC r c g (i * 8 + j) = true := by unfold isC; rw [d1, d2, decide_eq_true hi, decide_eq_true hj, decide_eq_true hg]; rfl
    have := h.laid _ hk (allC_bit _ hk) hcC
    rw [d1, d2] at this; exact this
  · exact h.same _ hk (by unfold isC; rw [decide_eq_false hg]; simp)

end Go.Proofs.YtcnmndbckjmliaaDoor

namespace Go.Proofs.YtcnmndbckjmliaaDoor
open Go.RowKit

/-- Cell k of a sheet that is one number, eight bits a cell; the sheet with b in it. -/
def gN (S k : Nat) : Nat := (S >>> (8 * k)) % 256
def stN (S k b : Nat) : Nat := S ^^^ ((gN S k ^^^ b) <<< (8 * k))
theorem gN_bit (S k i : Nat) : (gN S k).testBit i = (decide (i < 8) && S.testBit (8 * k + i)) := by
  unfold gN
  rw [show (256 : Nat) = 2 ^ 8 from rfl, Nat.testBit_mod_two_pow, Nat.testBit_shiftRight]
theorem gN_lt (S k : Nat) : gN S k < 256 := Nat.mod_lt _ (by omega)
theorem small_bit {b i : Nat} (hb : b < 256) (hi : 8 ≤ i) : b.testBit i = false := Nat.testBit_lt_two_pow (Nat.lt_of_lt_of_le hb (by
  rw [show (256 : Nat) = 2 ^ 8 from rfl]; exact Nat.pow_le_pow_right (by omega) hi))
theorem gN_st (S k b j : Nat) (hb : b < 256) : gN (stN S k b) j = if j = k then b else gN S j := by
  apply Nat.eq_of_testBit_eq
  intro i
  have hx : ∀ q, 8 ≤ q → (gN S k ^^^ b).testBit q = false := fun q hq => by
    rw [Nat.testBit_xor, small_bit (gN_lt S k) hq, small_bit hb hq]; rfl
  rw [gN_bit]
  unfold stN
  rw [Nat.testBit_xor, Nat.testBit_shiftLeft]
  by_cases h8 : i < 8
  · rw [decide_eq_true h8, Bool.true_and]
    by_cases e : j = k
    · subst e
      rw [if_pos rfl, decide_eq_true (by omega), Bool.true_and, show 8 * j + i - 8 * j = i by omega, Nat.testBit_xor, gN_bit, decide_eq_true h8, Bool.true_and]
      cases S.testBit (8 * j + i) <;> cases b.testBit i <;> rfl
    · rw [if_neg e, gN_bit, decide_eq_true h8, Bool.true_and]
      have hz : (decide (8 * j + i ≥ 8 * k) && (gN S k ^^^ b).testBit (8 * j + i - 8 * k)) = false := by
        by_cases hlt : 8 * j + i ≥ 8 * k
        · rw [hx _ (by omega), Bool.and_false]
        · rw [decide_eq_false hlt]; rfl
      rw [hz, Bool.xor_false]
  · rw [decide_eq_false h8, Bool.false_and]
    by_cases e : j = k
    · rw [if_pos e, small_bit hb (by omega)]
    · rw [if_neg e, gN_bit, decide_eq_false h8, Bool.false_and]
/-- Does P hold of all tilings? Domino by domino, on the first cell that is free. -/
def chk (P : Nat → Bool) : Nat → Nat → Nat → Bool
  | 0, _, _ => false
  | f + 1, c, S => if c = allC then P S else (if mayL c = true then chk P f (lieC c) (stN (stN S (fstC c) 108) (fstC c + 1) 114) else true) && (if mayS c = true then chk P f (staC c) (stN (stN S (fstC c) 117) (fstC c + 8) 100) else true)
/-- A tiling, and what of it is laid already. -/
structure Met (F : Nat → UInt8) (c S : Nat) : Prop where
  le : c ≤ allC
  same : ∀ k, k < 64 → c.testBit k = true → gN S k = (F k).toNat
  half : ∀ k, k < 64 → c.testBit k = false → isH (F k)
  two : ∀ k, k < 64 → c.testBit k = true → (F k = 108 → c.testBit (k + 1) = true) ∧ (F k = 114 → c.testBit (k - 1) = true) ∧ (F k = 117 → c.testBit (k + 8) = true) ∧ (F k = 100 → c.testBit (k - 8) = true)
/-- Two halves stand side by side. -/
def Two (F : Nat → UInt8) : Prop := ∀ k, k < 64 → (F k = 108 → k % 8 < 7 ∧ F (k + 1) = 114) ∧ (F k = 114 → 1 ≤ k ∧ F (k - 1) = 108) ∧ (F k = 117 → k < 56 ∧ F (k + 8) = 100) ∧ (F k = 100 → 8 ≤ k ∧ F (k - 8) = 117)
theorem met_add {F : Nat → UInt8} {c S p q : Nat} {a b : UInt8} (h : Met F c S) (hp : p < 64) (hq : q < 64) (hpq : p ≠ q) (ha : F p = a) (hb : F q = b)
    (t1 : (F p = 108 → p + 1 = q) ∧ (F p = 114 → p - 1 = q) ∧ (F p = 117 → p + 8 = q) ∧ (F p = 100 → p - 8 = q)) (t2 : (F q = 108 → q + 1 = p) ∧ (F q = 114 → q - 1 = p) ∧ (F q = 117 → q + 8 = p) ∧ (F q = 100 → q - 8 = p)) :
    Met F (addC c p q) (stN (stN S p a.toNat) q b.toNat) := by
  have hbit : ∀ j, c.testBit j = true → (addC c p q).testBit j = true := fun j hj => by rw [add_bit, hj]; rfl
  have hp1 : (addC c p q).testBit p = true := by rw [add_bit]; simp
  have hq1 : (addC c p q).testBit q = true := by rw [add_bit]; simp
  refine ⟨add_le h.le hp hq, fun k hk hb' => ?_, fun k hk hb' => ?_, fun k hk hb' => ?_⟩
  · rw [gN_st _ _ _ _ b.toNat_lt]
    by_cases e1 : k = q
    · rw [if_pos e1, e1, hb]
    · rw [if_neg e1, gN_st _ _ _ _ a.toNat_lt]
      by_cases e2 : k = p
      · rw [if_pos e2, e2, ha]
      · rw [if_neg e2]
        rw [add_bit, decide_eq_false (Ne.symm e2), decide_eq_false (Ne.symm e1)] at hb'
        exact h.same k hk (by simpa using hb')
  · rw [add_bit] at hb'
    simp only [Bool.or_eq_false_iff] at hb'
    exact h.half k hk hb'.1.1
  · by_cases e1 : k = q
    · subst e1
      exact ⟨fun e => by rw [t2.1 e]; exact hp1, fun e => by rw [t2.2.1 e]; exact hp1, fun e => by rw [t2.2.2.1 e]; exact hp1, fun e => by rw [t2.2.2.2 e]; exact hp1⟩
    · by_cases e2 : k = p
      · subst e2
        exact ⟨fun e => by rw [t1.1 e]; exact hq1, fun e => by rw [t1.2.1 e]; exact hq1, fun e => by rw [t1.2.2.1 e]; exact hq1, fun e => by rw [t1.2.2.2 e]; exact hq1⟩
      · rw [add_bit, decide_eq_false (Ne.symm e2), decide_eq_false (Ne.symm e1)] at hb'
        have t := h.two k hk (by simpa using hb')
        exact ⟨fun e => hbit _ (t.1 e), fun e => hbit _ (t.2.1 e), fun e => hbit _ (t.2.2.1 e), fun e => hbit _ (t.2.2.2 e)⟩
theorem chk_ok (P : Nat → Bool) (F : Nat → UInt8) (hF : Two F) : ∀ (f c S : Nat), Met F c S → chk P f c S = true → ∃ S', (∀ k, k < 64 → gN S' k = (F k).toNat) ∧ P S' = true := by
  intro f
  induction f with
  | zero => intro c S _ h; cases h
  | succ f ih =>
    intro c S hm h
    unfold chk at h
    by_cases hc : c = allC
    · rw [if_pos hc] at h
      exact ⟨S, fun k hk => hm.same k hk (by rw [hc]; exact allC_bit k hk), h⟩
    · rw [if_neg hc] at h
      simp only [Bool.and_eq_true] at h
      obtain ⟨hl, hs⟩ := h
      have hlt : c < allC := by have := hm.le; omega
      obtain ⟨h1, h2, h3⟩ := fst_spec hlt
      obtain ⟨p, hp⟩ : ∃ p, p = fstC c := ⟨_, rfl⟩
      have hlC : lieC c = addC c p (p + 1) := by unfold lieC; rw [hp]
      have hsC : staC c = addC c p (p + 8) := by unfold staC; rw [hp]
      rw [← hp] at h1 h2 h3 hl hs
      have hno : ∀ q, q < 64 → c.testBit q = true → ¬ (F q = 108 ∧ q + 1 = p) ∧ ¬ (F q = 114 ∧ q - 1 = p) ∧ ¬ (F q = 117 ∧ q + 8 = p) ∧ ¬ (F q = 100 ∧ q - 8 = p) := fun q hq hb => by
        have t := hm.two q hq hb
        refine ⟨fun e => ?_, fun e => ?_, fun e => ?_, fun e => ?_⟩
        · have := t.1 e.1; rw [e.2, h2] at this; cases this
        · have := t.2.1 e.1; rw [e.2, h2] at this; cases this
        · have := t.2.2.1 e.1; rw [e.2, h2] at this; cases this
        · have := t.2.2.2 e.1; rw [e.2, h2] at this; cases this
      have tF := hF p h1
      rcases hm.half p h1 h2 with e | e | e | e
      · obtain ⟨w1, w2⟩ := tF.1 e
        have hfree : c.testBit (p + 1) = false := by
          cases hb : c.testBit (p + 1) with
          | false => rfl
          | true => exact absurd ⟨w2, by omega⟩ (hno (p + 1) (by omega) hb).2.1
        have hmay : mayL c = true := by unfold mayL; rw [← hp, hfree, decide_eq_true w1]; rfl
        rw [if_pos hmay] at hl
        refine ih _ _ ?_ hl
        rw [hlC]
        exact met_add (a := 108) (b := 114) hm h1 (by omega) (by omega) e w2 ⟨fun _ => rfl, fun q => absurd q (by rw [e]; decide), fun q => absurd q (by rw [e]; decide), fun q => absurd q (by rw [e]; decide)⟩ ⟨fun q => absurd q (by rw [w2]; decide), fun _ => (by omega), fun q => absurd q (by rw [w2]; decide), fun q => absurd q (by rw [w2]; decide)⟩
      · obtain ⟨w1, w2⟩ := tF.2.1 e
        exact absurd ⟨w2, by omega⟩ (hno (p - 1) (by omega) (h3 _ (by omega))).1
      · obtain ⟨w1, w2⟩ := tF.2.2.1 e
        have hfree : c.testBit (p + 8) = false := by
          cases hb : c.testBit (p + 8) with
          | false => rfl
          | true => exact absurd ⟨w2, by omega⟩ (hno (p + 8) (by omega) hb).2.2.2
        have hmay : mayS c = true := by unfold mayS; rw [← hp, hfree, decide_eq_true w1]; rfl
        rw [if_pos hmay] at hs
        refine ih _ _ ?_ hs
        rw [hsC]
        exact met_add (a := 117) (b := 100) hm h1 (by omega) (by omega) e w2 ⟨fun q => absurd q (by rw [e]; decide), fun q => absurd q (by rw [e]; decide), fun _ => rfl, fun q => absurd q (by rw [e]; decide)⟩ ⟨fun q => absurd q (by rw [w2]; decide), fun q => absurd q (by rw [w2]; decide), fun q => absurd q (by rw [w2]; decide), fun _ => by omega⟩
      · obtain ⟨w1, w2⟩ := tF.2.2.2 e
        exact absurd ⟨w2, by omega⟩ (hno (p - 8) (by omega) (h3 _ (by omega))).2.2.1

end Go.Proofs.YtcnmndbckjmliaaDoor
