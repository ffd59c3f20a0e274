/-
  Sheets as one number; all tilings of a board, one by one. Plain.
  The shuffled tilings of the diamonds, one by one: the kernel runs through them. Plain.
-/
import Derived.Test.YtcnmndbckjmliaaDoorNFsp
import Derived.Test.YtcnmndbckjmliaaDoorNCb
namespace Go.Proofs.YtcnmndbckjmliaaDoor
open Go.RowKit

/-- Cell k of a sheet that is one number, eight bits a cell; the sheet with b in it. -/
def gN (S k : Nat) : Nat := (S >>> (8 * k)) % 256
def stN (S k b : Nat) : Nat := S ^^^ ((gN S k ^^^ b) <<< (8 * k))
theorem gN_bit (S k i : Nat) : (gN S k).testBit i = (decide (i < 8) && S.testBit (8 * k + i)) := by
  unfold gN
  rw [show (256 : Nat) = 2 ^ 8 from rfl, Nat.testBit_mod_two_pow, Nat.testBit_shiftRight]
theorem gN_lt (S k : Nat) : gN S k < 256 := Nat.mod_lt _ (by omega)
theorem small_bit {b i : Nat} (hb : b < 256) (hi : 8 ≤ i) : b.testBit i = false := Nat.testBit_lt_two_pow (Nat.lt_of_lt_of_le hb (by
  rw [show (256 : Nat) = 2 ^ 8 from rfl]; exact Nat.pow_le_pow_right (by omega) hi))
theorem gN_st (S k b j : Nat) (hb : b < 256) : gN (stN S k b) j = if j = k then b else gN S j := by
  apply Nat.eq_of_testBit_eq
  intro i
  have hx : ∀ q, 8 ≤ q → (gN S k ^^^ b).testBit q = false := fun q hq => by
    rw [Nat.testBit_xor, small_bit (gN_lt S k) hq, small_bit hb hq]; rfl
  rw [gN_bit]
  unfold stN
  rw [Nat.testBit_xor, Nat.testBit_shiftLeft]
  by_cases h8 : i < 8
  · rw [decide_eq_true h8, Bool.true_and]
    by_cases e : j = k
    · subst e
      rw [if_pos rfl, decide_eq_true (by omega), Bool.true_and, show 8 * j + i - 8 * j = i by omega, Nat.testBit_xor, gN_bit, decide_eq_true h8, Bool.true_and]
      cases S.testBit (8 * j + i) <;> cases b.testBit i <;> rfl
    · rw [if_neg e, gN_bit, decide_eq_true h8, Bool.true_and]
      have hz : (decide (8 * j + i ≥ 8 * k) && (gN S k ^^^ b).testBit (8 * j + i - 8 * k)) = false := by
        by_cases hlt : 8 * j + i ≥ 8 * k
        · rw [hx _ (by omega), Bool.and_false]
        · rw [decide_eq_false hlt]; rfl
      rw [hz, Bool.xor_false]
  · rw [decide_eq_false h8, Bool.false_and]
    by_cases e : j = k
    · rw [if_pos e, small_bit hb (by omega)]
    · rw [if_neg e, gN_bit, decide_eq_false h8, Bool.false_and]
/-- Does P hold of all tilings? Domino by domino, on the first cell that is free. -/
def chk (P : Nat → Bool) : Nat → Nat → Nat → Bool
  | 0, _, _ => false
  | f + 1, c, S => if c = allC then P S else (if mayL c = true then chk P f (lieC c) (stN (stN S (fstC c) 108) (fstC c + 1) 114) else true) && (if mayS c = true then chk P f (staC c) (stN (stN S (fstC c) 117) (fstC c + 8) 100) else true)
/-- A tiling, and what of it is laid already. -/
structure Met (F : Nat → UInt8) (c S : Nat) : Prop where
  le : c ≤ allC
  same : ∀ k, k < 64 → c.testBit k = true → gN S k = (F k).toNat
  half : ∀ k, k < 64 → c.testBit k = false → isH (F k)
  two : ∀ k, k < 64 → c.testBit k = true → (F k = 108 → c.testBit (k + 1) = true) ∧ (F k = 114 → c.testBit (k - 1) = true) ∧ (F k = 117 → c.testBit (k + 8) = true) ∧ (F k = 100 → c.testBit (k - 8) = true)
/-- Two halves stand side by side. -/
def Two (F : Nat → UInt8) : Prop := ∀ k, k < 64 → (F k = 108 → k % 8 < 7 ∧ F (k + 1) = 114) ∧ (F k = 114 → 1 ≤ k ∧ F (k - 1) = 108) ∧ (F k = 117 → k < 56 ∧ F (k + 8) = 100) ∧ (F k = 100 → 8 ≤ k ∧ F (k - 8) = 117)
theorem met_add {F : Nat → UInt8} {c S p q : Nat} {a b : UInt8} (h : Met F c S) (hp : p < 64) (hq : q < 64) (hpq : p ≠ q) (ha : F p = a) (hb : F q = b)
    (t1 : (F p = 108 → p + 1 = q) ∧ (F p = 114 → p - 1 = q) ∧ (F p = 117 → p + 8 = q) ∧ (F p = 100 → p - 8 = q)) (t2 : (F q = 108 → q + 1 = p) ∧ (F q = 114 → q - 1 = p) ∧ (F q = 117 → q + 8 = p) ∧ (F q = 100 → q - 8 = p)) :
    Met F (addC c p q) (stN (stN S p a.toNat) q b.toNat) := by
  have hbit : ∀ j, c.testBit j = true → (addC c p q).testBit j = true := fun j hj => by rw [add_bit, hj]; rfl
  have hp1 : (addC c p q).testBit p = true := by rw [add_bit]; simp
  have hq1 : (addC c p q).testBit q = true := by rw [add_bit]; simp
  refine ⟨add_le h.le hp hq, fun k hk hb' => ?_, fun k hk hb' => ?_, fun k hk hb' => ?_⟩
  · rw [gN_st _ _ _ _ b.toNat_lt]
    by_cases e1 : k = q
    · rw [if_pos e1, e1, hb]
    · rw [if_neg e1, gN_st _ _ _ _ a.toNat_lt]
      by_cases e2 : k = p
      · rw [if_pos e2, e2, ha]
      · rw [if_neg e2]
        rw [add_bit, decide_eq_false (Ne.symm e2), decide_eq_false (Ne.symm e1)] at hb'
        exact h.same k hk (by simpa using hb')
  · rw [add_bit] at hb'
    simp only [Bool.or_eq_false_iff] at hb'
    exact h.half k hk hb'.1.1
  · by_cases e1 : k = q
    · subst e1
      exact ⟨fun e => by rw [t2.1 e]; exact hp1, fun e => by rw [t2.2.1 e]; exact hp1, fun e => by rw [t2.2.2.1 e]; exact hp1, fun e => by rw [t2.2.2.2 e]; exact hp1⟩
    · by_cases e2 : k = p
      · subst e2
        exact ⟨fun e => by rw [t1.1 e]; exact hq1, fun e => by rw [t1.2.1 e]; exact hq1, fun e => by rw [t1.2.2.1 e]; exact hq1, fun e => by rw [t1.2.2.2 e]; exact hq1⟩
      · rw [add_bit, decide_eq_false (Ne.symm e2), decide_eq_false (Ne.symm e1)] at hb'
        have t := h.two k hk (by simpa using hb')
        exact ⟨fun e => hbit _ (t.1 e), fun e => hbit _ (t.2.1 e), fun e => hbit _ (t.2.2.1 e), fun e => hbit _ (t.2.2.2 e)⟩
theorem chk_ok (P : Nat → Bool) (F : Nat → UInt8) (hF : Two F) : ∀ (f c S : Nat), Met F c S → chk P f c S = true → ∃ S', (∀ k, k < 64 → gN S' k = (F k).toNat) ∧ P S' = true := by
  intro f
  induction f with
  | zero => intro c S _ h; cases h
  | succ f ih =>
    intro c S hm h
    unfold chk at h
    by_cases hc : c = allC
    · rw [if_pos hc] at h
      exact ⟨S, fun k hk => hm.same k hk (by rw [hc]; exact allC_bit k hk), h⟩
    · rw [if_neg hc] at h
      simp only [Bool.and_eq_true] at h
      obtain ⟨hl, hs⟩ := h
      have hlt : c < allC := by have := hm.le; omega
      obtain ⟨h1, h2, h3⟩ := fst_spec hlt
      obtain ⟨p, hp⟩ : ∃ p, p = fstC c := ⟨_, rfl⟩
      have hlC : lieC c = addC c p (p + 1) := by unfold lieC; rw [hp]
      have hsC : staC c = addC c p (p + 8) := by unfold staC; rw [hp]
      rw [← hp] at h1 h2 h3 hl hs
      have hno : ∀ q, q < 64 → c.testBit q = true → ¬ (F q = 108 ∧ q + 1 = p) ∧ ¬ (F q = 114 ∧ q - 1 = p) ∧ ¬ (F q = 117 ∧ q + 8 = p) ∧ ¬ (F q = 100 ∧ q - 8 = p) := fun q hq hb => by
        have t := hm.two q hq hb
        refine ⟨fun e => ?_, fun e => ?_, fun e => ?_, fun e => ?_⟩
        · have := t.1 e.1; rw [e.2, h2] at this; cases this
        · have := t.2.1 e.1; rw [e.2, h2] at this; cases this
        · have := t.2.2.1 e.1; rw [e.2, h2] at this; cases this
        · have := t.2.2.2 e.1; rw [e.2, h2] at this; cases this
      have tF := hF p h1
      rcases hm.half p h1 h2 with e | e | e | e
      · obtain ⟨w1, w2⟩ := tF.1 e
        have hfree : c.testBit (p + 1) = false := by
          cases hb : c.testBit (p + 1) with
          | false => rfl
          | true => exact absurd ⟨w2, by omega⟩ (hno (p + 1) (by omega) hb).2.1
        have hmay : mayL c = true := by unfold mayL; rw [← hp, hfree, decide_eq_true w1]; rfl
        rw [if_pos hmay] at hl
        refine ih _ _ ?_ hl
        rw [hlC]
        exact met_add (a := 108) (b := 114) hm h1 (by omega) (by omega) e w2 ⟨fun _ => rfl, fun q => absurd q (by rw [e]; decide), fun q => absurd q (by rw [e]; decide), fun q => absurd q (by rw [e]; decide)⟩ ⟨fun q => absurd q (by rw [w2]; decide), fun _ => (by omega), fun q => absurd q (by rw [w2]; decide), fun q => absurd q (by rw [w2]; decide)⟩
      · obtain ⟨w1, w2⟩ := tF.2.1 e
        exact absurd ⟨w2, by omega⟩ (hno (p - 1) (by omega) (h3 _ (by omega))).1
      · obtain ⟨w1, w2⟩ := tF.2.2.1 e
        have hfree : c.testBit (p + 8) = false := by
          cases hb : c.testBit (p + 8) with
          | false => rfl
          | true => exact absurd ⟨w2, by omega⟩ (hno (p + 8) (by omega) hb).2.2.2
        have hmay : mayS c = true := by unfold mayS; rw [← hp, hfree, decide_eq_true w1]; rfl
        rw [if_pos hmay] at hs
        refine ih _ _ ?_ hs
        rw [hsC]
        exact met_add (a := 117) (b := 100) hm h1 (by omega) (by omega) e w2 ⟨fun q => absurd q (by rw [e]; decide), fun q => absurd q (by rw [e]; decide), fun _ => rfl, fun q => absurd q (by rw [e]; decide)⟩ ⟨fun q => absurd q (by rw [w2]; decide), fun q => absurd q (by rw [w2]; decide), fun q => absurd q (by rw [w2]; decide), fun _ => by omega⟩
      · obtain ⟨w1, w2⟩ := tF.2.2.2 e
        exact absurd ⟨w2, by omega⟩ (hno (p - 8) (by omega) (h3 _ (by omega))).2.2.1

end Go.Proofs.YtcnmndbckjmliaaDoor

namespace Go.Proofs.YtcnmndbckjmliaaDoor
open Go.RowKit

/-- The diamond as one number. -/
def dmK : Nat → Nat
  | 1 => 165928462943017416794915
  | 2 => 4858820113208420033620642622816435520841983837655648177543457219374
  | 3 => 108456221734687383469888073258490445034906893224640385688381357265806832310056807307115984528272879320733789742
  | 4 => 2418663356810390927543499194669085442593550314998880365911013462437673636490164743507625698918037787881523858568461845120279533333798787790770782925106734
  | _ => 0
/-- What lies round the diamond. -/
def dmO : Nat → Nat
  | 1 => 0
  | 2 => 4844365705500310415891544409895153354221829529133609563044664311854
  | 3 => 108454962578190140385565975923086007800851108205789297120936821358793551992021007450875200032916818031101881902
  | 4 => 2418663247122390106870255011178951863237278511152625081640375754011362448346246634115305464620274058206532466783534724201902023058191017173612516510412334
  | _ => 0
/-- All but the cells of the diamond. -/
def dmC : Nat → Nat
  | 1 => 18446744073709550844
  | 2 => 18446744073607901433
  | 3 => 18446730749659898355
  | 4 => 16700333680228418535
  | _ => 0
/-- spread, on numbers. -/
def spN (n S i j G : Nat) : Nat :=
  if gN S (i * 8 + j) = 108 then
    if fwd n i j = true then (if gN S (i * 8 + j + 8) = 108 then G else stN (stN G (i * 8 + j + 17) 108) (i * 8 + j + 18) 114)
    else (if 1 ≤ i ∧ gN S (i * 8 + j - 8) = 108 then G else stN (stN G (i * 8 + j + 1) 108) (i * 8 + j + 2) 114)
  else if gN S (i * 8 + j) = 117 then
    if fwd n i j = true then (if gN S (i * 8 + j + 1) = 117 then G else stN (stN G (i * 8 + j + 10) 117) (i * 8 + j + 18) 100)
    else (if 1 ≤ j ∧ gN S (i * 8 + j - 1) = 117 then G else stN (stN G (i * 8 + j + 8) 117) (i * 8 + j + 16) 100)
  else G
def spNJ (n S i G : Nat) : Nat → Nat
  | 0 => G
  | j + 1 => spN n S i j (spNJ n S i G j)
def spNI (c n S : Nat) : Nat → Nat
  | 0 => dmK (n + 1)
  | i + 1 => spNJ n S i (spNI c n S i) c
/-- coverBlocks, on numbers. -/
def cbN (k : Nat) (p : Nat × List Nat) : Nat × List Nat := if gN p.1 k = 35 then (stN (stN (stN (stN p.1 k 108) (k + 1) 114) (k + 8) 108) (k + 9) 114, p.2 ++ [k]) else p
def cbNJ (i : Nat) (p : Nat × List Nat) : Nat → Nat × List Nat
  | 0 => p
  | j + 1 => cbN (i * 8 + j) (cbNJ i p j)
def cbNI (c G : Nat) : Nat → Nat × List Nat
  | 0 => (G, [])
  | i + 1 => cbNJ i (cbNI c G i) c

/-- One sheet, told in two ways. -/
def Rl (G : Nat) (g : Nat → UInt8) : Prop := ∀ k, k < 64 → gN G k = (g k).toNat
theorem Rl.iff {G : Nat} {g : Nat → UInt8} (h : Rl G g) {k : Nat} (hk : k < 64) (b : UInt8) : gN G k = b.toNat ↔ g k = b := by
  rw [h k hk]; exact UInt8.toNat_inj
theorem Rl.put {G : Nat} {g : Nat → UInt8} (h : Rl G g) (p : Nat) (b : UInt8) : Rl (stN G p b.toNat) (upB g p b) := fun k hk => by
  rw [gN_st _ _ _ _ b.toNat_lt]
  unfold upB
  by_cases e : k = p
  · rw [if_pos e, if_pos e]
  · rw [if_neg e, if_neg e]; exact h k hk
theorem Rl.put2 {G : Nat} {g : Nat → UInt8} (h : Rl G g) (p q : Nat) (a b : UInt8) : Rl (stN (stN G p a.toNat) q b.toNat) (up2 g p a q b) := (h.put p a).put q b
theorem sp_rl {r c n S G : Nat} {F g : Nat → UInt8} (hS : Rl S F) (hG : Rl G g) (hr : r ≤ 6) (hc : c ≤ 6) (hout : ∀ k, k < 64 → ¬ (k / 8 < r ∧ k % 8 < c) → F k = 0) {i j : Nat} (hi : i < r) (hj : j < c) : Rl (spN n S i j G) (spS r c n F i j g) := by
  have hk : i * 8 + j < 64 := by omega
  have a1 : gN S (i * 8 + j) = 108 ↔ F (i * 8 + j) = 108 := hS.iff hk 108
  have a2 : gN S (i * 8 + j) = 117 ↔ F (i * 8 + j) = 117 := hS.iff hk 117
  have hat : ∀ (p q : Nat) (b : UInt8), p < 8 → q < 8 → b ≠ 46 → b ≠ 0 → (gN S (p * 8 + q) = b.toNat ↔ atB r c F (p : Int) (q : Int) = b) := fun p q b hp hq h46 h0 => by
    rw [atB_nat, hS.iff (by omega) b]
    by_cases hin : p < r ∧ q < c
    · rw [if_pos hin]
    · rw [if_neg hin, hout (p * 8 + q) (by omega) (by omega)]
      exact ⟨fun e => absurd e.symm h0, fun e => absurd e.symm h46⟩
  have b1 : gN S (i * 8 + j + 8) = 108 ↔ atB r c F ((i : Int) + 1) (j : Int) = 108 := by
    have h := hat (i + 1) j 108 (by omega) (by omega) (by decide) (by decide)
    rw [show (i + 1) * 8 + j = i * 8 + j + 8 by omega, show ((i + 1 : Nat) : Int) = (i : Int) + 1 by omega] at h
    exact h
  have b2 : (1 ≤ i ∧ gN S (i * 8 + j - 8) = 108) ↔ atB r c F ((i : Int) + -1) (j : Int) = 108 := by
    by_cases h1 : 1 ≤ i
    · have h := hat (i - 1) j 108 (by omega) (by omega) (by decide) (by decide)
      rw [show (i - 1) * 8 + j = i * 8 + j - 8 by omega, show ((i - 1 : Nat) : Int) = (i : Int) + -1 by omega] at h
      exact ⟨fun q => h.1 q.2, fun q => ⟨h1, h.2 q⟩⟩
    · unfold atB
      rw [if_neg (by omega)]
      exact ⟨fun q => absurd q.1 h1, fun q => absurd q (by decide)⟩
  have b3 : gN S (i * 8 + j + 1) = 117 ↔ atB r c F (i : Int) ((j : Int) + 1) = 117 := by
    have h := hat i (j + 1) 117 (by omega) (by omega) (by decide) (by decide)
    rw [show i * 8 + (j + 1) = i * 8 + j + 1 by omega, show ((j + 1 : Nat) : Int) = (j : Int) + 1 by omega] at h
    exact h
  have b4 : (1 ≤ j ∧ gN S (i * 8 + j - 1) = 117) ↔ atB r c F (i : Int) ((j : Int) + -1) = 117 := by
    by_cases h1 : 1 ≤ j
    · have h := hat i (j - 1) 117 (by omega) (by omega) (by decide) (by decide)
      rw [show i * 8 + (j - 1) = i * 8 + j - 1 by omega, show ((j - 1 : Nat) : Int) = (j : Int) + -1 by omega] at h
      exact ⟨fun q => h.1 q.2, fun q => ⟨h1, h.2 q⟩⟩
    · unfold atB
      rw [if_neg (by omega)]
      exact ⟨fun q => absurd q.1 h1, fun q => absurd q (by decide)⟩
  unfold spN spS
  simp only [a1, a2, b1, b2, b3, b4]
  rw [show (i + 2) * 8 + (j + 1) = i * 8 + j + 17 by omega, show (i + 2) * 8 + (j + 1 + 1) = i * 8 + j + 18 by omega, show i * 8 + (j + 1) = i * 8 + j + 1 by omega, show i * 8 + (j + 1 + 1) = i * 8 + j + 2 by omega, show (i + 1) * 8 + (j + 2) = i * 8 + j + 10 by omega, show (i + 1) * 8 + j = i * 8 + j + 8 by omega, show (i + 1 + 1) * 8 + j = i * 8 + j + 16 by omega]
  have p1 : Rl (stN (stN G (i * 8 + j + 17) 108) (i * 8 + j + 18) 114) (up2 g (i * 8 + j + 17) 108 (i * 8 + j + 18) 114) := hG.put2 (i * 8 + j + 17) (i * 8 + j + 18) 108 114
  have p2 : Rl (stN (stN G (i * 8 + j + 1) 108) (i * 8 + j + 2) 114) (up2 g (i * 8 + j + 1) 108 (i * 8 + j + 2) 114) := hG.put2 (i * 8 + j + 1) (i * 8 + j + 2) 108 114
  have p3 : Rl (stN (stN G (i * 8 + j + 10) 117) (i * 8 + j + 18) 100) (up2 g (i * 8 + j + 10) 117 (i * 8 + j + 18) 100) := hG.put2 (i * 8 + j + 10) (i * 8 + j + 18) 117 100
  have p4 : Rl (stN (stN G (i * 8 + j + 8) 117) (i * 8 + j + 16) 100) (up2 g (i * 8 + j + 8) 117 (i * 8 + j + 16) 100) := hG.put2 (i * 8 + j + 8) (i * 8 + j + 16) 117 100
  repeat' split
  all_goals with_reducible first | exact hG | exact p1 | exact p2 | exact p3 | exact p4
theorem dmK_rl (n : Nat) (h1 : 1 ≤ n) (h4 : n ≤ 4) : Rl (dmK n) (dmF n) := by
  have h : ∀ n : Fin 5, 1 ≤ n.1 → ∀ k : Fin 64, gN (dmK n.1) k.1 = (dmF n.1 k.1).toNat := by decide +kernel
  exact fun k hk => h ⟨n, by omega⟩ h1 ⟨k, hk⟩
theorem spI_rl {r c n S : Nat} {F : Nat → UInt8} (hS : Rl S F) (hr : r ≤ 6) (hc : c ≤ 6) (h1 : 1 ≤ n) (h3 : n ≤ 3) (hout : ∀ k, k < 64 → ¬ (k / 8 < r ∧ k % 8 < c) → F k = 0) : ∀ i, i ≤ r → Rl (spNI c n S i) (spI r c n F i)
  | 0, _ => dmK_rl (n + 1) (by omega) (by omega)
  | i + 1, hi => by
    have ih := spI_rl hS hr hc h1 h3 hout i (by omega)
    have hJ : ∀ j, j ≤ c → Rl (spNJ n S i (spNI c n S i) j) (spJ r c n F i (spI r c n F i) j) := fun j => by
      induction j with
      | zero => exact fun _ => ih
      | succ j ihj => exact fun hj => sp_rl hS (ihj (by omega)) hr hc hout (by omega) (by omega)
    exact hJ c (Nat.le_refl _)
/-- Its cell as a point. -/
def ptK (k : Nat) : Int × Int := (((k % 8 : Nat) : Int), ((k / 8 : Nat) : Int))
theorem cb_rl {p : Nat × List Nat} {q : (Nat → UInt8) × List (Int × Int)} (h : Rl p.1 q.1) (hl : q.2 = p.2.map ptK) {i j : Nat} (hi : i < 8) (hj : j < 8) : Rl (cbN (i * 8 + j) p).1 (cbS i j q).1 ∧ (cbS i j q).2 = (cbN (i * 8 + j) p).2.map ptK := by
  have a : gN p.1 (i * 8 + j) = 35 ↔ q.1 (i * 8 + j) = 35 := h.iff (by omega) 35
  unfold cbN cbS
  by_cases e : q.1 (i * 8 + j) = 35
  · rw [if_pos e, if_pos (a.2 e)]
    refine ⟨?_, ?_⟩
    · have h2 := (h.put2 (i * 8 + j) (i * 8 + j + 1) 108 114).put2 (i * 8 + j + 8) (i * 8 + j + 9) 108 114
      unfold cvF
      rw [if_neg (by decide), show i * 8 + (j + 1) = i * 8 + j + 1 by omega, show (i + 1) * 8 + j = i * 8 + j + 8 by omega, show (i + 1) * 8 + (j + 1) = i * 8 + j + 9 by omega]
      exact h2
    · rw [List.map_append, hl]
      unfold ptK
      simp only [List.map_cons, List.map_nil]
      rw [show (i * 8 + j) % 8 = j by omega, show (i * 8 + j) / 8 = i by omega]
  · rw [if_neg e, if_neg (fun q => e (a.1 q))]
    exact ⟨h, hl⟩
theorem cbI_rl {c G : Nat} {g : Nat → UInt8} (h : Rl G g) (hc : c ≤ 8) : ∀ i, i ≤ 8 → Rl (cbNI c G i).1 (cbI c g i).1 ∧ (cbI c g i).2 = (cbNI c G i).2.map ptK
  | 0, _ => ⟨h, rfl⟩
  | i + 1, hi => by
    have ih := cbI_rl h hc i (by omega)
    have hJ : ∀ j, j ≤ c → Rl (cbNJ i (cbNI c G i) j).1 (cbJ i (cbI c g i) j).1 ∧ (cbJ i (cbI c g i) j).2 = (cbNJ i (cbNI c G i) j).2.map ptK := fun j => by
      induction j with
      | zero => exact fun _ => ih
      | succ j ihj => exact fun hj => cb_rl (ihj (by omega)).1 (ihj (by omega)).2 (by omega) (by omega)
    exact hJ c (Nat.le_refl _)
theorem cbA_rl {c G : Nat} {g : Nat → UInt8} (h : Rl G g) (hc : c ≤ 8) {i j : Nat} (hi : i < 8) (hj : j ≤ c) : Rl (cbNJ i (cbNI c G i) j).1 (cbA c g i j).1 := by
  have ih := cbI_rl h hc i (by omega)
  have hJ : ∀ j, j ≤ c → Rl (cbNJ i (cbNI c G i) j).1 (cbJ i (cbI c g i) j).1 ∧ (cbJ i (cbI c g i) j).2 = (cbNJ i (cbNI c G i) j).2.map ptK := fun j => by
    induction j with
    | zero => exact fun _ => ih
    | succ j ihj => exact fun hj => cb_rl (ihj (by omega)).1 (ihj (by omega)).2 (by omega) (by omega)
  exact (hJ j hj).1

end Go.Proofs.YtcnmndbckjmliaaDoor
