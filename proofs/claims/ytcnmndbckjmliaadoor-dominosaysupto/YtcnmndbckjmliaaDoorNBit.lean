/-
  Sets of cells as numbers; in how many ways the others can be covered. Plain.
-/
import Derived.Test.YtcnmndbckjmliaaDoorNTz
namespace Go.Proofs.YtcnmndbckjmliaaDoor
open Go.RowKit

def allC : Nat := 18446744073709551615
/-- The first cell that is not covered. -/
def fstC (c : Nat) : Nat := Lib.ctz 64 (allC - c)
theorem ctz_bits (x : Nat) (h0 : x ≠ 0) (hx : x < 2 ^ 64) : x.testBit (Lib.ctz 64 x) = true ∧ (∀ q, q < Lib.ctz 64 x → x.testBit q = false) ∧ Lib.ctz 64 x < 64 := by
  have h := Lib.ctzFrom_spec 64 x (by omega) hx
  obtain ⟨m, hm, hk⟩ := h
  have e : Lib.ctz 64 x = Lib.ctzFrom 64 x := by unfold Lib.ctz; rw [if_neg h0]
  rw [e]
  refine ⟨?_, fun q hq => ?_, hk⟩
  · rw [show x.testBit (Lib.ctzFrom 64 x) = (2 ^ Lib.ctzFrom 64 x * (2 * m + 1)).testBit (Lib.ctzFrom 64 x) by rw [← hm]]
    rw [Nat.testBit_two_pow_mul]
    simp
  · rw [show x.testBit q = (2 ^ Lib.ctzFrom 64 x * (2 * m + 1)).testBit q by rw [← hm]]
    rw [Nat.testBit_two_pow_mul]
    simp; omega
theorem co_bit (c q : Nat) (hc : c ≤ allC) (hq : q < 64) : (allC - c).testBit q = !c.testBit q := by
  have h := Nat.testBit_two_pow_sub_succ (x := c) (n := 64) (by unfold allC at hc; omega) q
  rw [show 2 ^ 64 - (c + 1) = allC - c by unfold allC; omega] at h
  rw [h]; simp [hq]
theorem fst_spec {c : Nat} (hc : c < allC) : fstC c < 64 ∧ c.testBit (fstC c) = false ∧ ∀ q, q < fstC c → c.testBit q = true := by
  obtain ⟨h1, h2, h3⟩ := ctz_bits (allC - c) (by omega) (by unfold allC; omega)
  refine ⟨h3, ?_, fun q hq => ?_⟩
  · have := co_bit c (fstC c) (by omega) h3
    unfold fstC at this ⊢
    rw [h1] at this
    revert this; cases c.testBit (Lib.ctz 64 (allC - c)) <;> simp
  · have := co_bit c q (by omega) (by unfold fstC at hq; omega)
    rw [h2 q hq] at this
    revert this; cases c.testBit q <;> simp
/-- Two cells more. -/
def addC (c p q : Nat) : Nat := c ||| 2 ^ p ||| 2 ^ q
theorem add_bit (c p q j : Nat) : (addC c p q).testBit j = (c.testBit j || decide (p = j) || decide (q = j)) := by
  unfold addC
  rw [Nat.testBit_or, Nat.testBit_or, Nat.testBit_two_pow, Nat.testBit_two_pow]
theorem add_le {c p q : Nat} (hc : c ≤ allC) (hp : p < 64) (hq : q < 64) : addC c p q ≤ allC := by
  have h1 : c < 2 ^ 64 := by unfold allC at hc; omega
  have h2 : 2 ^ p < 2 ^ 64 := Nat.pow_lt_pow_right (by omega) hp
  have h3 : 2 ^ q < 2 ^ 64 := Nat.pow_lt_pow_right (by omega) hq
  have h4 := Nat.or_lt_two_pow (Nat.or_lt_two_pow h1 h2) h3
  unfold addC allC
  omega
/-- May a lying, a standing domino be put on the first cell? -/
def mayL (c : Nat) : Bool := decide (fstC c % 8 < 7) && !c.testBit (fstC c + 1)
def mayS (c : Nat) : Bool := decide (fstC c < 56) && !c.testBit (fstC c + 8)
def lieC (c : Nat) : Nat := addC c (fstC c) (fstC c + 1)
def staC (c : Nat) : Nat := addC c (fstC c) (fstC c + 8)
/-- How many cells are free. -/
def freeC (c : Nat) : Nat := ((List.range 64).filter fun j => !c.testBit j).length
theorem filter_drop : ∀ (l : List Nat) (f g : Nat → Bool) (p : Nat), l.Nodup → p ∈ l → f p = true → g p = false → (∀ j, g j = true → f j = true) → (l.filter g).length + 1 ≤ (l.filter f).length := by
  intro l f g p hn hp h1 h2 h3
  induction l with
  | nil => cases hp
  | cons x r ih =>
    have hn' := List.nodup_cons.1 hn
    by_cases hx : x = p
    · subst hx
      rw [List.filter_cons_of_pos h1, List.filter_cons_of_neg (by rw [h2]; simp), List.length_cons]
      have : (r.filter g).length ≤ (r.filter f).length := by
        clear ih hn hp
        induction r with
        | nil => simp
        | cons y s ihs =>
          have hs := ihs ⟨fun q => hn'.1 (by simp [q]), (List.nodup_cons.1 hn'.2).2⟩
          cases hg : g y with
          | true => rw [List.filter_cons_of_pos hg, List.filter_cons_of_pos (h3 y hg)]; simpa using hs
          | false =>
            rw [List.filter_cons_of_neg (by rw [hg]; simp)]
            cases hf : f y with
            | true => rw [List.filter_cons_of_pos hf]; simp; omega
            | false => rw [List.filter_cons_of_neg (by rw [hf]; simp)]; exact hs
      omega
    · have hp' : p ∈ r := by rcases List.mem_cons.1 hp with e | e; exact absurd e.symm hx; exact e
      have := ih hn'.2 hp'
      cases hg : g x with
      | true => rw [List.filter_cons_of_pos hg, List.filter_cons_of_pos (h3 x hg)]; simp; omega
      | false =>
        rw [List.filter_cons_of_neg (by rw [hg]; simp)]
        cases hf : f x with
        | true => rw [List.filter_cons_of_pos hf]; simp; omega
        | false => rw [List.filter_cons_of_neg (by rw [hf]; simp)]; exact this
theorem free_add {c q : Nat} (hc : c < allC) (hq : q < 64) (hqc : c.testBit q = false) (hne : q ≠ fstC c) : freeC (addC c (fstC c) q) + 2 ≤ freeC c := by
  obtain ⟨h1, h2, h3⟩ := fst_spec hc
  have hnd : (List.range 64).Nodup := List.nodup_range
  have a1 := filter_drop (List.range 64) (fun j => !c.testBit j) (fun j => !(c ||| 2 ^ fstC c).testBit j) (fstC c) hnd (by simpa using h1) (by simp [h2]) (by simp [Nat.testBit_or]) (fun j hj => by
    simp only [Nat.testBit_or, Bool.not_or, Bool.and_eq_true] at hj; exact hj.1)
  have a2 := filter_drop (List.range 64) (fun j => !(c ||| 2 ^ fstC c).testBit j) (fun j => !(addC c (fstC c) q).testBit j) q hnd (by simpa using hq) (by simp [Nat.testBit_or, hqc, Ne.symm hne]) (by simp [add_bit]) (fun j hj => by
    unfold addC at hj
    rw [Nat.testBit_or] at hj
    simp only [Bool.not_or, Bool.and_eq_true] at hj; exact hj.1)
  unfold freeC
  omega
theorem free_lie {c : Nat} (hc : c < allC) (h : mayL c = true) : freeC (lieC c) + 2 ≤ freeC c := by
  unfold mayL at h
  simp only [Bool.and_eq_true, decide_eq_true_eq, Bool.not_eq_true'] at h
  have := (fst_spec hc).1
  exact free_add hc (by omega) h.2 (by omega)
theorem free_sta {c : Nat} (hc : c < allC) (h : mayS c = true) : freeC (staC c) + 2 ≤ freeC c := by
  unfold mayS at h
  simp only [Bool.and_eq_true, decide_eq_true_eq, Bool.not_eq_true'] at h
  exact free_add hc (by omega) h.2 (by omega)
theorem lie_le {c : Nat} (hc : c < allC) (h : mayL c = true) : lieC c ≤ allC := by
  unfold mayL at h
  simp only [Bool.and_eq_true, decide_eq_true_eq] at h
  have := (fst_spec hc).1
  exact add_le (by omega) (by omega) (by omega)
theorem sta_le {c : Nat} (hc : c < allC) (h : mayS c = true) : staC c ≤ allC := by
  unfold mayS at h
  simp only [Bool.and_eq_true, decide_eq_true_eq] at h
  exact add_le (by omega) (by have := (fst_spec hc).1; omega) (by omega)
/-- In how many ways the others can be covered. -/
def cntF : Nat → Nat → Nat
  | 0, _ => 1
  | f + 1, c => if c = allC then 1 else (if mayL c = true then cntF f (lieC c) else 0) + (if mayS c = true then cntF f (staC c) else 0)
theorem free_le (c : Nat) : freeC c ≤ 64 := Nat.le_trans (List.length_filter_le _ _) (by simp)
theorem free_pos {c : Nat} (hc : c < allC) : 0 < freeC c := by
  obtain ⟨h1, h2, _⟩ := fst_spec hc
  exact List.length_pos_iff.2 (List.ne_nil_of_mem (List.mem_filter.2 ⟨List.mem_range.2 h1, by simp [h2]⟩))
theorem cnt_fuel : ∀ (f g c : Nat), c ≤ allC → freeC c ≤ f → freeC c ≤ g → cntF f c = cntF g c := by
  intro f
  induction f with
  | zero =>
    intro g c hc h1 _
    have : c = allC := by
      rcases Nat.lt_or_ge c allC with q | q
      · have := free_pos q; omega
      · omega
    subst this
    cases g with
    | zero => rfl
    | succ g => simp [cntF]
  | succ f ih =>
    intro g c hc h1 h2
    rcases Nat.lt_or_ge c allC with q | q
    · have hp := free_pos q
      obtain ⟨g, rfl⟩ : ∃ g', g = g' + 1 := ⟨g - 1, by omega⟩
      have hne : c ≠ allC := by omega
      have e1 : (if mayL c = true then cntF f (lieC c) else 0) = (if mayL c = true then cntF g (lieC c) else 0) := by
        by_cases h : mayL c = true
        · rw [if_pos h, if_pos h]; have := free_lie q h; exact ih g _ (lie_le q h) (by omega) (by omega)
        · rw [if_neg h, if_neg h]
      have e2 : (if mayS c = true then cntF f (staC c) else 0) = (if mayS c = true then cntF g (staC c) else 0) := by
        by_cases h : mayS c = true
        · rw [if_pos h, if_pos h]; have := free_sta q h; exact ih g _ (sta_le q h) (by omega) (by omega)
        · rw [if_neg h, if_neg h]
      rw [cntF, cntF, if_neg hne, if_neg hne, e1, e2]
    · have : c = allC := by omega
      subst this
      cases g with
      | zero => simp [cntF]
      | succ g => simp [cntF]
theorem cntF_succ (f c : Nat) : cntF (f + 1) c = if c = allC then 1 else (if mayL c = true then cntF f (lieC c) else 0) + (if mayS c = true then cntF f (staC c) else 0) := rfl
def cntC (c : Nat) : Nat := cntF (63 + 1) c
theorem cntC_all : cntC allC = 1 := by unfold cntC; rw [cntF_succ, if_pos rfl]
theorem cntF_mid {f c : Nat} (hc : c < allC) (hf : freeC c ≤ f + 1) (g : Nat) (hg : freeC c ≤ g + 1) : cntF (f + 1) c = (if mayL c = true then cntF (g + 1) (lieC c) else 0) + (if mayS c = true then cntF (g + 1) (staC c) else 0) := by
  have hne : c ≠ allC := by omega
  rw [cntF_succ, if_neg hne]
  have e1 : (if mayL c = true then cntF f (lieC c) else 0) = (if mayL c = true then cntF (g + 1) (lieC c) else 0) := by
    by_cases h : mayL c = true
    · rw [if_pos h, if_pos h]; have := free_lie hc h; exact cnt_fuel _ _ _ (lie_le hc h) (by omega) (by omega)
    · rw [if_neg h, if_neg h]
  have e2 : (if mayS c = true then cntF f (staC c) else 0) = (if mayS c = true then cntF (g + 1) (staC c) else 0) := by
    by_cases h : mayS c = true
    · rw [if_pos h, if_pos h]; have := free_sta hc h; exact cnt_fuel _ _ _ (sta_le hc h) (by omega) (by omega)
    · rw [if_neg h, if_neg h]
  rw [e1, e2]
theorem cntC_step {c : Nat} (hc : c < allC) : cntC c = (if mayL c = true then cntC (lieC c) else 0) + (if mayS c = true then cntC (staC c) else 0) :=
  cntF_mid (f := 63) hc (free_le c) 63 (free_le c)
theorem cnt_le : ∀ (f c : Nat), cntF f c ≤ 2 ^ f := by
  intro f
  induction f with
  | zero => intro c; simp [cntF]
  | succ f ih =>
    intro c
    rw [cntF]
    have h1 := ih (lieC c)
    have h2 := ih (staC c)
    have h3 : 1 ≤ 2 ^ f := Nat.one_le_two_pow
    have h4 : 2 ^ (f + 1) = 2 ^ f + 2 ^ f := by rw [Nat.pow_succ]; omega
    split
    · omega
    · split <;> split <;> omega
/-- A bound that halves the depth: two cells a step. -/
theorem cnt_half : ∀ (k c : Nat), c ≤ allC → freeC c ≤ 2 * k → cntC c ≤ 2 ^ k := by
  intro k
  induction k with
  | zero =>
    intro c hc h
    have : c = allC := by
      rcases Nat.lt_or_ge c allC with q | q
      · have := free_pos q; omega
      · omega
    subst this; rw [cntC_all]; exact Nat.le_refl _
  | succ k ih =>
    intro c hc h
    rcases Nat.lt_or_ge c allC with q | q
    · rw [cntC_step q]
      have h4 : 2 ^ (k + 1) = 2 ^ k + 2 ^ k := by rw [Nat.pow_succ]; omega
      have e1 : (if mayL c = true then cntC (lieC c) else 0) ≤ 2 ^ k := by
        by_cases h : mayL c = true
        · rw [if_pos h]; have := free_lie q h; exact ih _ (lie_le q h) (by omega)
        · rw [if_neg h]; exact Nat.zero_le _
      have e2 : (if mayS c = true then cntC (staC c) else 0) ≤ 2 ^ k := by
        by_cases h : mayS c = true
        · rw [if_pos h]; have := free_sta q h; exact ih _ (sta_le q h) (by omega)
        · rw [if_neg h]; exact Nat.zero_le _
      omega
    · have : c = allC := by omega
      subst this; rw [cntC_all]; exact Nat.one_le_two_pow
theorem cnt_small {c : Nat} (hc : c ≤ allC) : cntC c ≤ 4294967296 := by
  have := cnt_half 32 c hc (by have := free_le c; omega)
  simpa using this

end Go.Proofs.YtcnmndbckjmliaaDoor
