/-
  In how many ways: whatever free cell is looked at first (plain).
-/
import Derived.Test.YtcnmndbckjmliaaDoorNBit
namespace Go.Proofs.YtcnmndbckjmliaaDoor
open Go.RowKit

/-- The dominoes that hold a cell. -/
def doms (k : Nat) : List (Nat × Nat) := (if k % 8 < 7 then [(k, k + 1)] else []) ++ (if 1 ≤ k % 8 then [(k - 1, k)] else []) ++ (if k < 56 then [(k, k + 8)] else []) ++ (if 8 ≤ k then [(k - 8, k)] else [])
def hasD (k : Nat) (d : Nat × Nat) : Bool := d.1 == k || d.2 == k
def okD (c : Nat) (d : Nat × Nat) : Bool := !c.testBit d.1 && !c.testBit d.2
/-- A domino laid, if both its cells are free. -/
def covD (c : Nat) (d : Nat × Nat) : Nat := if okD c d = true then cntC (addC c d.1 d.2) else 0
def sumD (c k : Nat) : Nat := ((doms k).map (covD c)).sum
theorem doms_at : ∀ k, k < 64 → (doms k).all (fun d => hasD k d && decide (d.1 < 64) && decide (d.2 < 64) && !(d.1 == d.2)) = true := by decide +kernel
theorem doms_two : ∀ f, f < 64 → ∀ k, k < 64 → f ≠ k → (doms f).filter (hasD k) = (doms k).filter (hasD f) := by decide +kernel
theorem doms_in {k : Nat} (hk : k < 64) {d : Nat × Nat} (h : d ∈ doms k) : (d.1 = k ∨ d.2 = k) ∧ d.1 < 64 ∧ d.2 < 64 ∧ d.1 ≠ d.2 := by
  have := List.all_eq_true.1 (doms_at k hk) d h
  unfold hasD at this
  simp only [Bool.and_eq_true, Bool.or_eq_true, beq_iff_eq, decide_eq_true_eq, Bool.not_eq_true', beq_eq_false_iff_ne] at this
  exact ⟨this.1.1.1, this.1.1.2, this.1.2, this.2⟩
theorem sum_comm2 {α β : Type} (P : α → β → Nat) (B : List β) : ∀ A : List α, (A.map fun a => (B.map fun b => P a b).sum).sum = (B.map fun b => (A.map fun a => P a b).sum).sum
  | [] => by
    have : ∀ B : List β, (B.map fun _ => (0 : Nat)).sum = 0 := fun B => by induction B with | nil => rfl | cons x r ih => simp [ih]
    simp [this]
  | a :: A => by
    have ih := sum_comm2 P B A
    have add : ∀ (B : List β) (f g : β → Nat), (B.map fun b => f b + g b).sum = (B.map f).sum + (B.map g).sum := fun B f g => by
      induction B with
      | nil => rfl
      | cons x r ihr => simp only [List.map_cons, List.sum_cons, ihr]; omega
    simp only [List.map_cons, List.sum_cons]
    rw [add, ih]
theorem sum_part {α : Type} (p : α → Bool) (f : α → Nat) : ∀ l : List α, (l.map f).sum = ((l.filter p).map f).sum + (l.map fun x => if p x = true then 0 else f x).sum
  | [] => rfl
  | x :: l => by
    have ih := sum_part p f l
    by_cases h : p x = true
    · rw [List.filter_cons_of_pos h]
      simp only [List.map_cons, List.sum_cons, if_pos h, ih]; omega
    · rw [List.filter_cons_of_neg h]
      simp only [List.map_cons, List.sum_cons, if_neg h, ih]; omega
theorem add_comm2 (c a b d e : Nat) : addC (addC c a b) d e = addC (addC c d e) a b := by
  apply Nat.eq_of_testBit_eq
  intro j
  rw [add_bit, add_bit, add_bit, add_bit]
  cases c.testBit j <;> cases decide (a = j) <;> cases decide (b = j) <;> cases decide (d = j) <;> cases decide (e = j) <;> rfl
/-- Two dominoes, one after the other. -/
def covDD (c : Nat) (d e : Nat × Nat) : Nat := if okD c d = true then covD (addC c d.1 d.2) e else 0
theorem covDD_comm (c : Nat) (d e : Nat × Nat) : covDD c d e = covDD c e d := by
  unfold covDD covD
  rw [add_comm2 c d.1 d.2 e.1 e.2]
  unfold okD
  rw [add_bit, add_bit, add_bit, add_bit]
  by_cases h1 : d.1 = e.1
  · simp [h1]
  · by_cases h2 : d.1 = e.2
    · simp [h2]
    · by_cases h3 : d.2 = e.1
      · simp [h3]
      · by_cases h4 : d.2 = e.2
        · simp [h4]
        · have h1' := Ne.symm h1
          have h2' := Ne.symm h2
          have h3' := Ne.symm h3
          have h4' := Ne.symm h4
          cases c.testBit d.1 <;> cases c.testBit d.2 <;> cases c.testBit e.1 <;> cases c.testBit e.2 <;> simp [h1, h2, h3, h4, h1', h2', h3', h4']
theorem covDD_meet {c k : Nat} {d e : Nat × Nat} (hd : hasD k d = true) (he : hasD k e = true) : covDD c d e = 0 := by
  unfold covDD covD okD
  unfold hasD at hd he
  simp only [Bool.or_eq_true, beq_iff_eq] at hd he
  rw [add_bit, add_bit]
  rcases hd with hd | hd <;> rcases he with he | he <;> subst hd <;> simp [he]
theorem free_less {c p q : Nat} (hp : p < 64) (h : c.testBit p = false) : freeC (addC c p q) + 1 ≤ freeC c :=
  filter_drop (List.range 64) (fun j => !c.testBit j) (fun j => !(addC c p q).testBit j) p List.nodup_range (List.mem_range.2 hp) (by simp [h]) (by simp [add_bit]) (fun j hj => by
    rw [add_bit] at hj
    simp only [Bool.not_eq_true', Bool.or_eq_false_iff] at hj ⊢
    exact hj.1.1)
/-- The first free cell. -/
theorem cnt_first {c : Nat} (hc : c < allC) : cntC c = sumD c (fstC c) := by
  obtain ⟨h1, h2, h3⟩ := fst_spec hc
  rw [cntC_step hc]
  obtain ⟨f, hf⟩ : ∃ f, f = fstC c := ⟨_, rfl⟩
  unfold mayL mayS lieC staC sumD doms
  rw [← hf] at h1 h2 h3 ⊢
  rw [List.map_append, List.map_append, List.map_append, List.sum_append, List.sum_append, List.sum_append]
  have e1 : ((if f % 8 < 7 then [(f, f + 1)] else []).map (covD c)).sum = if (decide (f % 8 < 7) && !c.testBit (f + 1)) = true then cntC (addC c f (f + 1)) else 0 := by
    by_cases q : f % 8 < 7
    · rw [if_pos q, decide_eq_true q, Bool.true_and]
      simp only [List.map_cons, List.map_nil, List.sum_cons, List.sum_nil, Nat.add_zero, covD, okD, h2, Bool.not_false, Bool.true_and]
    · rw [if_neg q, decide_eq_false q, Bool.false_and]; rfl
  have e2 : ((if 1 ≤ f % 8 then [(f - 1, f)] else []).map (covD c)).sum = 0 := by
    by_cases q : 1 ≤ f % 8
    · rw [if_pos q]
      simp only [List.map_cons, List.map_nil, List.sum_cons, List.sum_nil, Nat.add_zero, covD, okD, h3 (f - 1) (by omega), Bool.not_true, Bool.false_and]
      rfl
    · rw [if_neg q]; rfl
  have e3 : ((if f < 56 then [(f, f + 8)] else []).map (covD c)).sum = if (decide (f < 56) && !c.testBit (f + 8)) = true then cntC (addC c f (f + 8)) else 0 := by
    by_cases q : f < 56
    · rw [if_pos q, decide_eq_true q, Bool.true_and]
      simp only [List.map_cons, List.map_nil, List.sum_cons, List.sum_nil, Nat.add_zero, covD, okD, h2, Bool.not_false, Bool.true_and]
    · rw [if_neg q, decide_eq_false q, Bool.false_and]; rfl
  have e4 : ((if 8 ≤ f then [(f - 8, f)] else []).map (covD c)).sum = 0 := by
    by_cases q : 8 ≤ f
    · rw [if_pos q]
      simp only [List.map_cons, List.map_nil, List.sum_cons, List.sum_nil, Nat.add_zero, covD, okD, h3 (f - 8) (by omega), Bool.not_true, Bool.false_and]
      rfl
    · rw [if_neg q]; rfl
  rw [e1, e2, e3, e4]; omega
/-- Any free cell. -/
theorem cnt_any : ∀ (n c : Nat), freeC c ≤ n → c ≤ allC → ∀ k, k < 64 → c.testBit k = false → cntC c = sumD c k
  | 0, c, hn, hc, k, hk, hf => by
    have : k ∈ (List.range 64).filter fun j => !c.testBit j := List.mem_filter.2 ⟨List.mem_range.2 hk, by simp [hf]⟩
    have := List.length_pos_of_mem this
    unfold freeC at hn; omega
  | n + 1, c, hn, hc, k, hk, hf => by
    have hlt : c < allC := by
      rcases Nat.lt_or_ge c allC with q | q
      · exact q
      · obtain rfl : c = allC := by omega
        have : ∀ k, k < 64 → allC.testBit k = true := by decide
        rw [this k hk] at hf; cases hf
    obtain ⟨h1, h2, h3⟩ := fst_spec hlt
    obtain ⟨f, hfe⟩ : ∃ f, f = fstC c := ⟨_, rfl⟩
    rw [cnt_first hlt]
    rw [← hfe] at h1 h2 h3 ⊢
    by_cases hfk : f = k
    · rw [hfk]
    -- what a domino on one of the two cells comes to
    have key : ∀ a b : Nat, a < 64 → b < 64 → c.testBit a = false → c.testBit b = false → ∀ d, d ∈ doms a → (if hasD b d = true then 0 else covD c d) = ((doms b).map fun e => covDD c d e).sum := fun a b ha hb hfa hfb d hd => by
      obtain ⟨g1, g2, g3, g4⟩ := doms_in ha hd
      by_cases hh : hasD b d = true
      · rw [if_pos hh]
        symm
        have : ∀ l : List (Nat × Nat), (∀ e ∈ l, covDD c d e = 0) → (l.map fun e => covDD c d e).sum = 0 := fun l hl => by
          induction l with
          | nil => rfl
          | cons x r ih => simp only [List.map_cons, List.sum_cons, hl x (List.mem_cons_self ..), ih (fun e he => hl e (List.mem_cons_of_mem _ he))]
        refine this _ fun e he => covDD_meet hh ?_
        have := (doms_in hb he).1
        unfold hasD
        simpa using this
      · rw [if_neg hh]
        unfold hasD at hh
        simp only [Bool.or_eq_true, beq_iff_eq, not_or] at hh
        unfold covD covDD
        by_cases ho : okD c d = true
        · rw [if_pos ho]
          simp only [if_pos ho]
          have hle : addC c d.1 d.2 ≤ allC := add_le hc g2 g3
          have hfb2 : (addC c d.1 d.2).testBit b = false := by
            rw [add_bit, hfb, decide_eq_false hh.1, decide_eq_false hh.2]; rfl
          have hd1 : c.testBit d.1 = false := by
            unfold okD at ho
            simp only [Bool.and_eq_true, Bool.not_eq_true'] at ho
            exact ho.1
          have hfr : freeC (addC c d.1 d.2) ≤ n := by have := free_less (q := d.2) g2 hd1; omega
          exact cnt_any n _ hfr hle b hb hfb2
        · rw [if_neg ho]
          simp only [if_neg ho]
          induction doms b with
          | nil => rfl
          | cons x r ih => simpa using ih
    unfold sumD
    rw [sum_part (hasD k) (covD c) (doms f), sum_part (hasD f) (covD c) (doms k), doms_two f h1 k hk hfk]
    congr 1
    rw [List.map_congr_left (key f k h1 hk h2 hf), List.map_congr_left (key k f hk h1 hf h2), sum_comm2]
    congr 1
    apply List.map_congr_left
    intro e _
    congr 1
    apply List.map_congr_left
    intro d _
    exact covDD_comm c d e
/-- A free cell with nothing free before it, to the left and above. -/
theorem cnt_corner {c k : Nat} (hc : c ≤ allC) (hk : k < 64) (hf : c.testBit k = false) (hl : 1 ≤ k % 8 → c.testBit (k - 1) = true) (hu : 8 ≤ k → c.testBit (k - 8) = true) :
    cntC c = (if k % 8 < 7 ∧ c.testBit (k + 1) = false then cntC (addC c k (k + 1)) else 0) + (if k < 56 ∧ c.testBit (k + 8) = false then cntC (addC c k (k + 8)) else 0) := by
  rw [cnt_any 64 c (free_le c) hc k hk hf]
  unfold sumD doms
  rw [List.map_append, List.map_append, List.map_append, List.sum_append, List.sum_append, List.sum_append]
  have e1 : ((if k % 8 < 7 then [(k, k + 1)] else []).map (covD c)).sum = if k % 8 < 7 ∧ c.testBit (k + 1) = false then cntC (addC c k (k + 1)) else 0 := by
    by_cases q : k % 8 < 7
    · rw [if_pos q]
      simp only [List.map_cons, List.map_nil, List.sum_cons, List.sum_nil, Nat.add_zero, covD, okD, hf, Bool.not_false, Bool.true_and, Bool.not_eq_true', q, true_and]
    · rw [if_neg q, if_neg (fun z => q z.1)]; rfl
  have e2 : ((if 1 ≤ k % 8 then [(k - 1, k)] else []).map (covD c)).sum = 0 := by
    by_cases q : 1 ≤ k % 8
    · rw [if_pos q]
      simp only [List.map_cons, List.map_nil, List.sum_cons, List.sum_nil, Nat.add_zero, covD, okD, hl q, Bool.not_true, Bool.false_and]
      rfl
    · rw [if_neg q]; rfl
  have e3 : ((if k < 56 then [(k, k + 8)] else []).map (covD c)).sum = if k < 56 ∧ c.testBit (k + 8) = false then cntC (addC c k (k + 8)) else 0 := by
    by_cases q : k < 56
    · rw [if_pos q]
      simp only [List.map_cons, List.map_nil, List.sum_cons, List.sum_nil, Nat.add_zero, covD, okD, hf, Bool.not_false, Bool.true_and, Bool.not_eq_true', q, true_and]
    · rw [if_neg q, if_neg (fun z => q z.1)]; rfl
  have e4 : ((if 8 ≤ k then [(k - 8, k)] else []).map (covD c)).sum = 0 := by
    by_cases q : 8 ≤ k
    · rw [if_pos q]
      simp only [List.map_cons, List.map_nil, List.sum_cons, List.sum_nil, Nat.add_zero, covD, okD, hu q, Bool.not_true, Bool.false_and]
      rfl
    · rw [if_neg q]; rfl
  rw [e1, e2, e3, e4]; omega

end Go.Proofs.YtcnmndbckjmliaaDoor
