/-
  Whole numbers as lists of words of 32 bits, the least first: plain facts.
-/
import Derived.Test.YthfbkangjpcpgaaDoorTTab
namespace Go.Proofs.YthfbkangjpcpgaaDoor

def val : List Nat → Nat
  | [] => 0
  | u :: us => u + 4294967296 * val us
def Wd (us : List Nat) : Prop := ∀ u ∈ us, u < 4294967296
/-- Without the noughts at the end. -/
def norm : List Nat → List Nat
  | [] => []
  | u :: us => if norm us = [] ∧ u = 0 then [] else u :: norm us
/-- us are the words of x. -/
structure Num (us : List Nat) (x : Nat) : Prop where
  wd : Wd us
  eq : val us = x
  nm : norm us = us

theorem norm_val : ∀ us, val (norm us) = val us := by
  intro us
  induction us with
  | nil => rfl
  | cons u us ih =>
    rw [norm]
    by_cases h : norm us = [] ∧ u = 0
    · rw [if_pos h]
      rw [h.1] at ih
      simp only [val] at *
      omega
    · rw [if_neg h]; simp only [val, ih]
theorem norm_norm : ∀ us, norm (norm us) = norm us := by
  intro us
  induction us with
  | nil => rfl
  | cons u us ih =>
    rw [norm]
    by_cases h : norm us = [] ∧ u = 0
    · rw [if_pos h]; rfl
    · rw [if_neg h, norm, ih, if_neg h]
theorem norm_take : ∀ us, norm us = us.take (norm us).length := by
  intro us
  induction us with
  | nil => rfl
  | cons u us ih =>
    rw [norm]
    by_cases h : norm us = [] ∧ u = 0
    · rw [if_pos h]; rfl
    · rw [if_neg h, List.length_cons, List.take_succ_cons, ← ih]
theorem norm_len (us : List Nat) : (norm us).length ≤ us.length := by
  have := congrArg List.length (norm_take us)
  rw [List.length_take] at this; omega
theorem norm_wd {us : List Nat} (h : Wd us) : Wd (norm us) := fun u hu => h u (by rw [norm_take] at hu; exact List.mem_of_mem_take hu)
theorem num_norm {us : List Nat} (h : Wd us) : Num (norm us) (val us) := ⟨norm_wd h, norm_val us, norm_norm us⟩
theorem norm_zero : ∀ l, norm (l ++ [0]) = norm l := by
  intro l
  induction l with
  | nil => rfl
  | cons u l ih => rw [List.cons_append, norm, norm, ih]
theorem norm_end {u : Nat} (hu : u ≠ 0) : ∀ l, norm (l ++ [u]) = l ++ [u] := by
  intro l
  induction l with
  | nil => rw [List.nil_append, norm, if_neg (fun h => hu h.2)]; rfl
  | cons x l ih => rw [List.cons_append, norm, ih, if_neg (fun h => by simp at h)]
theorem val_snoc : ∀ l u, val (l ++ [u]) = val l + 4294967296 ^ l.length * u := by
  intro l u
  induction l with
  | nil => simp [val]
  | cons x l ih =>
    rw [List.cons_append, val, val, ih, List.length_cons, Nat.pow_succ, Nat.mul_add]
    rw [Nat.mul_comm (4294967296 ^ l.length) 4294967296, Nat.mul_assoc]; omega
theorem val_take {l : List Nat} {k : Nat} (h : k < l.length) : val (l.take (k + 1)) = val (l.take k) + 4294967296 ^ k * l.getD k 0 := by
  rw [List.take_succ_eq_append_getElem h, val_snoc, List.length_take, Nat.min_eq_left (by omega)]
  simp [List.getD, List.getElem?_eq_getElem h]
theorem val_lt : ∀ l, Wd l → val l < 4294967296 ^ l.length := by
  intro l
  induction l with
  | nil => intro _; simp [val]
  | cons u l ih =>
    intro h
    have h1 := ih (fun x hx => h x (by simp [hx]))
    have h2 := h u (by simp)
    rw [val, List.length_cons, Nat.pow_succ]
    omega
theorem num_zero {us : List Nat} {x : Nat} (h : Num us x) : us = [] ↔ x = 0 := by
  constructor
  · intro e; subst e; exact h.eq.symm
  · intro e
    have key : ∀ l, val l = 0 → norm l = [] := by
      intro l
      induction l with
      | nil => intro _; rfl
      | cons u l ih =>
        intro hl
        simp only [val] at hl
        rw [norm, if_pos ⟨ih (by omega), by omega⟩]
    rw [← h.nm]; exact key us (by rw [h.eq, e])
theorem num_nil : Num [] 0 := ⟨fun _ h => by simp at h, rfl, rfl⟩

/-- One step of an addition, word by word. -/
theorem add_step {a b c u v r d P X Y R : Nat} (h : R + c * P = X + Y) (ha : u < 4294967296) (hb : v < 4294967296) (hc : c ≤ 1) (hr : r = (c + u + v) % 4294967296) (hd : d = (c + u + v) / 4294967296) (_ : a = a) (_ : b = b) :
    (R + P * r) + d * (P * 4294967296) = (X + P * u) + (Y + P * v) ∧ d ≤ 1 := by
  have e : c + u + v = 4294967296 * d + r := by omega
  constructor
  · have h1 : P * (c + u + v) = P * (4294967296 * d + r) := by rw [e]
    rw [Nat.mul_add, Nat.mul_add, Nat.mul_add] at h1
    have h2 : c * P = P * c := Nat.mul_comm _ _
    have h3 : d * (P * 4294967296) = P * (4294967296 * d) := by
      rw [Nat.mul_comm d, Nat.mul_assoc]
    rw [h3]
    omega
  · omega

end Go.Proofs.YthfbkangjpcpgaaDoor
