/-
  Piles of cubes: plain mathematics. A pile as a function of row and column; turned, mirrored, the rest, its edges and back.
-/
import Derived.Test.YtpdlhnniibjfaaiDoorLMath
namespace Go.Proofs.YtpdlhnniibjfaaiDoor

/-- a table out of a function -/
def tb (r c : Nat) (P : Nat → Nat → Nat) : List (List Int) := (List.range r).map fun i => tab c fun j => (P i j : Int)

theorem tb_len (r c : Nat) (P : Nat → Nat → Nat) : (tb r c P).length = r := by simp [tb]
theorem tb_row {r c : Nat} {P : Nat → Nat → Nat} {i : Nat} (hi : i < r) : row (tb r c P) i = tab c fun j => (P i j : Int) := by simp [row, tb, List.getD, hi]
theorem tb_congr {r c : Nat} {P Q : Nat → Nat → Nat} (h : ∀ i, i < r → ∀ j, j < c → P i j = Q i j) : tb r c P = tb r c Q :=
  List.map_congr_left (fun i hi => tab_congr (fun j hj => by rw [h i (List.mem_range.1 hi) j hj]))
theorem tb_wf {r c : Nat} {P : Nat → Nat → Nat} {B : Nat} (hc : c ≤ 1000) (hB : B ≤ 1000) (h : ∀ i, i < r → ∀ j, j < c → P i j ≤ B) : ∀ l ∈ tb r c P, l.length ≤ 17592186044416 ∧ ∀ z ∈ l, -9223372036854775808 ≤ z ∧ z ≤ 9223372036854775807 := by
  intro l hl
  simp only [tb, List.mem_map, List.mem_range] at hl
  obtain ⟨i, hi, rfl⟩ := hl
  refine ⟨by rw [tab_length]; omega, fun z hz => ?_⟩
  obtain ⟨j, hj, rfl⟩ := tab_mem hz
  have := h i hi j hj
  omega

/-- a pile in a room -/
structure Pil (r c h : Nat) (P : Nat → Nat → Nat) : Prop where
  r1 : 1 ≤ r
  r8 : r ≤ 8
  c1 : 1 ≤ c
  c8 : c ≤ 8
  h1 : 1 ≤ h
  h8 : h ≤ 8
  le : ∀ i, i < r → ∀ j, j < c → P i j ≤ h
  row : ∀ i, i < r → ∀ j, j + 1 < c → P i (j + 1) ≤ P i j
  col : ∀ i, i + 1 < r → ∀ j, j < c → P (i + 1) j ≤ P i j

/-- how many of the first n -/
def cn (n : Nat) (f : Nat → Prop) [DecidablePred f] : Nat := S n fun i => ind (f i)

theorem cn_succ (n : Nat) (f : Nat → Prop) [DecidablePred f] : cn (n + 1) f = cn n f + ind (f n) := rfl
theorem cn_le (n : Nat) (f : Nat → Prop) [DecidablePred f] : cn n f ≤ n := by
  have := S_le (n := n) (f := fun i => ind (f i)) (g := fun _ => 1) (fun i _ => ind_le _)
  rw [S_one] at this
  exact this
theorem cn_mono {n : Nat} {f g : Nat → Prop} [DecidablePred f] [DecidablePred g] (h : ∀ i, i < n → f i → g i) : cn n f ≤ cn n g := by
  refine S_le (fun i hi => ?_)
  by_cases hf : f i
  · rw [ind_pos hf, ind_pos (h i hi hf)]; exact Nat.le_refl _
  · rw [ind_neg hf]; exact Nat.zero_le _
theorem cn_congr {n : Nat} {f g : Nat → Prop} [DecidablePred f] [DecidablePred g] (h : ∀ i, i < n → (f i ↔ g i)) : cn n f = cn n g :=
  S_congr (fun i hi => ind_iff (h i hi))

theorem down_all {n : Nat} {f : Nat → Prop} (hd : ∀ i, i + 1 < n → f (i + 1) → f i) : ∀ (d i : Nat), i + d < n → f (i + d) → f i
  | 0, _, _, h => h
  | d + 1, i, hi, h => down_all hd d i (by omega) (hd (i + d) (by omega) h)

theorem lt_cn : ∀ {n : Nat} {f : Nat → Prop} [DecidablePred f], (∀ i, i + 1 < n → f (i + 1) → f i) → ∀ i, (i < cn n f ↔ i < n ∧ f i)
  | 0, f, _, _, i => by simp [cn, S]
  | n + 1, f, _, hd, i => by
    have ih := lt_cn (n := n) (f := f) (fun j hj h => hd j (by omega) h)
    rw [cn_succ]
    by_cases hf : f n
    · rw [ind_pos hf]
      have hall : ∀ j, j < n + 1 → f j := fun j hj => down_all hd (n - j) j (by omega) (by have e : j + (n - j) = n := by omega
                                                                                           rw [e]; exact hf)
      have e : cn n f = n := by
        have h1 := cn_le n f
        by_cases h0 : n = 0
        · omega
        · have := (ih (n - 1)).2 ⟨by omega, hall _ (by omega)⟩
          omega
      rw [e]
      exact ⟨fun h => ⟨h, hall i h⟩, fun h => h.1⟩
    · rw [ind_neg hf, Nat.add_zero, ih]
      refine ⟨fun h => ⟨by omega, h.2⟩, fun h => ⟨?_, h.2⟩⟩
      have : i ≠ n := fun e => hf (e ▸ h.2)
      omega

theorem eq_of_lt {a b : Nat} (h : ∀ i, i < a ↔ i < b) : a = b := by
  have h1 := h a
  have h2 := h b
  omega

/-- turned -/
def trn (r : Nat) (P : Nat → Nat → Nat) (j z : Nat) : Nat := cn r fun i => z < P i j

theorem Pil.trn {r c h : Nat} {P : Nat → Nat → Nat} (p : Pil r c h P) : Pil c h r (trn r P) where
  r1 := p.c1
  r8 := p.c8
  c1 := p.h1
  c8 := p.h8
  h1 := p.r1
  h8 := p.r8
  le := fun j _ z _ => cn_le _ _
  row := fun j _ z _ => cn_mono (fun i _ h => by omega)
  col := fun j hj z _ => cn_mono (fun i hi h => by have := p.row i hi j hj; omega)

theorem Pil.lt_trn {r c h : Nat} {P : Nat → Nat → Nat} (p : Pil r c h P) {j : Nat} (hj : j < c) (z i : Nat) : i < YtpdlhnniibjfaaiDoor.trn r P j z ↔ i < r ∧ z < P i j :=
  lt_cn (f := fun i => z < P i j) (fun k hk hz => by have := p.col k hk j hj; omega) i

theorem trn_three {r c h : Nat} {P : Nat → Nat → Nat} (p : Pil r c h P) {i j : Nat} (hi : i < r) (hj : j < c) : trn h (trn c (trn r P)) i j = P i j := by
  refine eq_of_lt (fun z => ?_)
  rw [p.trn.trn.lt_trn hi j z, and_congr_right_iff.2 (fun (hz : z < h) => p.trn.lt_trn hz i j), p.lt_trn hj z i]
  have := p.le i hi j hj
  omega

def vol (r c : Nat) (P : Nat → Nat → Nat) : Nat := S r fun i => S c fun j => P i j

theorem trn_vol {r c h : Nat} {P : Nat → Nat → Nat} (p : Pil r c h P) : vol c h (trn r P) = vol r c P := by
  unfold vol trn cn
  rw [S_congr (fun j hj => S_swap h r (fun z i => ind (z < P i j))), S_swap r c]
  refine S_congr (fun j hj => S_congr (fun i hi => ?_))
  exact S_below (p.le i hi j hj)

def mir (P : Nat → Nat → Nat) (j i : Nat) : Nat := P i j

theorem Pil.mir {r c h : Nat} {P : Nat → Nat → Nat} (p : Pil r c h P) : Pil c r h (mir P) where
  r1 := p.c1
  r8 := p.c8
  c1 := p.r1
  c8 := p.r8
  h1 := p.h1
  h8 := p.h8
  le := fun j hj i hi => p.le i hi j hj
  row := fun j hj i hi => p.col i hi j hj
  col := fun j hj i hi => p.row i hi j hj

def rst (r c h : Nat) (P : Nat → Nat → Nat) (i j : Nat) : Nat := h - P (r - 1 - i) (c - 1 - j)

theorem Pil.rst {r c h : Nat} {P : Nat → Nat → Nat} (p : Pil r c h P) : Pil r c h (rst r c h P) where
  r1 := p.r1
  r8 := p.r8
  c1 := p.c1
  c8 := p.c8
  h1 := p.h1
  h8 := p.h8
  le := fun i _ j _ => Nat.sub_le _ _
  row := fun i hi j hj => by
    have h1 := p.row (r - 1 - i) (by omega) (c - 1 - (j + 1)) (by omega)
    have e : c - 1 - (j + 1) + 1 = c - 1 - j := by omega
    rw [e] at h1
    unfold YtpdlhnniibjfaaiDoor.rst
    omega
  col := fun i hi j hj => by
    have h1 := p.col (r - 1 - (i + 1)) (by omega) (c - 1 - j) (by omega)
    have e : r - 1 - (i + 1) + 1 = r - 1 - i := by omega
    rw [e] at h1
    unfold YtpdlhnniibjfaaiDoor.rst
    omega

theorem rst_two {r c h : Nat} {P : Nat → Nat → Nat} (p : Pil r c h P) {i j : Nat} (hi : i < r) (hj : j < c) : rst r c h (rst r c h P) i j = P i j := by
  unfold rst
  have e1 : r - 1 - (r - 1 - i) = i := by omega
  have e2 : c - 1 - (c - 1 - j) = j := by omega
  rw [e1, e2]
  have := p.le i hi j hj
  omega

theorem S_front : ∀ (n : Nat) (f : Nat → Nat), S (n + 1) f = f 0 + S n (fun i => f (i + 1))
  | 0, f => by simp [S]
  | n + 1, f => by
    rw [show S (n + 1 + 1) f = S (n + 1) f + f (n + 1) from rfl, S_front n f, show S (n + 1) (fun i => f (i + 1)) = S n (fun i => f (i + 1)) + f (n + 1) from rfl]
    omega
theorem S_rev : ∀ (n : Nat) (f : Nat → Nat), S n (fun i => f (n - 1 - i)) = S n f
  | 0, _ => rfl
  | n + 1, f => by
    rw [S_front, show S (n + 1) f = S n f + f n from rfl, ← S_rev n f]
    have : S n (fun i => f (n + 1 - 1 - (i + 1))) = S n (fun i => f (n - 1 - i)) := S_congr (fun i hi => by congr 1; omega)
    rw [this]
    simp only [Nat.add_sub_cancel, Nat.sub_zero]
    omega
theorem S_const (n a : Nat) : S n (fun _ => a) = n * a := by
  induction n with
  | zero => simp [S]
  | succ n ih => rw [show S (n + 1) (fun _ => a) = S n (fun _ => a) + a from rfl, ih, Nat.succ_mul]

theorem rst_vol {r c h : Nat} {P : Nat → Nat → Nat} (p : Pil r c h P) : vol r c P + vol r c (rst r c h P) = r * c * h := by
  have e1 : vol r c (rst r c h P) = S r fun i => S c fun j => h - P i j := by
    unfold vol rst
    rw [← S_rev r (fun i => S c fun j => h - P i j)]
    refine S_congr (fun i hi => ?_)
    exact S_rev c (fun j => h - P (r - 1 - i) j)
  rw [e1]
  unfold vol
  rw [← S_add, S_congr (fun i hi => (S_add c _ _).symm), S_congr (g := fun _ => c * h) (fun i hi => ?_), S_const, Nat.mul_assoc]
  rw [S_congr (g := fun _ => h) (fun j hj => ?_), S_const]
  have := p.le i hi j hj
  omega

theorem vol_le {r c h : Nat} {P : Nat → Nat → Nat} (p : Pil r c h P) : vol r c P ≤ 512 := by
  have h1 := rst_vol p
  have h2 := Nat.mul_le_mul (Nat.mul_le_mul p.r8 p.c8) p.h8
  omega

end Go.Proofs.YtpdlhnniibjfaaiDoor
