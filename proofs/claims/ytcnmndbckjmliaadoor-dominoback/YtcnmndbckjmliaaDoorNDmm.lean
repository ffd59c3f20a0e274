/-
  Plain: points of a sheet found row by row; blocks that may be turned; the diamonds.
-/
import Derived.Test.YtcnmndbckjmliaaDoorNPr
import Derived.Test.YtcnmndbckjmliaaDoorNDom
namespace Go.Proofs.YtcnmndbckjmliaaDoor
open Go.RowKit

theorem tx_zero (c : Nat) (f : Nat → UInt8) : tx 0 c f = [] := rfl
theorem join_snocz : ∀ (l : List (List UInt8)) (x : List UInt8), l ≠ [] → Lib.join (l ++ [x]) [47] = Lib.join l [47] ++ 47 :: x
  | [], _, h => absurd rfl h
  | [y], x, _ => by rw [List.cons_append, List.nil_append, join_twoz, Lib.join_one, Lib.join_one]
  | y :: z :: l, x, _ => by
    rw [List.cons_append, List.cons_append, join_twoz, join_twoz, ← List.cons_append, join_snocz (z :: l) x (by simp)]
    simp
/-- One row of a sheet. -/
def rwo (c : Nat) (f : Nat → UInt8) (i : Nat) : List UInt8 := (List.range c).map fun j => f (i * 8 + j)
theorem rwo_length (c : Nat) (f : Nat → UInt8) (i : Nat) : (rwo c f i).length = c := by simp [rwo]
theorem rwo_succ (c : Nat) (f : Nat → UInt8) (i : Nat) : rwo (c + 1) f i = rwo c f i ++ [f (i * 8 + c)] := by
  unfold rwo; rw [List.range_succ, List.map_append]; rfl
theorem rwz_snoc (r c : Nat) (f : Nat → UInt8) : rwz (r + 1) c f = rwz r c f ++ [rwo c f r] := by
  unfold rwz rwo; rw [List.range_succ, List.map_append]; rfl
theorem tx_snoc (r c : Nat) (f : Nat → UInt8) : tx (r + 2) c f = tx (r + 1) c f ++ 47 :: rwo c f (r + 1) := by
  unfold tx
  rw [rwz_snoc (r + 1)]
  apply join_snocz
  intro e
  have := rwz_length (r + 1) c f
  rw [e] at this; simp at this
theorem tx_first (c : Nat) (f : Nat → UInt8) : tx 1 c f = rwo c f 0 := by
  rw [tx_one]; unfold rwo
  apply List.map_congr_left; intro j _; congr 1; omega

/-- The points that are found, row by row. -/
def rowP (q : Nat → Nat → Bool) (i c : Nat) : List (Int × Int) := ((List.range c).filter (q i)).map fun (j : Nat) => ((j : Int), (i : Int))
def flp (q : Nat → Nat → Bool) (r c : Nat) : List (Int × Int) := (List.range r).flatMap fun i => rowP q i c
theorem rowP_succ (q : Nat → Nat → Bool) (i c : Nat) : rowP q i (c + 1) = rowP q i c ++ (if q i c = true then [((c : Int), (i : Int))] else []) := by
  unfold rowP
  rw [List.range_succ, List.filter_append, List.map_append]
  congr 1
  by_cases h : q i c = true
  · simp [h]
  · simp [h]
theorem flp_succ (q : Nat → Nat → Bool) (r c : Nat) : flp q (r + 1) c = flp q r c ++ rowP q r c := by
  unfold flp; rw [List.range_succ, List.flatMap_append]; simp
theorem rowP_length (q : Nat → Nat → Bool) (i c : Nat) : (rowP q i c).length ≤ c := by
  unfold rowP
  rw [List.length_map]
  have := List.length_filter_le (q i) (List.range c)
  simpa using this
theorem flp_length (q : Nat → Nat → Bool) : ∀ r c, (flp q r c).length ≤ r * c
  | 0, c => by simp [flp]
  | r + 1, c => by
    rw [flp_succ, List.length_append, Nat.succ_mul]
    have := flp_length q r c
    have := rowP_length q r c
    omega
theorem rowP_congr {q q' : Nat → Nat → Bool} {i c : Nat} (h : ∀ j, j < c → q i j = q' i j) : rowP q i c = rowP q' i c := by
  unfold rowP
  congr 1
  apply List.filter_congr
  intro j hj
  exact h j (List.mem_range.1 hj)
theorem flp_congr {q q' : Nat → Nat → Bool} : ∀ {r c : Nat}, (∀ i, i < r → ∀ j, j < c → q i j = q' i j) → flp q r c = flp q' r c
  | 0, c, _ => rfl
  | r + 1, c, h => by
    rw [flp_succ, flp_succ, flp_congr (fun i hi => h i (by omega)), rowP_congr (h r (by omega))]
theorem rowP_none {q : Nat → Nat → Bool} {i c : Nat} (h : ∀ j, j < c → q i j = false) : rowP q i c = [] := by
  unfold rowP
  have : (List.range c).filter (q i) = [] := by
    rw [List.filter_eq_nil_iff]
    intro j hj; rw [h j (List.mem_range.1 hj)]; simp
  rw [this]; rfl
theorem mem_flp (q : Nat → Nat → Bool) (r c : Nat) (x y : Int) : (x, y) ∈ flp q r c ↔ ∃ i j : Nat, i < r ∧ j < c ∧ q i j = true ∧ x = (j : Int) ∧ y = (i : Int) := by
  unfold flp rowP
  simp only [List.mem_flatMap, List.mem_range, List.mem_map, List.mem_filter, Prod.mk.injEq]
  constructor
  · rintro ⟨i, hi, j, ⟨hj, hq⟩, e1, e2⟩
    exact ⟨i, j, hi, hj, hq, e1.symm, e2.symm⟩
  · rintro ⟨i, j, hi, hj, hq, e1, e2⟩
    exact ⟨i, hi, j, ⟨hj, hq⟩, e1.symm, e2.symm⟩
/-- The last row and the last column have none. -/
theorem flp_trim {q : Nat → Nat → Bool} {r c : Nat} (h1 : ∀ i j, i < r + 1 → j < c + 1 → (i = r ∨ j = c) → q i j = false) : flp q (r + 1) (c + 1) = flp q r c := by
  rw [flp_succ, rowP_none (fun j hj => h1 r j (by omega) hj (Or.inl rfl)), List.append_nil]
  have key : ∀ r', r' ≤ r → flp q r' (c + 1) = flp q r' c := by
    intro r'
    induction r' with
    | zero => intro _; rfl
    | succ r' ih =>
      intro hr
      rw [flp_succ, flp_succ, ih (by omega), rowP_succ, h1 r' c (by omega) (by omega) (Or.inr rfl)]
      simp
  exact key r (Nat.le_refl _)

/-- A sheet is a tiling. -/
def OkT (r c : Nat) (f : Nat → UInt8) : Prop := ∀ i, i < r → ∀ j, j < c → prB r c f i j = true
/-- Do two dominoes cover the block? -/
def qR (f : Nat → UInt8) (i j : Nat) : Bool := (f (i * 8 + j) == 108 && f (i * 8 + (j + 1)) == 114 && f ((i + 1) * 8 + j) == 108 && f ((i + 1) * 8 + (j + 1)) == 114) || (f (i * 8 + j) == 117 && f (i * 8 + (j + 1)) == 117 && f ((i + 1) * 8 + j) == 100 && f ((i + 1) * 8 + (j + 1)) == 100)
theorem atB_nat (r c : Nat) (f : Nat → UInt8) (i j : Nat) : atB r c f (i : Int) (j : Int) = if i < r ∧ j < c then f (i * 8 + j) else 46 := by
  unfold atB
  by_cases h : i < r ∧ j < c
  · rw [if_pos h, if_pos (by omega)]; rfl
  · rw [if_neg h, if_neg (by omega)]
theorem mt_iff {r c : Nat} {f : Nat → UInt8} (ok : OkT r c f) (i j : Nat) (hi : i < r) (hj : j < c) : mtB r c f (i : Int) (j : Int) = true ↔ i + 1 < r ∧ j + 1 < c ∧ qR f i j = true := by
  have A0 : atB r c f (i : Int) (j : Int) = f (i * 8 + j) := by rw [atB_nat, if_pos ⟨hi, hj⟩]
  have A1 : atB r c f (i : Int) ((j : Int) + 1) = if i < r ∧ j + 1 < c then f (i * 8 + (j + 1)) else 46 := atB_nat r c f i (j + 1)
  have A2 : atB r c f ((i : Int) + 1) (j : Int) = if i + 1 < r ∧ j < c then f ((i + 1) * 8 + j) else 46 := atB_nat r c f (i + 1) j
  have k0 := ok i hi j hj
  unfold prB at k0
  unfold mtB
  rw [A0] at k0
  rw [A0]
  have n1 : (46 : UInt8) ≠ 108 := by decide
  have n2 : (46 : UInt8) ≠ 117 := by decide
  have n3 : (46 : UInt8) ≠ 114 := by decide
  have n4 : (46 : UInt8) ≠ 100 := by decide
  by_cases h1 : f (i * 8 + j) = 108
  · rw [if_pos h1, A1] at k0
    rw [if_pos h1, A2]
    have k1 := of_decide_eq_true k0
    by_cases a : i < r ∧ j + 1 < c
    · rw [if_pos a] at k1
      rw [decide_eq_true_iff]
      by_cases b : i + 1 < r ∧ j < c
      · rw [if_pos b]
        constructor
        · intro h
          have k2 := ok (i + 1) b.1 j hj
          have B0 : atB r c f ((i + 1 : Nat) : Int) (j : Int) = f ((i + 1) * 8 + j) := by rw [atB_nat, if_pos b]
          have B1 : atB r c f ((i + 1 : Nat) : Int) ((j : Int) + 1) = f ((i + 1) * 8 + (j + 1)) := (atB_nat r c f (i + 1) (j + 1)).trans (if_pos ⟨b.1, a.2⟩)
          unfold prB at k2
          rw [B0, if_pos h, B1] at k2
          have k3 := of_decide_eq_true k2
          refine ⟨b.1, a.2, ?_⟩
          unfold qR
          rw [h1, k1, h, k3]; rfl
        · rintro ⟨_, _, h⟩
          unfold qR at h
          simp only [Bool.or_eq_true, Bool.and_eq_true, beq_iff_eq] at h
          rcases h with h | h
          · exact h.1.2
          · exact absurd (h1.symm.trans h.1.1.1) (by decide)
      · rw [if_neg b]
        exact ⟨fun h => absurd h n1, fun h => absurd ⟨h.1, hj⟩ b⟩
    · rw [if_neg a] at k1; exact absurd k1 n3
  · rw [if_neg h1] at k0
    rw [if_neg h1]
    by_cases h2 : f (i * 8 + j) = 117
    · rw [if_pos h2, A1]
      have hne : ¬ (f (i * 8 + j) = 114) := by rw [h2]; decide
      rw [if_neg hne, if_pos h2, A2] at k0
      have k1 := of_decide_eq_true k0
      by_cases b : i + 1 < r ∧ j < c
      · rw [if_pos b] at k1
        rw [decide_eq_true_iff]
        by_cases a : i < r ∧ j + 1 < c
        · rw [if_pos a]
          constructor
          · intro h
            have k2 := ok i hi (j + 1) a.2
            have B0 : atB r c f (i : Int) ((j + 1 : Nat) : Int) = f (i * 8 + (j + 1)) := by rw [atB_nat, if_pos a]
            have B1 : atB r c f ((i : Int) + 1) ((j + 1 : Nat) : Int) = f ((i + 1) * 8 + (j + 1)) := (atB_nat r c f (i + 1) (j + 1)).trans (if_pos ⟨b.1, a.2⟩)
            unfold prB at k2
            rw [B0, if_neg (by rw [h]; decide), if_neg (by rw [h]; decide), if_pos h, B1] at k2
            have k3 := of_decide_eq_true k2
            refine ⟨b.1, a.2, ?_⟩
            unfold qR
            rw [h2, h, k1, k3]; rfl
          · rintro ⟨_, _, h⟩
            unfold qR at h
            simp only [Bool.or_eq_true, Bool.and_eq_true, beq_iff_eq] at h
            rcases h with h | h
            · exact absurd (h2.symm.trans h.1.1.1) (by decide)
            · exact h.1.1.2
        · rw [if_neg a]
          exact ⟨fun h => absurd h n2, fun h => absurd ⟨hi, h.2.1⟩ a⟩
      · rw [if_neg b] at k1; exact absurd k1 n4
    · rw [if_neg h2]
      constructor
      · intro h; cases h
      · rintro ⟨_, _, h⟩
        unfold qR at h
        simp only [Bool.or_eq_true, Bool.and_eq_true, beq_iff_eq] at h
        rcases h with h | h
        · exact absurd h.1.1.1 h1
        · exact absurd h.1.1.1 h2
theorem flips_eq {r c : Nat} {f : Nat → UInt8} (ok : OkT (r + 1) (c + 1) f) : flp (fun i j => mtB (r + 1) (c + 1) f (i : Int) (j : Int)) (r + 1) (c + 1) = flp (qR f) r c := by
  rw [flp_trim (fun i j hi hj h => by
    rw [← Bool.not_eq_true, mt_iff ok i j hi hj]
    rintro ⟨h1, h2, _⟩
    omega)]
  apply flp_congr
  intro i hi j hj
  rw [Bool.eq_iff_iff, mt_iff ok i j (by omega) (by omega)]
  exact ⟨fun h => h.2.2, fun h => ⟨by omega, by omega, h⟩⟩
theorem mem_flips {r c : Nat} {f : Nat → UInt8} (ok : OkT (r + 1) (c + 1) f) (x y : Int) : (x, y) ∈ flp (qR f) r c ↔ mtB (r + 1) (c + 1) f y x = true := by
  rw [mem_flp]
  constructor
  · rintro ⟨i, j, hi, hj, hq, rfl, rfl⟩
    exact (mt_iff ok i j (by omega) (by omega)).2 ⟨by omega, by omega, hq⟩
  · intro h
    have hin : 0 ≤ y ∧ y < ((r + 1 : Nat) : Int) ∧ 0 ≤ x ∧ x < ((c + 1 : Nat) : Int) := by
      rcases Classical.em (0 ≤ y ∧ y < ((r + 1 : Nat) : Int) ∧ 0 ≤ x ∧ x < ((c + 1 : Nat) : Int)) with q | q
      · exact q
      · unfold mtB at h
        rw [show atB (r + 1) (c + 1) f y x = 46 by unfold atB; rw [if_neg q], if_neg (by decide), if_neg (by decide)] at h
        cases h
    obtain ⟨i, rfl⟩ : ∃ i : Nat, y = (i : Int) := ⟨y.toNat, by omega⟩
    obtain ⟨j, rfl⟩ : ∃ j : Nat, x = (j : Int) := ⟨x.toNat, by omega⟩
    obtain ⟨h1, h2, h3⟩ := (mt_iff ok i j (by omega) (by omega)).1 h
    exact ⟨i, j, by omega, by omega, h3, rfl, rfl⟩

/-- Four letters of a block laid over a text. -/
def putL (L : List UInt8) (w x y : Nat) (a b d e : UInt8) : List UInt8 := (((L.set (y * w + x) a).set (y * w + (x + 1)) b).set ((y + 1) * w + x) d).set ((y + 1) * w + (x + 1)) e
def put4 (f : Nat → UInt8) (i j : Nat) (a b d e : UInt8) : Nat → UInt8 := upB (upB (upB (upB f (i * 8 + j) a) (i * 8 + (j + 1)) b) ((i + 1) * 8 + j) d) ((i + 1) * 8 + (j + 1)) e
theorem put_tx (r c : Nat) (f : Nat → UInt8) (x y : Nat) (hy : y + 1 < r + 1) (hx : x + 1 < c) (hc : c ≤ 8) (a b d e : UInt8) : putL (tx (r + 1) c f) (c + 1) x y a b d e = tx (r + 1) c (put4 f y x a b d e) := by
  unfold putL put4
  rw [tx_set r c f y x (by omega) (by omega) hc, tx_set r c _ y (x + 1) (by omega) hx hc, tx_set r c _ (y + 1) x hy (by omega) hc, tx_set r c _ (y + 1) (x + 1) hy hx hc]
  rfl
theorem put_lie (f : Nat → UInt8) (i j : Nat) : put4 f i j 108 114 108 114 = cvF f i j false := rfl
theorem put_stand (f : Nat → UInt8) (i j : Nat) : put4 f i j 117 117 100 100 = cvF f i j true := by
  funext k
  unfold put4 cvF up2 upB
  rw [if_pos rfl]
  by_cases h1 : k = (i + 1) * 8 + (j + 1)
  · rw [if_pos h1, if_pos h1]
  · rw [if_neg h1, if_neg h1]
    by_cases h2 : k = (i + 1) * 8 + j
    · rw [if_pos h2, if_neg (by omega), if_pos h2]
    · rw [if_neg h2, if_neg h2]
theorem cv_same {f : Nat → UInt8} {i j : Nat} (h : qR f i j = true) (h1 : f (i * 8 + j) = 108) : cvF f i j false = f := by
  unfold qR at h
  simp only [Bool.or_eq_true, Bool.and_eq_true, beq_iff_eq] at h
  have h2 : f (i * 8 + j) = 108 ∧ f (i * 8 + (j + 1)) = 114 ∧ f ((i + 1) * 8 + j) = 108 ∧ f ((i + 1) * 8 + (j + 1)) = 114 := by
    rcases h with h | h
    · exact ⟨h.1.1.1, h.1.1.2, h.1.2, h.2⟩
    · rw [h1] at h; exact absurd h.1.1.1 (by decide)
  funext k
  show (if k = (i + 1) * 8 + (j + 1) then _ else if k = (i + 1) * 8 + j then _ else if k = i * 8 + (j + 1) then _ else if k = i * 8 + j then _ else f k) = f k
  split
  · next e => rw [e]; exact h2.2.2.2.symm
  · split
    · next e => rw [e]; exact h2.2.2.1.symm
    · split
      · next e => rw [e]; exact h2.2.1.symm
      · split
        · next e => rw [e]; exact h2.1.symm
        · rfl
theorem cv_corner (f : Nat → UInt8) (i j : Nat) : cvF f i j false (i * 8 + j) = 108 := by
  show (if i * 8 + j = (i + 1) * 8 + (j + 1) then (114 : UInt8) else if i * 8 + j = (i + 1) * 8 + j then 108 else if i * 8 + j = i * 8 + (j + 1) then 114 else if i * 8 + j = i * 8 + j then 108 else f (i * 8 + j)) = 108
  rw [if_neg (by omega), if_neg (by omega), if_neg (by omega), if_pos rfl]
/-- The letters that Flip must lay: the other ones. -/
theorem flip_lie {r c : Nat} {f : Nat → UInt8} {i j : Nat} (hy : i + 1 < r + 1) (hx : j + 1 < c) (h : qR f i j = true) : decide (tx (r + 1) c (cvF f i j false) = tx (r + 1) c f) = (f (i * 8 + j) == 108) := by
  by_cases h1 : f (i * 8 + j) = 108
  · rw [cv_same h h1, h1]; simp
  · have h2 : ¬ tx (r + 1) c (cvF f i j false) = tx (r + 1) c f := by
      intro e
      have e1 := tx_get r c (cvF f i j false) i j (by omega) (by omega)
      rw [e, tx_get r c f i j (by omega) (by omega), cv_corner] at e1
      exact h1 (Option.some.inj e1)
    rw [decide_eq_false h2]
    symm
    simpa using h1

/-- The diamond of order n. -/
def dmB (n i j : Nat) : UInt8 := if n ≤ j + 1 + min i (2 * n - 1 - i) ∧ j ≤ n + min i (2 * n - 1 - i) then 35 else 46
def dmF (n k : Nat) : UInt8 := if k / 8 < 2 * n ∧ k % 8 < 2 * n then dmB n (k / 8) (k % 8) else 0
theorem dmF_at {n i j : Nat} (hi : i < 2 * n) (hj : j < 2 * n) (hn : n ≤ 4) : dmF n (i * 8 + j) = dmB n i j := by
  unfold dmF
  rw [show (i * 8 + j) / 8 = i by omega, show (i * 8 + j) % 8 = j by omega, if_pos ⟨hi, hj⟩]
theorem dm_far {n i j : Nat} (hi : i < 2 * n) (hj : j < 2 * n) : (max (2 * (i : Int) + 1 - 2 * (n : Int)) (-(2 * (i : Int) + 1 - 2 * (n : Int))) + max (2 * (j : Int) + 1 - 2 * (n : Int)) (-(2 * (j : Int) + 1 - 2 * (n : Int))) ≤ 2 * (n : Int)) ↔ dmB n i j = 35 := by
  have key : (max (2 * (i : Int) + 1 - 2 * (n : Int)) (-(2 * (i : Int) + 1 - 2 * (n : Int))) + max (2 * (j : Int) + 1 - 2 * (n : Int)) (-(2 * (j : Int) + 1 - 2 * (n : Int))) ≤ 2 * (n : Int)) ↔ (n ≤ j + 1 + min i (2 * n - 1 - i) ∧ j ≤ n + min i (2 * n - 1 - i)) := by omega
  rw [key]
  unfold dmB
  by_cases h : n ≤ j + 1 + min i (2 * n - 1 - i) ∧ j ≤ n + min i (2 * n - 1 - i)
  · rw [if_pos h]; exact ⟨fun _ => rfl, fun _ => h⟩
  · rw [if_neg h]; exact ⟨fun q => absurd q h, fun q => absurd q (by decide)⟩

end Go.Proofs.YtcnmndbckjmliaaDoor
