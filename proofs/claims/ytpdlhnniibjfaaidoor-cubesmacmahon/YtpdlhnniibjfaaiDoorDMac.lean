/-
  All piles of a room, place by place: plain mathematics. They are as many as the tableaux of a rectangle (MACMAHON, by STANLEY'S formula).
-/
import Derived.Test.YtpdlhnniibjfaaiDoorDMth
import Derived.Test.YtpdlhnniibjfaaiDoorHMem
namespace Go.Proofs.YtpdlhnniibjfaaiDoor

/-- how many cubes may lie at place q, by what lies ahead -/
def moX (C H : Nat) (X : List Nat) (q : Nat) : Nat :=
  let m := if 0 < q % C then min H (X.getD (q - 1) 0) else H
  if C ≤ q then min m (X.getD (q - C) 0) else m
/-- the piles, place by place -/
def sr (C H : Nat) : Nat → List Nat → List (List Nat)
  | 0, X => [X]
  | d + 1, X => (List.range (moX C H X X.length + 1)).flatMap fun n => sr C H d (X ++ [n])

theorem getD_app {X : List Nat} {n q : Nat} (h : q < X.length) (Y : List Nat) : (X ++ n :: Y).getD q 0 = X.getD q 0 := by
  simp [List.getD, List.getElem?_append_left h]
theorem moX_same {C H : Nat} {X Y : List Nat} {q : Nat} (hC : 1 ≤ C) (h : ∀ t, t < q → X.getD t 0 = Y.getD t 0) : moX C H X q = moX C H Y q := by
  unfold moX
  simp only []
  by_cases h1 : 0 < q % C
  · have hq : 0 < q := by rcases Nat.eq_zero_or_pos q with e | e
                          · subst e; simp at h1
                          · exact e
    rw [if_pos h1, if_pos h1, h (q - 1) (by omega)]
    by_cases h2 : C ≤ q
    · rw [if_pos h2, if_pos h2, h (q - C) (by omega)]
    · rw [if_neg h2, if_neg h2]
  · rw [if_neg h1, if_neg h1]
    by_cases h2 : C ≤ q
    · rw [if_pos h2, if_pos h2, h (q - C) (by omega)]
    · rw [if_neg h2, if_neg h2]

theorem mem_sr {C H : Nat} (hC : 1 ≤ C) : ∀ (d : Nat) (X Y : List Nat), Y ∈ sr C H d X ↔ Y.length = X.length + d ∧ (∀ t, t < X.length → Y.getD t 0 = X.getD t 0) ∧ ∀ q, X.length ≤ q → q < Y.length → Y.getD q 0 ≤ moX C H Y q
  | 0, X, Y => by
    simp only [sr, List.mem_singleton]
    constructor
    · rintro rfl; exact ⟨rfl, fun _ _ => rfl, fun q h1 h2 => by omega⟩
    · rintro ⟨h1, h2, _⟩
      refine List.ext_getElem (by omega) (fun t a b => ?_)
      have := h2 t b
      simpa [List.getD, List.getElem?_eq_getElem a, List.getElem?_eq_getElem b] using this
  | d + 1, X, Y => by
    simp only [sr, List.mem_flatMap, List.mem_range]
    constructor
    · rintro ⟨n, hn, hY⟩
      obtain ⟨h1, h2, h3⟩ := (mem_sr hC d _ _).1 hY
      rw [List.length_append, List.length_singleton] at h1 h2 h3
      have hX : ∀ t, t < X.length → Y.getD t 0 = X.getD t 0 := fun t ht => by rw [h2 t (by omega), getD_app ht]
      have hn2 : Y.getD X.length 0 = n := by rw [h2 _ (by omega)]; simp [List.getD]
      refine ⟨by omega, hX, fun q hq1 hq2 => ?_⟩
      by_cases e : q = X.length
      · subst e
        rw [hn2, moX_same hC (Y := X) hX]; omega
      · exact h3 q (by omega) hq2
    · rintro ⟨h1, h2, h3⟩
      refine ⟨Y.getD X.length 0, ?_, (mem_sr hC d _ _).2 ⟨by rw [List.length_append, List.length_singleton]; omega, fun t ht => ?_, fun q hq1 hq2 => h3 q (by rw [List.length_append, List.length_singleton] at hq1; omega) hq2⟩⟩
      · have := h3 X.length (Nat.le_refl _) (by omega)
        rw [moX_same hC (Y := X) h2] at this; omega
      · rw [List.length_append, List.length_singleton] at ht
        by_cases e : t = X.length
        · subst e; simp [List.getD]
        · rw [getD_app (by omega)]; exact h2 t (by omega)

theorem nodup_sr {C H : Nat} (hC : 1 ≤ C) : ∀ (d : Nat) (X : List Nat), (sr C H d X).Nodup
  | 0, X => by simp [sr]
  | d + 1, X => by
    simp only [sr]
    have hv : ∀ n Y, Y ∈ sr C H d (X ++ [n]) → Y.getD X.length 0 = n := fun n Y hY => by
      obtain ⟨_, h2, _⟩ := (mem_sr hC d _ _).1 hY
      rw [h2 _ (by simp)]; simp [List.getD]
    exact nodup_flat _ _ List.nodup_range (fun n _ => nodup_sr hC d _) (fun x _ y _ hxy z hz hz' => hxy ((hv x z hz).symm.trans (hv y z hz')))

/-- a pile, place by place -/
theorem pil_sr {R C H : Nat} (hC : 1 ≤ C) {Y : List Nat} : Y ∈ sr C H (R * C) [] ↔ Y.length = R * C ∧ ∀ i, i < R → ∀ j, j < C → Y.getD (i * C + j) 0 ≤ H ∧ (0 < j → Y.getD (i * C + j) 0 ≤ Y.getD (i * C + (j - 1)) 0) ∧ (0 < i → Y.getD (i * C + j) 0 ≤ Y.getD ((i - 1) * C + j) 0) := by
  rw [mem_sr hC]
  have key : ∀ i j, j < C → ∀ z, (z ≤ moX C H Y (i * C + j) ↔ z ≤ H ∧ (0 < j → z ≤ Y.getD (i * C + (j - 1)) 0) ∧ (0 < i → z ≤ Y.getD ((i - 1) * C + j) 0)) := fun i j hj z => by
    have e1 : (i * C + j) % C = j := by rw [Nat.mul_comm, Nat.mul_add_mod, Nat.mod_eq_of_lt hj]
    have e2 : C ≤ i * C + j ↔ 0 < i := by
      constructor
      · intro h
        rcases Nat.eq_zero_or_pos i with e | e
        · subst e; omega
        · exact e
      · intro h
        have : 1 * C ≤ i * C := Nat.mul_le_mul_right _ h
        omega
    unfold moX
    simp only []
    rw [e1]
    by_cases h1 : 0 < j
    · rw [if_pos h1, show i * C + j - 1 = i * C + (j - 1) by omega]
      by_cases h2 : 0 < i
      · have e3 : i * C + j - C = (i - 1) * C + j := by
          obtain ⟨k, rfl⟩ : ∃ k, i = k + 1 := ⟨i - 1, by omega⟩
          rw [Nat.add_sub_cancel, Nat.succ_mul]; omega
        rw [if_pos (e2.2 h2), e3]
        omega
      · rw [if_neg (fun h => h2 (e2.1 h))]; omega
    · rw [if_neg h1]
      by_cases h2 : 0 < i
      · have e3 : i * C + j - C = (i - 1) * C + j := by
          obtain ⟨k, rfl⟩ : ∃ k, i = k + 1 := ⟨i - 1, by omega⟩
          rw [Nat.add_sub_cancel, Nat.succ_mul]; omega
        rw [if_pos (e2.2 h2), e3]
        omega
      · rw [if_neg (fun h => h2 (e2.1 h))]; omega
  have hlt : ∀ i j, i < R → j < C → i * C + j < R * C := fun i j hi hj => by
    have : (i + 1) * C ≤ R * C := Nat.mul_le_mul_right _ hi
    rw [Nat.succ_mul] at this; omega
  constructor
  · rintro ⟨h1, _, h3⟩
    refine ⟨by simpa using h1, fun i hi j hj => ?_⟩
    exact (key i j hj _).1 (h3 _ (by simp) (by rw [h1]; have := hlt i j hi hj; simp; omega))
  · rintro ⟨h1, h3⟩
    refine ⟨by simpa using h1, fun t ht => absurd ht (by simp), fun q _ hq => ?_⟩
    have hq2 : q = (q / C) * C + q % C := by rw [Nat.mul_comm]; exact (Nat.div_add_mod q C).symm
    have hi : q / C < R := Nat.div_lt_of_lt_mul (by rw [Nat.mul_comm]; omega)
    have hj : q % C < C := Nat.mod_lt _ hC
    rw [hq2]
    exact (key _ _ hj _).2 (h3 _ hi _ hj)

end Go.Proofs.YtpdlhnniibjfaaiDoor
