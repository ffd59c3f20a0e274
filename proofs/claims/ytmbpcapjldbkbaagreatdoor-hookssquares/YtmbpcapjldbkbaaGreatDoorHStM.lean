/-
  Plain mathematics: what the search for standard tableaux lists has the shape.
-/
import Derived.Test.YtmbpcapjldbkbaaGreatDoorHStS
namespace Go.Proofs.YtmbpcapjldbkbaaGreatDoor

theorem stS_mem (P : Nat → Nat) (m : Nat) : ∀ (n : Nat) (t : List (List Nat)) (c : Nat), t.length = m → (∀ i, i < m → lnN t i ≤ P i) → sZ (fun i => ((P i : Nat) : Int)) m = n + sZ (fun i => ((lnN t i : Nat) : Int)) m → (∀ l ∈ t, ∀ z ∈ l, z < c) →
    ∀ u ∈ stS P m n t c, u.length = m ∧ (∀ i, i < m → lnN u i = P i) ∧ ∀ l ∈ u, ∀ z ∈ l, z < c + n
  | 0, t, c, ht, hle, hs, hb, u, hu => by
    rw [stS, List.mem_singleton] at hu
    subst hu
    refine ⟨ht, fun i hi => ?_, hb⟩
    have := sZ_tight (f := fun i => ((lnN u i : Nat) : Int)) (g := fun i => ((P i : Nat) : Int)) m (fun i hi => by have := hle i hi; omega) (by rw [hs]; simp) i hi
    omega
  | n + 1, t, c, ht, hle, hs, hb, u, hu => by
    rw [stS, List.mem_flatMap] at hu
    obtain ⟨i, hi, hu⟩ := hu
    have hi := List.mem_range.1 hi
    by_cases h : canN P t i = true
    · rw [if_pos h] at hu
      have hl := hle i hi
      have hlt : lnN t i < P i := by
        unfold canN at h
        simp only [Bool.and_eq_true, decide_eq_true_eq] at h
        have := h.1
        omega
      have hE := lnN_end (c := c) (show i < t.length by omega)
      have h1 : ∀ r, r < m → lnN (endN t i c) r ≤ P r := fun r hr => by
        rw [hE]; unfold moreB
        split
        · subst r; omega
        · exact hle r hr
      have h2 : sZ (fun i => ((P i : Nat) : Int)) m = n + sZ (fun r => ((lnN (endN t i c) r : Nat) : Int)) m := by
        rw [hE, hs]
        have hm : lessB (moreB (lnN t) i) i = lnN t := by
          funext r; unfold lessB moreB
          by_cases e : r = i
          · subst r; simp
          · rw [if_neg e, if_neg e]
        have := sum_dn (y := moreB (lnN t) i) (k := i) (by unfold moreB; rw [if_pos rfl]; omega) m hi
        rw [hm] at this
        omega
      have h3 : ∀ l ∈ endN t i c, ∀ z ∈ l, z < c + 1 := fun l hl z hz => by
        unfold endN at hl
        rcases List.mem_or_eq_of_mem_set hl with q | q
        · have := hb l q z hz; omega
        · rw [q, List.mem_append, List.mem_singleton] at hz
          rcases hz with y1 | y1
          · unfold rwN at y1
            rw [List.getD, List.getElem?_eq_getElem (show i < t.length by omega)] at y1
            have := hb _ (List.getElem_mem _) z y1
            omega
          · omega
      have := stS_mem P m n (endN t i c) (c + 1) (by rw [endN_len]; exact ht) h1 h2 h3 u hu
      refine ⟨this.1, this.2.1, fun l hl z hz => ?_⟩
      have := this.2.2 l hl z hz
      omega
    · rw [if_neg h] at hu; cases hu
/-- All standard tableaux of a shape, as package fill lists them. -/
def stAll (zs : List Int) : List (List (List Nat)) := stS (pF zs) zs.length (szN zs) (List.replicate zs.length []) 1
theorem stAll_sum {zs : List Int} : sZ (fun i => ((pF zs i : Nat) : Int)) zs.length = szN zs + sZ (fun i => ((lnN (List.replicate zs.length []) i : Nat) : Int)) zs.length := by
  have hs := szN_sum (Nat.le_refl zs.length)
  have h0 : sZ (fun i => ((lnN (List.replicate zs.length []) i : Nat) : Int)) zs.length = 0 := sZ_zero fun i _ => by rw [sum_zero_ln]; rfl
  rw [h0, hs]; omega
theorem stAll_mem {zs : List Int} : ∀ u ∈ stAll zs, u.length = zs.length ∧ (∀ i, i < zs.length → lnN u i = pF zs i) ∧ ∀ l ∈ u, ∀ z ∈ l, z < 1 + szN zs := fun u hu =>
  stS_mem (pF zs) zs.length (szN zs) (List.replicate zs.length []) 1 (by simp) (fun i _ => by rw [sum_zero_ln]; exact Nat.zero_le _) stAll_sum (fun l hl z hz => by rw [List.eq_of_mem_replicate hl] at hz; cases hz) u hu
theorem szN_few {zs : List Int} (h : IsPt zs) : szN zs ≤ 1600 := by
  have h1 := szN_sum (Nat.le_refl zs.length)
  have h2 : ∀ m, sZ (fun i => ((pF zs i : Nat) : Int)) m ≤ 40 * m := fun m => by
    induction m with
    | zero => simp [sZ]
    | succ m ih => rw [sZ]; have := pF_le h m; omega
  have := h2 zs.length
  have := h.len
  omega
theorem stAll_row {zs : List Int} (h : IsPt zs) : ∀ u ∈ stAll zs, ∀ l ∈ u, l.length ≤ 40 ∧ ∀ z ∈ l, z ≤ 1600 := fun u hu l hl => by
  obtain ⟨h1, h2, h3⟩ := stAll_mem u hu
  obtain ⟨i, hi, rfl⟩ := List.mem_iff_getElem.1 hl
  have h4 := h2 i (by omega)
  unfold lnN rwN at h4
  rw [List.getD, List.getElem?_eq_getElem hi] at h4
  have := pF_le h i
  refine ⟨?_, fun z hz => by have := h3 _ hl z hz; have := szN_few h; omega⟩
  simp only [Option.getD_some] at h4
  omega
theorem stAll_lens {zs : List Int} {u v : List (List Nat)} (hu : u ∈ stAll zs) (hv : v ∈ stAll zs) : u.map List.length = v.map List.length := by
  have key : ∀ u ∈ stAll zs, u.map List.length = (List.range zs.length).map (pF zs) := fun u hu => by
    obtain ⟨h1, h2, _⟩ := stAll_mem u hu
    refine List.ext_getElem (by simp [h1]) fun i i1 i2 => ?_
    have h4 := h2 i (by simpa using i2)
    unfold lnN rwN at h4
    rw [List.getD, List.getElem?_eq_getElem (by simpa using i1)] at h4
    simpa using h4
  rw [key u hu, key v hv]

end Go.Proofs.YtmbpcapjldbkbaaGreatDoor
