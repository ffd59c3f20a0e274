/-
  One box less: the numbers of standard tableaux of what is below come together to that of the partition (FRAME, ROBINSON, THRALL); the squares of a size come to its permutations.
-/
import Derived.Test.YtmbpcapjldbkbaaDoorHSqr
import Derived.Test.YtmbpcapjldbkbaaDoorWStd
namespace Go.Proofs.YtmbpcapjldbkbaaDoor
open Go.RowKit

theorem stdN_fsd {zs : List Int} (h : IsPt zs) {M : Nat} (hM : zs.length ≤ M) : ((stdN zs : Nat) : Int) = fsd (szN zs) M (fun k => (xs (pF zs) M k : Int)) := by
  have e := hook_fsd (P := pF zs) M (szN zs) (pF_anti h) (szN_sum hM)
  rw [← hkR_prod h hM, ← upTo_prod, ← stdN_prod h] at e
  have hp : ((pL (hkR zs).flatten : Nat) : Int) ≠ 0 := by have := pL_pos (hkR_pos zs); omega
  rw [Int.natCast_mul, Int.mul_comm ((stdN zs : Nat) : Int)] at e
  exact (Int.eq_of_mul_eq_mul_left hp e).symm
theorem pt_mk {qs : List Int} (hg : PtGoes 1 0 qs) (hs : sum qs ≤ 40) : IsPt qs := pt_of (by
  have h0 : ∀ z ∈ qs, 0 ≤ z := fun z hz => by
    obtain ⟨j, hj, rfl⟩ := List.mem_iff_getElem.1 hz
    have := (hg j hj).1
    simp [List.getD, hj] at this
    omega
  unfold ptC
  rw [if_pos (ptGoB_pos hg), if_neg (by have := ptRoom_of qs 40 h0 hs; omega)])
/-- One box less in row i. -/
def lowQ (zs : List Int) (i : Nat) : List Int := if zs.getD i 0 = 1 then zs.take i else zs.set i (zs.getD i 0 - 1)
theorem lowQ_len (zs : List Int) (i : Nat) : (lowQ zs i).length ≤ zs.length := by
  unfold lowQ; split
  · simp; omega
  · simp
theorem pF_low {zs : List Int} (h : IsPt zs) {i : Nat} (hi : i < zs.length) (hc : pF zs (i + 1) < pF zs i) (r : Nat) : pF (lowQ zs i) r = lessB (pF zs) i r := by
  have hz := pF_cast h i
  unfold lowQ lessB
  split
  · rename_i h1
    have hl : i + 1 = zs.length := by
      rcases Nat.lt_or_ge (i + 1) zs.length with q | q
      · have := pF_pos h q; omega
      · omega
    rcases Nat.lt_trichotomy r i with q | q | q
    · rw [if_neg (by omega)]; unfold pF; rw [List.getD, List.getD, List.getElem?_take, if_pos q]
    · rw [if_pos q, pF_out (by simp; omega)]; omega
    · rw [if_neg (by omega), pF_out (by simp; omega), pF_out (by omega)]
  · by_cases q : r = i
    · subst r
      rw [if_pos rfl]
      unfold pF
      rw [List.getD, List.getElem?_set, if_pos rfl, if_pos hi]
      simp only [Option.getD_some]
      omega
    · rw [if_neg q]
      unfold pF
      rw [List.getD, List.getElem?_set, if_neg (fun e => q e.symm), ← List.getD]
theorem low_pt {zs : List Int} (h : IsPt zs) {i : Nat} (hi : i < zs.length) (hc : pF zs (i + 1) < pF zs i) : IsPt (lowQ zs i) := by
  have hz := pF_cast h i
  have hat : ∀ j, j < (lowQ zs i).length → (lowQ zs i).getD j 0 = (lessB (pF zs) i j : Int) ∧ 0 < lessB (pF zs) i j := fun j hj => by
    have hp := pF_low h hi hc j
    have hj' : j < zs.length := by have := lowQ_len zs i; omega
    have hpos := pF_pos h hj'
    have : 0 < lessB (pF zs) i j := by
      unfold lessB
      split
      · subst j
        rcases Nat.lt_or_ge 1 (pF zs i) with q | q
        · omega
        · exfalso
          unfold lowQ at hj
          rw [if_pos (by omega)] at hj
          simp at hj
          omega
      · exact hpos
    rw [← hp] at this ⊢
    unfold pF at this ⊢
    omega
  refine pt_mk (fun j hj => ⟨?_, fun h0 => ?_⟩) ?_
  · have := hat j hj; omega
  · have h1 := hat j hj
    have h2 := hat (j - 1) (by omega)
    have h3 := lessB_anti (pF_anti h) hc (j - 1)
    rw [show j - 1 + 1 = j by omega] at h3
    omega
  · have h0 : ∀ z ∈ lowQ zs i, 0 ≤ z := fun z hz => by
      obtain ⟨j, hj, rfl⟩ := List.mem_iff_getElem.1 hz
      have := (hat j hj).1
      simp [List.getD, hj] at this
      omega
    rw [sum_sZ _ h0, szN_sum (Nat.le_refl _), ← szN_sum (lowQ_len zs i), sZ_congr _ (fun r _ => by rw [pF_low h hi hc r]), sum_dn (by omega) _ hi, ← sum_sZ zs (fun z hz => by have := h.range z hz; omega)]
    have := ptRoom_sum zs 40 h.fits
    have := h.fits
    omega
theorem low_size {zs : List Int} (h : IsPt zs) {i : Nat} (hi : i < zs.length) (hc : pF zs (i + 1) < pF zs i) : szN (lowQ zs i) + 1 = szN zs := by
  have e1 := szN_sum (lowQ_len zs i)
  have e2 := szN_sum (Nat.le_refl zs.length)
  rw [sZ_congr _ (fun r _ => by rw [pF_low h hi hc r]), sum_dn (by omega) _ hi, e2] at e1
  omega
/-- What is below, as package hooks lists it. -/
def belowL (zs : List Int) : List (List Int) := (List.range zs.length).flatMap fun i => if zs.getD (i + 1) 0 = zs.getD i 0 then [] else [lowQ zs i]
theorem sumZ_flat (g : List Int → Nat) (f : Nat → List (List Int)) : ∀ m, (((((List.range m).flatMap f).map g).sum : Nat) : Int) = sZ (fun i => ((((f i).map g).sum : Nat) : Int)) m
  | 0 => rfl
  | m + 1 => by rw [List.range_succ, List.flatMap_append, List.map_append, List.sum_append, sZ, ← sumZ_flat g f m]; simp
theorem below_sum {zs : List Int} (h : IsPt zs) (hne : zs ≠ []) : ((belowL zs).map stdN).sum = stdN zs := by
  have hs : ∃ n, szN zs = n + 1 := by
    have hl : 0 < zs.length := List.length_pos_iff.2 hne
    have e := szN_sum (Nat.le_refl zs.length)
    have hp := pF_pos h hl
    obtain ⟨d, hd⟩ : ∃ d, zs.length = d + 1 := ⟨zs.length - 1, by omega⟩
    have h1 : sZ (fun i => if i = 0 then (1 : Int) else 0) zs.length ≤ sZ (fun i => (pF zs i : Int)) zs.length := sZ_mono _ fun i hi => by
      split
      · subst i; omega
      · omega
    have h2 : ∀ d, sZ (fun i => if i = 0 then (1 : Int) else 0) (d + 1) = 1 := by
      intro d
      induction d with
      | zero => rfl
      | succ d ih => rw [sZ, ih]; rfl
    rw [hd, h2, ← hd] at h1
    exact ⟨szN zs - 1, by omega⟩
  obtain ⟨n, hn⟩ := hs
  have e := stdN_fsd h (Nat.le_refl zs.length)
  rw [hn, fsd_rows n (pF_out (Nat.le_refl _))] at e
  refine Int.ofNat_inj.1 ?_
  show (((((belowL zs).map stdN).sum : Nat)) : Int) = ((stdN zs : Nat) : Int)
  rw [e, belowL, sumZ_flat]
  refine sZ_congr _ fun i hi => ?_
  have h1 := pF_cast h i
  have h2 := pF_cast h (i + 1)
  have h3 := pF_anti h i
  by_cases hc : pF zs (i + 1) < pF zs i
  · rw [if_pos hc, if_neg (by omega)]
    have hq := stdN_fsd (low_pt h hi hc) (lowQ_len zs i)
    have hz := low_size h hi hc
    rw [show szN (lowQ zs i) = n by omega] at hq
    simp only [List.map_cons, List.map_nil, List.sum_cons, List.sum_nil, Nat.add_zero]
    rw [hq]
    exact fsd_congr n _ fun k _ => by simp only [xs, pF_low h hi hc]
  · rw [if_neg hc, if_pos (by omega)]
    rfl

end Go.Proofs.YtmbpcapjldbkbaaDoor
