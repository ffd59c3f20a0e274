/-
  Ways, counted: what Apart counts along an order; the sum over all orders.
-/
import Derived.Test.YtapchcamjeafmaaDoorQMat
import Derived.Test.YtapchcamjeafmaaDoorQApt
namespace Go.Proofs.YtapchcamjeafmaaDoor

def wyZ (w : List Nat) : List Int := w.map fun (k : Nat) => (k : Int)
theorem ways_ok {n : Nat} (h : n ≤ 4) : ∀ p ∈ ordL n, wyF n (fun _ => false) (wyZ p.1) = true := by
  have key : (ordL n).all (fun p => wyF n (fun _ => false) (wyZ p.1)) = true := by
    match n, h with
    | 0, _ => decide
    | 1, _ => decide
    | 2, _ => decide
    | 3, _ => decide
    | 4, _ => decide +kernel
  intro p hp
  exact List.all_eq_true.1 key p hp
theorem way_len {n : Nat} {p : List Nat × Int} (hp : p ∈ ordL n) : (wyZ p.1).length = n := by
  unfold wyZ; rw [List.length_map, ordL_len n p hp]
theorem way_E (w : List Nat) (E : List (Int × Int)) : wayE (wyZ w) E = w.map (ptD (toN E)) := by
  unfold wayE wyZ
  rw [List.map_map]
  rfl
theorem tl_zip (cl : Nat → Bool) (B : Nat → Nat × Nat) : ∀ (S : List (Nat × Nat)) (w : List Nat), tlT cl B (S.map fun s => (true, s)) w = (S.zip (w.map B)).map fun s => pth cl s.1 s.2
  | [], w => by cases w <;> rfl
  | s :: S, [] => rfl
  | s :: S, c :: w => by
    rw [List.map_cons, tlT, tl_zip cl B S w, List.map_cons, List.zip_cons_cons, List.map_cons]
    rfl
theorem run_cnt {cl : Nat → Bool} {S E : List (Nat × Nat)} {w : List Nat} (hS : ∀ i, (ptD S i).1 < 8 ∧ (ptD S i).2 < 8) (hE : ∀ i, (ptD E i).1 < 8 ∧ (ptD E i).2 < 8) (h4 : S.length ≤ 4) (hw : w.length = S.length) (hr : ¬ 1000000 < (runA cl S (w.map (ptD E))).2.1) :
    (runA cl S (w.map (ptD E))).2.2 = apR [] (tlT cl (ptD E) (S.map fun s => (true, s)) w) := by
  by_cases h0 : S.length = 0
  · have e1 : S = [] := List.eq_nil_of_length_eq_zero h0
    subst e1
    have e2 : w = [] := List.eq_nil_of_length_eq_zero hw
    subst e2
    rfl
  · obtain ⟨F, hF⟩ : ∃ F, F = w.map (ptD E) := ⟨_, rfl⟩
    have hFE : ∀ i, (ptD F i).1 < 8 ∧ (ptD F i).2 < 8 := fun i => by
      by_cases hi : i < w.length
      · have e : ptD F i = ptD E (w.getD i 0) := by
          rw [hF]; simp [ptD, List.getD, List.getElem?_map, List.getElem?_eq_getElem hi]
        rw [e]; exact hE _
      · have e : ptD F i = (0, 0) := by
          rw [hF]; simp [ptD, List.getD, List.getElem?_map, List.getElem?_eq_none (Nat.le_of_not_lt hi)]
        rw [e]; exact ⟨by decide, by decide⟩
    have hl : S.length = F.length := by rw [hF, List.length_map, hw]
    rw [tl_zip]
    rw [← hF] at hr ⊢
    unfold runA at hr ⊢
    rw [if_neg h0] at hr ⊢
    have ht : (goF S F fndN 64 0 (ptD S 0) cl (List.replicate S.length []) 0 0).1 = true := by
      cases hb : (goF S F fndN 64 0 (ptD S 0) cl (List.replicate S.length []) 0 0).1 with
      | true => rfl
      | false => exact absurd (goF_no S F _ _ _ _ _ _ _ hb) hr
    have hfu : fuN S F 0 (ptD S 0) ≤ 64 := by
      have h1 := fuS_step S F 0 (by omega)
      have h2 := fuS_le S F h4 (fun i _ => hFE i) S.length 0 (by omega)
      unfold fuN; omega
    rw [goF_cnt S F hl hS hFE 64 0 (ptD S 0) cl _ 0 0 (by omega) (hS 0).1 (hS 0).2 hfu ht, Nat.zero_add]
    have h3 := hC_apR cl (S.zip F) [] (fun s hs => by
      have h5 : s.2 ∈ F := (List.of_mem_zip (a := s.1) (b := s.2) hs).2
      obtain ⟨k, hk, e⟩ := List.mem_iff_getElem.1 h5
      have := (hFE k).2
      rw [← e]
      simpa [ptD, List.getD, List.getElem?_eq_getElem hk] using this) (fun x hx => absurd hx (by simp))
    rw [mkT_nil] at h3
    rw [← h3]
    have h6 := zip_drop S F hl 0 (by omega)
    rw [List.drop_zero] at h6
    conv => rhs; rw [h6]
    rfl
/-- The numbers of paths from each start to each end. -/
def mtL (cl : Nat → Bool) (S E : List (Nat × Nat)) : List (List Int) := S.map fun s => E.map fun e => (nP cl s e : Int)
theorem mt_sqr {cl : Nat → Bool} {S E : List (Nat × Nat)} (hE : ∀ e ∈ E, e.1 < 8 ∧ e.2 < 8) : Sqr S.length E.length (mtL cl S E) := by
  refine ⟨by unfold mtL; rw [List.length_map], fun r hr => ?_⟩
  obtain ⟨s, -, rfl⟩ := List.mem_map.1 hr
  refine ⟨by rw [List.length_map], fun z hz => ?_⟩
  obtain ⟨e, he, rfl⟩ := List.mem_map.1 hz
  have := nP_bd (cl := cl) (a := s) (hE e he).1 (hE e he).2
  omega
theorem lind {cl : Nat → Bool} {S E : List (Nat × Nat)} (hE : ∀ i, (ptD E i).1 < 8 ∧ (ptD E i).2 < 8) (hl : S.length = E.length) (h4 : S.length ≤ 4) :
    dtN S.length (mtL cl S E) = ((ordL S.length).map fun p => p.2 * (apR [] (tlT cl (ptD E) (S.map fun s => (true, s)) p.1) : Int)).sum := by
  have h1 := lgv (cl := cl) (B := ptD E) hE (S.map fun s => (true, s)) (by rw [List.length_map]; exact h4)
  have h2 := dt_lbn ((S.map fun s => (true, s)).map (rwT cl (ptD E))) (by rw [List.length_map, List.length_map]; exact h4)
  rw [h1] at h2
  unfold apS at h2
  rw [List.length_map, List.length_map] at h2
  rw [← h2]
  congr 1
  unfold mtL
  rw [List.map_map, List.map_map]
  apply List.map_congr_left
  intro s _
  apply List.ext_getElem?
  intro i
  rw [List.getElem?_map]
  simp only [Function.comp, List.getElem?_map]
  by_cases hi : i < E.length
  · rw [List.getElem?_eq_getElem hi, List.getElem?_range (by omega)]
    simp only [Option.map_some]
    unfold rwT tpT nP
    rw [if_pos rfl]
    simp [ptD, List.getD, List.getElem?_eq_getElem hi]
  · rw [List.getElem?_eq_none (by omega), List.getElem?_eq_none (by simp; omega)]
    rfl
/-- The law: the determinant is the sum over all orders, each with its sign. -/
theorem lind_sum {cl : Nat → Bool} {S E : List (Nat × Nat)} (hS : ∀ i, (ptD S i).1 < 8 ∧ (ptD S i).2 < 8) (hE : ∀ i, (ptD E i).1 < 8 ∧ (ptD E i).2 < 8) (hl : S.length = E.length) (h4 : S.length ≤ 4) (hr : ∀ p ∈ ordL S.length, ¬ 1000000 < (runA cl S (p.1.map (ptD E))).2.1) :
    ((ordL S.length).map fun p => ((runA cl S (p.1.map (ptD E))).2.2 : Int) * p.2).sum = dtN S.length (mtL cl S E) := by
  rw [lind hE hl h4]
  congr 1
  apply List.map_congr_left
  intro p hp
  rw [run_cnt hS hE h4 (ordL_len _ p hp) (hr p hp), Int.mul_comm]
end Go.Proofs.YtapchcamjeafmaaDoor
