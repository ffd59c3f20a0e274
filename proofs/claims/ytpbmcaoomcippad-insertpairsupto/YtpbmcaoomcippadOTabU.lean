/-
  An argument of type [][]int, opened, with what its bulk says of its size.
-/
import Derived.Test.YtpbmcaoomcippadOTab
namespace Go.Proofs.Ytpbmcaoomcippad
open Go.ChangeShapes Go.WideShapes Go.ChangeAt Go.RowKit

theorem bulk_lits {H : Type} (k : IntKind) (zs : List Int) : Rows.uptoBulkAll (lits (H := H) k zs) = zs.length := by
  unfold lits
  induction zs with
  | nil => simp [Rows.uptoBulkAll]
  | cons z zs ih => simp only [List.map_cons, Rows.uptoBulkAll, Rows.uptoBulk, ih, List.length_cons]; omega
theorem bulk_rows {H : Type} (A : Nat → Option Addr) (L : Nat → Nat) (Z : Nat → List Int) : ∀ (R : List Nat), (∀ r ∈ R, A r = none → L r = 0) →
    R.length + (R.map fun r => (Z r).take (L r)).flatten.length ≤ Rows.uptoBulkAll (R.map fun r => Go.Deep.intRow (H := H) .i64 (A r) (L r) (Z r)) := by
  intro R
  induction R with
  | nil => intro _; simp [Rows.uptoBulkAll]
  | cons r R ih =>
    intro h
    have h1 := ih (fun x hx => h x (by simp [hx]))
    simp only [List.map_cons, List.flatten_cons, List.length_append, List.length_cons, Rows.uptoBulkAll]
    have h2 : 1 + ((Z r).take (L r)).length ≤ Rows.uptoBulk (Go.Deep.intRow (H := H) .i64 (A r) (L r) (Z r)) := by
      cases e : A r with
      | none => rw [h r (by simp) e]; simp [Go.Deep.intRow, Rows.uptoBulk]
      | some a => simp only [Go.Deep.intRow, Rows.uptoBulk, bulk_lits]; omega
    omega

set_option maxRecDepth 100000 in
/-- The rows of a [][]int argument; 'hsz' is the form's own reach of it. -/
theorem open_tableU {H : Type} {enc : TypeId × Value → H} {W : World} {base : Nat} {v : Value} {d : DataW H} {p : List MemPlace}
    (hv : Value.okWide Try.prog W .any base 23 v) (h : DataW.Trod enc Try.prog W 0 (fun _ => true) true 23 v d p) (hlt : ∀ x ∈ p, x.block < W.heap.size)
    (hsz : ∀ n ∈ d.weights Try.prog 23, n ≤ reachBytes) :
    ∃ a cap ls, v = .slice a ls.length cap ∧ TableX W a ls ∧ ls.length ≤ cap ∧ ls.length ≤ 17592186044416 ∧ (a = none → ls = [] ∧ cap = 0) ∧ (Rows.uptoBulk d ≤ 1048576 → ls.length + ls.flatten.length ≤ 1048576) := by
  obtain ⟨a0, len, cap, rfl⟩ := okWide_slice Try.underlying23 hv
  obtain ⟨fuel, hf⟩ := h
  rcases Go.Deep.open_int_rows Try.underlying23 Try.underlying22 Try.underlying3 Try.cells22 Try.cells3 hf with ⟨hcs, hx⟩ | ⟨a, len', cap', A, L, C, Z, hcs, _, hl, hm, hx, hr⟩
  · simp [Value.cells] at hcs
    obtain ⟨rfl, rfl, rfl⟩ := hcs
    exact ⟨none, 0, [], rfl, fun i hi => absurd hi (by simp), by simp, by simp, fun _ => ⟨rfl, rfl⟩, fun _ => by simp⟩
  · simp [Value.cells] at hcs
    obtain ⟨rfl, rfl, rfl⟩ := hcs
    simp only [Prod.mk.injEq] at hx
    obtain ⟨rfl, rfl⟩ := hx
    have hw : ∀ n ∈ DataW.weights Try.prog 23 (DataW.slice ((List.range len).map fun r => Go.Deep.intRow (H := H) .i64 (A r) (L r) (Z r)) ((List.range (cap - len)).map fun j => Go.Deep.intRow .i64 (A (len + j)) (L (len + j)) (Z (len + j)))), n ≤ reachBytes := hsz
    simp only [DataW.weights, Try.underlying23] at hw
    have h0 := hw _ List.mem_cons_self
    simp only [List.length_map, List.length_range, Try.bytes22, reachBytes] at h0
    have hrow : ∀ r, r < len → C r ≤ 17592186044416 := fun r hr2 => by
      obtain ⟨_, hLC, _, hZ, _, hN, _⟩ := hr r (by omega)
      cases hA : A r with
      | none => rw [hN hA]; omega
      | some a' =>
        have h1 := hw ((lits (H := H) .i64 ((Z r).take (L r))).length * 8 + (lits (H := H) .i64 ((Z r).drop (L r))).length * 8) (List.mem_cons_of_mem _ (List.mem_append_left _ (weightsAll_mem (d := Go.Deep.intRow .i64 (A r) (L r) (Z r)) (List.mem_map.2 ⟨r, List.mem_range.2 hr2, rfl⟩) _ (by
          rw [hA]; simp only [Go.Deep.intRow, DataW.weights, Try.underlying22]
          rw [List.mem_cons]; left; rw [Try.bytes3]; omega))))
        simp only [lits, List.length_map, List.length_take, List.length_drop, reachBytes] at h1
        omega
    have hgd : ∀ i, i < len → ((List.range len).map fun r => (Z r).take (L r)).getD i [] = (Z i).take (L i) := fun i hi => by simp [List.getD, hi]
    refine ⟨some a, cap, (List.range len).map fun r => (Z r).take (L r), by simp, fun i hi => ?_, by simpa using hl, by simp; omega, fun h => (by cases h), fun hbk => ?_⟩
    rotate_left
    · have h1 := bulk_rows (H := H) A L Z (List.range len) (fun r hr2 hn => by
        obtain ⟨_, hLC, _, _, _, hN, _⟩ := hr r (by have := List.mem_range.1 hr2; omega)
        have := hN hn; omega)
      simp only [Rows.uptoBulk] at hbk
      simp only [List.length_range] at h1
      rw [List.length_map, List.length_range]
      omega
    simp only [List.length_map, List.length_range] at hi
    rw [hgd i hi]
    obtain ⟨hc, hLC, hCm, hZ, hwf, hN, hcell⟩ := hr i (by omega)
    have hCr := hrow i hi
    have hlen : ((Z i).take (L i)).length = L i := by simp; omega
    obtain ⟨b, off, spot⟩ := a
    have hspot : spot = none := by simpa [Addr.add] using World.cell?_spot (hr 0 (by omega)).1
    subst hspot
    refine ⟨b, off, A i, C i, rfl, hlt (.cell b off) (List.mem_append_left _ (MemPlace.mem_row.2 ⟨0, by omega, by simp⟩)), by rw [hlen, ← add_plain]; exact hc, ⟨by omega, fun z hz => i64_of_wf (hwf z (List.mem_of_mem_take hz)), fun hne => ?_⟩, fun hn => ?_, by omega⟩
    · have hpos : 0 < L i := by
        rcases Nat.eq_zero_or_pos (L i) with h0 | h0
        · rw [h0] at hne; simp at hne
        · exact h0
      cases hA : A i with
      | none => have := hN hA; omega
      | some a' =>
        have hcl := (hcell a' hA).2
        obtain ⟨b', off', spot'⟩ := a'
        have hspot' : spot' = none := by simpa [Addr.add] using World.cell?_spot (hcl 0 (by omega))
        subst hspot'
        refine ⟨b', off', rfl, hlt (.cell b' off') (List.mem_append_right _ (List.mem_flatMap.2 ⟨i, List.mem_range.2 (by omega), ?_⟩)), fun j hj => ?_⟩
        · rw [hA]; exact MemPlace.mem_row.2 ⟨0, by omega, by simp⟩
        · rw [hlen] at hj
          rw [← add_plain, hcl j (by omega)]
          simp [List.getD, hj]
    · have h1 := hN hn
      exact ⟨List.eq_nil_of_length_eq_zero (by omega), h1⟩

end Go.Proofs.Ytpbmcaoomcippad
