/-
  Lists of cars that go round: what Park says of them; places in order.
-/
import Derived.Test.YtihafckdaecgkaaZPar
namespace Go.Proofs.Ytihafckdaecgkaa
open Go.RowKit

/-- The list whose places have gone s round. -/
def trnL (zs : List Int) (s : Nat) : List Int := (lk zs).map fun p => (((p + s) % (zs.length + 1) : Nat) : Int) + 1
theorem trnL_length (zs : List Int) (s : Nat) : (trnL zs s).length = zs.length := by simp [trnL, lk]
theorem lk_trnL (zs : List Int) (s : Nat) : lk (trnL zs s) = (lk zs).map fun p => (p + s) % ((lk zs).length + 1) := by
  rw [lk_length]
  unfold trnL
  show List.map _ (List.map _ _) = _
  rw [List.map_map]
  refine List.map_congr_left (fun p _ => ?_)
  show ((((p + s) % (zs.length + 1) : Nat) : Int) + 1 - 1).toNat = _
  omega
theorem trnL_bd (zs : List Int) (s : Nat) : ∀ z ∈ trnL zs s, 1 ≤ z ∧ z ≤ (zs.length : Int) + 1 := by
  intro z hz
  obtain ⟨p, _, rfl⟩ := List.mem_map.1 hz
  have := Nat.mod_lt (p + s) (show 0 < zs.length + 1 by omega)
  omega
theorem mem_lk {zs : List Int} {z : Int} (h1 : 1 ≤ z) (h : z ∈ zs) {p : Nat} (hp : z = (p : Int) + 1) : p ∈ lk zs := List.mem_map.2 ⟨z, h, by omega⟩
theorem trn_yes {zs : List Int} {f s : Nat} (h20 : zs.length ≤ 20) (hf : Free (lk zs) f) (hs : s = zs.length - f) : plC (trnL zs s) (trnL zs s).length = 0 ∧ Free (lk (trnL zs s)) (trnL zs s).length := by
  have hfl := hf.1
  rw [lk_length] at hfl
  have h1 := hf.turn s
  rw [← lk_trnL, lk_length, (turn_last (by omega) (by omega)).2 hs] at h1
  rw [trnL_length]
  refine ⟨plC_ok.2 ⟨by rw [trnL_length]; exact h20, fun z hz => ?_⟩, h1⟩
  have hb := trnL_bd zs s z hz
  refine ⟨hb.1, ?_⟩
  by_cases e : z = (zs.length : Int) + 1
  · exact absurd (mem_lk hb.1 hz e) h1.not_mem
  · omega
theorem trn_no {zs : List Int} {f s : Nat} (hf : Free (lk zs) f) (hs : s ≤ zs.length) (hne : s ≠ zs.length - f) : ¬ (plC (trnL zs s) (trnL zs s).length = 0 ∧ Free (lk (trnL zs s)) (trnL zs s).length) := by
  rintro ⟨_, h⟩
  have hfl := hf.1
  rw [lk_length] at hfl
  have h1 := hf.turn s
  rw [← lk_trnL, lk_length] at h1
  rw [trnL_length] at h
  exact hne ((turn_last (by omega) hs).1 (h1.uniq h))
theorem park_perm {ms ys : List Int} (hp : ms.Perm ys) (h : plC ms ms.length = 0 ∧ Free (lk ms) ms.length) : plC ys ys.length = 0 ∧ Free (lk ys) ys.length := by
  obtain ⟨h1, h2⟩ := h
  have hl := hp.length_eq
  rw [← hl]
  obtain ⟨a, b⟩ := plC_ok.1 h1
  exact ⟨plC_ok.2 ⟨by omega, fun z hz => b z (hp.mem_iff.2 hz)⟩, h2.perm (hp.map _)⟩
theorem plcs_perm {ms : List Int} (h : Free (lk ms) ms.length) : (plcs (ms.length + 1) (lk ms)).Perm ((List.range ms.length).map fun (x : Nat) => (x : Int) + 1) := by
  have h1 : Free (lk ms) (lk ms).length := by rw [lk_length]; exact h
  have := pgo_all h1
  rw [lk_length] at this
  exact this.map _
theorem plcs_wide {ms : List Int} (h20 : ms.length ≤ 20) (h : Free (lk ms) ms.length) : ∀ z ∈ plcs (ms.length + 1) (lk ms), -9223372036854775808 ≤ z ∧ z ≤ 9223372036854775807 := by
  intro z hz
  obtain ⟨x, hx, rfl⟩ := List.mem_map.1 ((plcs_perm h).mem_iff.1 hz)
  have := List.mem_range.1 hx
  omega
def leZ : Int → Int → Bool := fun x y => decide (x ≤ y)
theorem sort_eq {l m : List Int} (h : l.Perm m) : l.mergeSort leZ = m.mergeSort leZ := by
  have t : ∀ a b c : Int, leZ a b = true → leZ b c = true → leZ a c = true := fun a b c h1 h2 => decide_eq_true (Int.le_trans (of_decide_eq_true h1) (of_decide_eq_true h2))
  have o : ∀ a b : Int, (leZ a b || leZ b a) = true := fun a b => by
    rcases Int.le_total a b with h | h <;> simp [leZ, h]
  refine List.Perm.eq_of_pairwise (le := fun a b => leZ a b = true) (fun a b _ _ h1 h2 => Int.le_antisymm (of_decide_eq_true h1) (of_decide_eq_true h2)) (List.pairwise_mergeSort t o l) (List.pairwise_mergeSort t o m) ?_
  exact ((List.mergeSort_perm l leZ).trans h).trans (List.mergeSort_perm m leZ).symm
/-- Both lists of places, in order. -/
theorem places_same {ms ys : List Int} (hp : ms.Perm ys) (h : plC ms ms.length = 0 ∧ Free (lk ms) ms.length) : (plcs (ms.length + 1) (lk ms)).mergeSort leZ = (plcs (ys.length + 1) (lk ys)).mergeSort leZ := by
  refine sort_eq ((plcs_perm h.2).trans ?_)
  rw [hp.length_eq]
  exact (plcs_perm (park_perm hp h).2).symm

/-- Two change places. -/
def swp (l : List Int) (i j : Nat) : List Int := (l.set i (l.getD j 0)).set j (l.getD i 0)
theorem swp_perm {l : List Int} {i j : Nat} (hi : i < l.length) (hj : j < l.length) : l.Perm (swp l i j) := by
  have e : swp l i j = (l.set i l[j]).set j l[i] := by
    unfold swp
    simp [List.getD, List.getElem?_eq_getElem hi, List.getElem?_eq_getElem hj]
  rw [e]
  have h := (Array.swap_perm (xs := l.toArray) (i := i) (j := j) (by simpa using hi) (by simpa using hj)).toList
  simp only [Array.swap, Array.toList_set, List.getElem_toArray] at h
  exact h.symm
theorem swp_length (l : List Int) (i j : Nat) : (swp l i j).length = l.length := by simp [swp]
end Go.Proofs.Ytihafckdaecgkaa
