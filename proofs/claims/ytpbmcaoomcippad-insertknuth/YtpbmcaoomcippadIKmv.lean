/-
  KNUTH'S steps as they are listed: plain facts.
-/
import Derived.Test.YtpbmcaoomcippadIKnu
namespace Go.Proofs.Ytpbmcaoomcippad

/-- Two neighbours in each other's places. -/
def chg (w : List Int) (i : Nat) : List Int := (w.set (i - 1) (w.getD i 0)).set i (w.getD (i - 1) 0)
def mcP (w : List Int) (i : Nat) : Prop :=
  (2 ≤ i ∧ min (w.getD (i - 1) 0) (w.getD i 0) < w.getD (i - 2) 0 ∧ w.getD (i - 2) 0 ≤ max (w.getD (i - 1) 0) (w.getD i 0)) ∨
  (i + 1 < w.length ∧ min (w.getD (i - 1) 0) (w.getD i 0) ≤ w.getD (i + 1) 0 ∧ w.getD (i + 1) 0 < max (w.getD (i - 1) 0) (w.getD i 0))
theorem chg_length (w : List Int) (i : Nat) : (chg w i).length = w.length := by simp [chg]
theorem chg_getD {w : List Int} {i : Nat} (h1 : 1 ≤ i) (hi : i < w.length) (j : Nat) : (chg w i).getD j 0 = if j = i then w.getD (i - 1) 0 else if j = i - 1 then w.getD i 0 else w.getD j 0 := by
  by_cases hj : j < w.length
  · unfold chg
    rw [set_getD _ _ _ _ (by rw [List.length_set]; exact hj), set_getD _ _ _ _ hj]
  · rw [if_neg (by omega), if_neg (by omega)]
    simp only [List.getD]
    rw [List.getElem?_eq_none (by rw [chg_length]; omega), List.getElem?_eq_none (by omega)]
theorem chg_chg {w : List Int} {i : Nat} (h1 : 1 ≤ i) (hi : i < w.length) : chg (chg w i) i = w := by
  refine ext_getD (by rw [chg_length, chg_length]) (fun j _ => ?_)
  rw [chg_getD h1 (by rw [chg_length]; exact hi), chg_getD h1 hi, chg_getD h1 hi, chg_getD h1 hi]
  by_cases e : j = i
  · subst e; rw [if_pos rfl, if_neg (by omega), if_pos rfl]
  · rw [if_neg e]
    by_cases e2 : j = i - 1
    · subst e2; rw [if_pos rfl, if_pos rfl]
    · rw [if_neg e2, if_neg e, if_neg e2]
theorem mc_chg {w : List Int} {i : Nat} (h1 : 1 ≤ i) (hi : i < w.length) : mcP (chg w i) i ↔ mcP w i := by
  unfold mcP
  rw [chg_length, chg_getD h1 hi, chg_getD h1 hi i, chg_getD h1 hi (i - 2), chg_getD h1 hi (i + 1)]
  rw [if_neg (by omega), if_pos rfl, if_pos rfl, if_neg (by omega), if_neg (show ¬ i + 1 = i by omega), if_neg (show ¬ i + 1 = i - 1 by omega)]
  by_cases c : 2 ≤ i
  · rw [if_neg (by omega), Int.min_comm, Int.max_comm]
  · constructor
    · rintro (⟨q, _⟩ | q)
      · exact absurd q c
      · right; rw [Int.min_comm, Int.max_comm]; exact q
    · rintro (⟨q, _⟩ | q)
      · exact absurd q c
      · right; rw [Int.min_comm, Int.max_comm]; exact q
theorem chg_ne {w : List Int} {i : Nat} (h1 : 1 ≤ i) (hi : i < w.length) (h : mcP w i) : chg w i ≠ w := fun e => by
  have := chg_getD h1 hi i
  rw [e, if_pos rfl] at this
  unfold mcP at h
  rw [this] at h
  simp at h
  omega
theorem insW_two (t : List (List Int)) (a b : List Int) : insW t (a ++ b) = insW (insW t a) b := by unfold insW; rw [List.foldl_append]
theorem k3_mid {A B u v : List Int} (h : K3 u v ∨ K3 v u) : insW [] (A ++ u ++ B) = insW [] (A ++ v ++ B) := by
  rw [insW_two, insW_two, insW_two, insW_two]
  have hT : T (insW [] A) := insW_T A [] trivial
  rcases h with h | h
  · rw [k3_same _ hT h]
  · rw [k3_same _ hT h]
theorem three_at {w : List Int} {i : Nat} (h : i + 2 < w.length) : w = w.take i ++ [w.getD i 0, w.getD (i + 1) 0, w.getD (i + 2) 0] ++ w.drop (i + 3) := by
  have e1 : w.drop i = w.getD i 0 :: w.getD (i + 1) 0 :: w.getD (i + 2) 0 :: w.drop (i + 3) := by
    rw [drop_cons w i (by omega), drop_cons w (i + 1) (by omega), drop_cons w (i + 2) h]
  have e2 := List.take_append_drop i w
  rw [e1] at e2
  rw [List.append_assoc]
  exact e2.symm
theorem take_chg {w : List Int} {i j : Nat} (h1 : 1 ≤ i) (hi : i < w.length) (hj : j + 1 ≤ i) : (chg w i).take j = w.take j := by
  refine ext_getD (by simp [chg_length]) (fun m hm => ?_)
  have hm' : m < j := by simp at hm; omega
  have e : ∀ l : List Int, (l.take j).getD m 0 = l.getD m 0 := fun l => by simp [List.getD, hm']
  rw [e, e, chg_getD h1 hi, if_neg (by omega), if_neg (by omega)]
theorem drop_chg {w : List Int} {i j : Nat} (h1 : 1 ≤ i) (hi : i < w.length) (hj : i < j) : (chg w i).drop j = w.drop j := by
  refine ext_getD (by simp [chg_length]) (fun m hm => ?_)
  have e : ∀ l : List Int, (l.drop j).getD m 0 = l.getD (j + m) 0 := fun l => by simp [List.getD, List.getElem?_drop]
  rw [e, e, chg_getD h1 hi, if_neg (by omega), if_neg (by omega)]
theorem chg_P {w : List Int} {i : Nat} (h1 : 1 ≤ i) (hi : i < w.length) (h : mcP w i) : insW [] (chg w i) = insW [] w := by
  unfold mcP at h
  rcases h with ⟨h2, h3, h4⟩ | ⟨h2, h3, h4⟩
  · obtain ⟨m, rfl⟩ : ∃ m, i = m + 2 := ⟨i - 2, by omega⟩
    have e1 := three_at (w := w) (i := m) hi
    have e2 := three_at (w := chg w (m + 2)) (i := m) (by rw [chg_length]; exact hi)
    rw [take_chg h1 hi (by omega), drop_chg h1 hi (by omega), chg_getD h1 hi m, chg_getD h1 hi (m + 1), chg_getD h1 hi (m + 2)] at e2
    rw [if_neg (by omega), if_neg (by omega), if_neg (by omega), if_pos (by omega), if_pos rfl] at e2
    simp only [Nat.add_sub_cancel, show m + 2 - 1 = m + 1 by omega] at h3 h4 e2
    generalize w.getD m 0 = c at *
    generalize w.getD (m + 1) 0 = a at *
    generalize w.getD (m + 2) 0 = b at *
    rw [e2]
    conv => rhs; rw [e1]
    refine k3_mid ?_
    by_cases q : a ≤ b
    · right; left; exact ⟨a, c, b, by omega, by omega, rfl, rfl⟩
    · left; left; exact ⟨b, c, a, by omega, by omega, rfl, rfl⟩
  · obtain ⟨m, rfl⟩ : ∃ m, i = m + 1 := ⟨i - 1, by omega⟩
    have e1 := three_at (w := w) (i := m) h2
    have e2 := three_at (w := chg w (m + 1)) (i := m) (by rw [chg_length]; exact h2)
    rw [take_chg h1 hi (by omega), drop_chg h1 hi (by omega), chg_getD h1 hi m, chg_getD h1 hi (m + 1), chg_getD h1 hi (m + 2)] at e2
    rw [if_neg (by omega), if_pos (by omega), if_pos rfl, if_neg (by omega), if_neg (by omega)] at e2
    simp only [Nat.add_sub_cancel] at h3 h4 e2
    have e3 : m + 1 + 1 = m + 2 := rfl
    rw [e3] at h3 h4
    generalize w.getD m 0 = a at *
    generalize w.getD (m + 1) 0 = b at *
    generalize w.getD (m + 2) 0 = c at *
    rw [e2]
    conv => rhs; rw [e1]
    refine k3_mid ?_
    by_cases q : a ≤ b
    · right; right; exact ⟨a, c, b, by omega, by omega, rfl, rfl⟩
    · left; right; exact ⟨b, c, a, by omega, by omega, rfl, rfl⟩
theorem chg_mem {w : List Int} {i : Nat} (h1 : 1 ≤ i) (hi : i < w.length) : ∀ z ∈ chg w i, z ∈ w := fun z hz => by
  unfold chg at hz
  rcases List.mem_or_eq_of_mem_set hz with q | q
  · rcases List.mem_or_eq_of_mem_set q with q | q
    · exact q
    · rw [q]; exact getD_mem hi
  · rw [q]; exact getD_mem (by omega)

end Go.Proofs.Ytpbmcaoomcippad
