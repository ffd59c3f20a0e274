/-
  The contracts of slices.Index, slices.Contains, ferref.Perm, slices.Max.
-/
import Derived.Test.YtgcagoalnhgljacDoorPChk
namespace Go.Proofs.YtgcagoalnhgljacDoor
open Go.RowKit

theorem nodup_of_counts : ∀ {l : List Int}, (∀ a, l.countP (fun z => decide (z = a)) ≤ 1) → l.Nodup := by
  intro l
  induction l with
  | nil => intro _; simp
  | cons y l ih =>
    intro h
    rw [List.nodup_cons]
    refine ⟨?_, ih (fun a => ?_)⟩
    · intro hy
      have h1 := h y
      rw [List.countP_cons] at h1
      have : 0 < l.countP (fun z => decide (z = y)) := List.countP_pos_iff.2 ⟨y, hy, by simp⟩
      rw [if_pos (by simp)] at h1
      omega
    · have := h a
      rw [List.countP_cons] at this
      omega

/-- A list of n numbers from 1 to n that has them all has none twice. -/
theorem perm_of_all {l : List Int} (h40 : l.length ≤ 40) (hb : ∀ z ∈ l, 1 ≤ z ∧ z ≤ l.length) (ha : ∀ v : Nat, v < l.length → (v : Int) + 1 ∈ l) : IsPerm l := by
  refine ⟨h40, fun z hz => (hb z hz).1, fun z hz => (hb z hz).2, nodup_of_counts ?_⟩
  have hs := S_counts l.length l hb
  have hge : ∀ v, v < l.length → 1 ≤ l.countP (fun z => decide (z = (v : Int) + 1)) := fun v hv => List.countP_pos_iff.2 ⟨_, ha v hv, by simp⟩
  have key : ∀ n, n ≤ l.length → ∀ m, m < n → S n (fun v => l.countP (fun z => decide (z = (v : Int) + 1))) + 1 ≥ n + l.countP (fun z => decide (z = (m : Int) + 1)) := by
    intro n
    induction n with
    | zero => intro _ m hm; omega
    | succ n ih =>
      intro hn m hm
      rw [S]
      by_cases e : m = n
      · subst e
        have : m ≤ S m (fun v => l.countP (fun z => decide (z = (v : Int) + 1))) := by
          have := S_le (n := m) (f := fun _ => 1) (g := fun v => l.countP (fun z => decide (z = (v : Int) + 1))) (fun i hi => hge i (by omega))
          rw [S_one] at this; exact this
        omega
      · have := ih (by omega) m (by omega)
        have := hge n (by omega)
        omega
  intro a
  by_cases h : 1 ≤ a ∧ a ≤ l.length
  · have := key l.length (Nat.le_refl _) (a - 1).toNat (by omega)
    rw [hs, show (((a - 1).toNat : Nat) : Int) + 1 = a by omega] at this
    omega
  · have : l.countP (fun z => decide (z = a)) = 0 := by
      rw [List.countP_eq_zero]; intro z hz; simp; intro e; subst e; exact h (hb z hz)
    omega

theorem first_time {q : Nat → Prop} : ∀ m, q m → ∃ k, k ≤ m ∧ q k ∧ ∀ j, j < k → ¬ q j := by
  intro m
  induction m using Nat.strongRecOn with
  | _ m ih =>
    intro hm
    by_cases h : ∃ j, j < m ∧ q j
    · obtain ⟨j, hj, hq⟩ := h
      obtain ⟨k, h1, h2, h3⟩ := ih j hj hq
      exact ⟨k, by omega, h2, h3⟩
    · exact ⟨m, Nat.le_refl m, hm, fun j hj hq => h ⟨j, hj, hq⟩⟩

end Go.Proofs.YtgcagoalnhgljacDoor
