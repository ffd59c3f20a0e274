/-
  What is sorted is parts.All's list; the contract of AllParts' compare function.
-/
import Derived.Test.YtheebpjkjclgbaaCCmp
namespace Go.Proofs.Ytheebpjkjclgbaa
open Go.RowKit

def fallB : List (List Int) → Bool
  | [] => true
  | a :: l => (match l with | [] => true | b :: _ => decide (cmpL b a < 0)) && fallB l
theorem fall_pw : ∀ {l : List (List Int)}, fallB l = true → l.Pairwise (fun a b => cmpL b a < 0) := by
  intro l
  induction l with
  | nil => intro _; exact List.Pairwise.nil
  | cons a l ih =>
    intro h
    unfold fallB at h
    rw [Bool.and_eq_true] at h
    have hp := ih h.2
    refine List.Pairwise.cons (fun b hb => ?_) hp
    cases l with
    | nil => cases hb
    | cons c l =>
      have h1 : cmpL c a < 0 := of_decide_eq_true h.1
      rcases List.mem_cons.1 hb with rfl | q
      · exact h1
      · exact cmpL_trans _ _ _ ((List.pairwise_cons.1 hp).1 b q) h1
theorem fall_run : ∀ m, m < 21 → fallB (genA m) = true := by decide +kernel
theorem cmpL_asym {a b : List Int} (h : cmpL b a < 0) : ¬ cmpL a b < 0 := fun h2 => by
  have := cmpL_trans _ _ _ h h2
  rw [cmpL_refl] at this
  omega
theorem cmpL_eq : ∀ {a b : List Int}, ¬ cmpL a b < 0 → ¬ cmpL b a < 0 → a = b := by
  intro a
  induction a with
  | nil => intro b h1 h2; cases b with
    | nil => rfl
    | cons y b => simp [cmpL] at h1
  | cons x a ih =>
    intro b h1 h2
    cases b with
    | nil => simp [cmpL] at h2
    | cons y b =>
      simp only [cmpL] at h1 h2
      by_cases c1 : x < y
      · rw [if_pos c1] at h1; exact absurd (by omega) h1
      · by_cases c2 : y < x
        · rw [if_pos c2] at h2; exact absurd (by omega) h2
        · rw [if_neg c1, if_neg c2] at h1
          rw [if_neg c2, if_neg c1] at h2
          rw [ih h1 h2, show x = y by omega]
theorem sorted_genA {n : Nat} (h : n ≤ 20) {r : List (List Int)} (hp : r.Perm (rgF 21 1 n [])) (hs : r.Pairwise (fun a b => ¬ cmpL a b < 0)) : r = genA n :=
  List.Perm.eq_of_pairwise (le := fun a b => ¬ cmpL a b < 0) (fun a b _ _ h1 h2 => cmpL_eq h1 h2) hs ((fall_pw (fall_run n (by omega))).imp (fun h => cmpL_asym h)) (hp.trans (rg_perm h))

set_option maxHeartbeats 1000000 in
/-- The compare function: the greater row first. -/
theorem AllParts2_at (a b : Option Addr) (n m ca cb : Nat) (zs ys : List Int) (w : World) (hs : Shows w a zs) (ht : Shows w b ys) (hn : n = zs.length) (hm : m = ys.length) :
    Calls Try.prog 33 #[.slice a n ca, .slice b m cb] w fun e w' => e = .returned (.int .i64 (cmpL ys zs)) ∧ w' = w := by
  obtain ⟨c, HC⟩ : ∃ c, Hid (cmpL ys zs = c) := ⟨_, rfl⟩
  rw [HC.out]
  have HCall : Hid (Calls Try.prog 24 #[.slice b m cb, .slice a n ca] w fun e w' => e = .returned (.int .i64 c) ∧ w' = w) := by
    show Calls _ _ _ _ _
    rw [← HC.out]
    exact CompareL_at b a m n cb ca ys zs w ht hs hm hn
  clear hs ht hn hm HC
  go_enter Try.func33, Try.ntmps33
  go_wp2_with fail
  refine HCall.out.mono ?_
  rintro e w1 ⟨rfl, hw1⟩
  obtain rfl : w = w1 := hw1.symm
  go_wp2
  go_ret
  exact ⟨rfl, rfl⟩

end Go.Proofs.Ytheebpjkjclgbaa
