/-
  The contract of parts.Merge.
-/
import Derived.Test.YtnjbkiegeielhaaPrt
import Derived.RegionTactic
namespace Go.Proofs.Ytnjbkiegeielhaa
open Go.RowKit

/-- What the parts of the counts are together: the first n of the 41. -/
def wtTo (f : Nat → Int) : Nat → Int
  | 0 => 0
  | n + 1 => wtTo f n + (n : Int) * f n
def wt (f : Nat → Int) : Int := wtTo f 41

theorem wtTo_upd (f : Nat → Int) (j : Nat) (x : Int) : ∀ n, wtTo (upd f j x) n = wtTo f n + if j < n then (j : Int) * (x - f j) else 0 := by
  intro n
  induction n with
  | zero => simp [wtTo]
  | succ n ih =>
    rw [wtTo, wtTo, ih]
    by_cases h1 : n = j
    · subst h1; rw [upd_same, if_neg (Nat.lt_irrefl _), if_pos (by omega), Int.mul_sub]; omega
    · rw [upd_ne _ _ h1]
      by_cases h2 : j < n
      · rw [if_pos h2, if_pos (by omega)]; omega
      · rw [if_neg h2, if_neg (by omega)]; omega
theorem wt_upd (f : Nat → Int) {j : Nat} (hj : j < 41) (x : Int) : wt (upd f j x) = wt f + (j : Int) * (x - f j) := by
  unfold wt; rw [wtTo_upd, if_pos hj]

theorem wtTo_ge (f : Nat → Int) (h0 : ∀ j, j < 41 → 0 ≤ f j) : ∀ n, n ≤ 41 → 0 ≤ wtTo f n ∧ ∀ j, j < n → (j : Int) * f j ≤ wtTo f n := by
  intro n
  induction n with
  | zero => intro _; exact ⟨by simp [wtTo], fun j hj => by omega⟩
  | succ n ih =>
    intro hn
    obtain ⟨i1, i2⟩ := ih (by omega)
    have hp : 0 ≤ (n : Int) * f n := Int.mul_nonneg (by omega) (h0 n (by omega))
    refine ⟨by rw [wtTo]; omega, fun j hj => ?_⟩
    rw [wtTo]
    by_cases h : j = n
    · subst h; omega
    · have := i2 j (by omega); omega

/-- A good tally: no count below 0, none of part 0, the size at most 40. -/
def Good (f : Nat → Int) : Prop := (∀ j, j < 41 → 0 ≤ f j) ∧ f 0 = 0 ∧ wt f ≤ 40
theorem Good.mul {f : Nat → Int} (h : Good f) {j : Nat} (hj : j < 41) : (j : Int) * f j ≤ 40 := by
  have := (wtTo_ge f h.1 41 (by omega)).2 j hj
  have := h.2.2
  unfold wt at this; omega
theorem Good.le {f : Nat → Int} (h : Good f) {j : Nat} (hj : j < 41) : f j ≤ 40 := by
  rcases Nat.eq_zero_or_pos j with rfl | hp
  · rw [h.2.1]; omega
  · have h1 := h.mul hj
    have h2 := h.1 j hj
    have h3 : 1 * f j ≤ (j : Int) * f j := Int.mul_le_mul_of_nonneg_right (by omega) h2
    omega
/-- Two of a part j: twice j is a part that fits. -/
theorem Good.twice {f : Nat → Int} (h : Good f) {j : Nat} (hj : j < 41) (h2 : 1 < f j) : 2 * j ≤ 40 := by
  have h1 := h.mul hj
  have h3 : (j : Int) * 2 ≤ (j : Int) * f j := Int.mul_le_mul_of_nonneg_left (by omega) (by omega)
  omega

def mergeStep (f : Nat → Int) (p : Nat) : Nat → Int := if 1 < f p then upd (upd f (2 * p) (f (2 * p) + f p / 2)) p (f p % 2) else f
def mergeTo (f : Nat → Int) : Nat → Nat → Int
  | 0 => f
  | k + 1 => mergeStep (mergeTo f k) (k + 1)

theorem Good.merge {f : Nat → Int} (h : Good f) {p : Nat} (hp : 0 < p) (hp2 : p < 41) : Good (mergeStep f p) ∧ wt (mergeStep f p) = wt f := by
  unfold mergeStep
  by_cases h2 : 1 < f p
  · rw [if_pos h2]
    have ht := h.twice hp2 h2
    have e : wt (upd (upd f (2 * p) (f (2 * p) + f p / 2)) p (f p % 2)) = wt f := by
      rw [wt_upd _ hp2, wt_upd _ (by omega), upd_ne _ _ (by omega)]
      have e1 : ((2 * p : Nat) : Int) * (f (2 * p) + f p / 2 - f (2 * p)) = (p : Int) * (2 * (f p / 2)) := by
        rw [show f (2 * p) + f p / 2 - f (2 * p) = f p / 2 by omega, Int.natCast_mul, Int.mul_assoc, Int.mul_left_comm]; rfl
      rw [e1, Int.add_assoc, ← Int.mul_add, show 2 * (f p / 2) + (f p % 2 - f p) = 0 by omega]; simp
    refine ⟨⟨fun j hj => ?_, ?_, by rw [e]; exact h.2.2⟩, e⟩
    · have := h.1 j hj
      have hq := h.1 (2 * p) (by omega)
      unfold upd
      split
      · omega
      · split <;> omega
    · rw [upd_ne _ _ (by omega), upd_ne _ _ (by omega)]; exact h.2.1
  · rw [if_neg h2]; exact ⟨h, rfl⟩

theorem Good.mergeTo {f : Nat → Int} (h : Good f) : ∀ k, k ≤ 40 → Good (mergeTo f k) ∧ wt (mergeTo f k) = wt f := by
  intro k
  induction k with
  | zero => intro _; exact ⟨h, rfl⟩
  | succ k ih =>
    intro hk
    obtain ⟨i1, i2⟩ := ih (by omega)
    obtain ⟨j1, j2⟩ := i1.merge (p := k + 1) (by omega) (by omega)
    exact ⟨j1, j2.trans i2⟩

def evenB (zs : List Int) : Bool := zs.any fun z => z % 2 == 0

set_option maxHeartbeats 1000000 in
theorem Merge_err (a : Option Addr) (cap : Nat) (zs : List Int) (w : World) (hs : Shows w a zs) (c : Int) (E : Hid (chk zs = c)) (hc : (c != 0) = true) :
    Calls Try.prog 21 #[.slice a zs.length cap] w fun e w' => e = .returned (.tuple #[.slice none 0 0, .int .i64 c]) ∧ w' = w := by
  go_enter Try.func21, Try.ntmps21
  go_wp2_with (go_at_call 13; refine (Check_is _ _ _ _ hs E).mono ?_; rintro e w' ⟨rfl, rfl⟩)
  go_ret2
  exact ⟨rfl, rfl⟩

set_option maxHeartbeats 1000000 in
theorem Merge_even (a : Option Addr) (cap : Nat) (zs : List Int) (w : World) (hs : Shows w a zs) (E : Hid (chk zs = 0)) (hp : IsPart zs) (hev : Hid (evenB zs = true)) :
    Calls Try.prog 21 #[.slice a zs.length cap] w fun e w' => e = .returned (.tuple #[.slice none 0 0, .int .i64 3]) ∧ w' = w := by
  have hl := hp.len
  go_enter Try.func21, Try.ntmps21
  go_wp2_with (go_at_call 13; refine (Check_is _ _ _ _ hs E).mono ?_; rintro e w' ⟨rfl, rfl⟩)
  go_loop [16] (fun i => ∃ k : Nat, k ≤ zs.length ∧ i = .int .i64 k ∧ Hid (∀ j, j < k → ¬ zs.getD j 0 % 2 = 0)) (fun i => zs.length - (intOf i).toNat)
  case atStart => exact ⟨0, Nat.zero_le _, rfl, fun j hj => by omega⟩
  case round =>
    obtain ⟨k, hk, rfl, HR⟩ := hrel
    by_cases hlt : k < zs.length
    · obtain ⟨b, off, z, rfl, HZ, hz1, hz2, hc⟩ := hs.elem hlt
      have hz0 : 1 ≤ z ∧ z ≤ 40 := hp.range z (by rw [HZ.out]; exact getD_mem hlt)
      obtain ⟨hz3, hz4⟩ := hz0
      by_cases he : z % 2 = 0
      · have hb : (z % 2 == 0) = true := by simpa using he
        clear he
        go_wp2
        go_ret2
        exact ⟨rfl, rfl⟩
      · have hb : (z % 2 == 0) = false := by simpa using he
        have HE : Hid (¬ z % 2 = 0) := he
        clear he
        go_wp2
        go_round
        case rel => exact ⟨k + 1, by omega, by go_num, fun j hj => by
                      by_cases hj' : j < k
                      · exact HR.out j hj'
                      · obtain rfl : j = k := by omega
                        rw [← HZ.out]; exact HE.out⟩
        case measure => simp [intOf]; omega
    · exfalso
      have := hev.out
      unfold evenB at this
      rw [List.any_eq_true] at this
      obtain ⟨z, hz, he⟩ := this
      obtain ⟨j, hj, rfl⟩ := List.getElem_of_mem hz
      have := HR.out j (by omega)
      simp [List.getD, List.getElem?_eq_getElem hj] at this
      simp at he
      omega

#print axioms Merge_even
end Go.Proofs.Ytnjbkiegeielhaa
