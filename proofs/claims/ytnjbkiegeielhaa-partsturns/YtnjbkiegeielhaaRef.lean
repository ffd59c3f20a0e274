/-
  Contracts of ferref.Part, ferref.Twice, ferlaw.list.
-/
import Derived.Test.YtnjbkiegeielhaaELaw
namespace Go.Proofs.Ytnjbkiegeielhaa
open Go.RowKit

/-- What Twice answers: the first place, from i on, at which a number is as the one ahead (it is y). -/
def twiceL : Int → Nat → List Int → Int
  | _, _, [] => -1
  | y, i, z :: l => if z = y then i else twiceL z (i + 1) l
def twiceV : List Int → Int
  | [] => -1
  | z :: l => twiceL z 1 l

theorem drop_cons (zs : List Int) (k : Nat) (hk : k < zs.length) : zs.drop k = zs.getD k 0 :: zs.drop (k + 1) := by
  rw [List.drop_eq_getElem_cons hk]; simp [List.getD, List.getElem?_eq_getElem hk]

theorem twiceV_drop (zs : List Int) (k : Nat) (h1 : 1 ≤ k) (hk : k ≤ zs.length) (h : ∀ i, 1 ≤ i → i < k → zs.getD i 0 ≠ zs.getD (i - 1) 0) : twiceV zs = twiceL (zs.getD (k - 1) 0) k (zs.drop k) := by
  induction k with
  | zero => omega
  | succ k ih =>
    rcases Nat.eq_zero_or_pos k with rfl | hp
    · cases zs with
      | nil => simp at hk
      | cons z l => rfl
    · rw [ih hp (by omega) (fun i hi hik => h i hi (by omega)), drop_cons zs k (by omega), twiceL, if_neg (h k hp (by omega)), Nat.add_sub_cancel]

theorem ret_i64 {a b : Int} (h : a = b) : Ending.returned (.int .i64 a) = .returned (.int .i64 b) := by rw [h]

set_option maxHeartbeats 1000000 in
theorem Twice_any (a : Option Addr) (cap : Nat) (zs : List Int) (w : World) (hs : Shows w a zs) :
    Calls Try.prog 39 #[.slice a zs.length cap] w fun e w' => e = .returned (.int .i64 (twiceV zs)) ∧ ∃ n, w' = w.drewN n := by
  have hl := hs.len
  go_enter Try.func39, Try.ntmps39
  go_wp2
  go_loopw [3] (fun i wr => ∃ k : Nat, 1 ≤ k ∧ (k ≤ zs.length ∨ k = 1) ∧ i = .int .i64 k ∧ Hid (∀ i, 1 ≤ i → i < k → zs.getD i 0 ≠ zs.getD (i - 1) 0) ∧ ∃ n, wr = w.drewN n) (fun i _ => zs.length - (intOf i).toNat)
  case atStart => exact ⟨1, by omega, by omega, rfl, fun i h1 h2 => by omega, 0, rfl⟩
  case round =>
    obtain ⟨k, hk1, hk, rfl, HR, n, rfl⟩ := hrel
    by_cases hlt : k < zs.length
    · obtain ⟨m, rfl⟩ : ∃ m, k = m + 1 := ⟨k - 1, by omega⟩
      have hlt' : ((m + 1 : Nat) : Int) < (zs.length : Int) := by omega
      have hltm : (m : Int) < (zs.length : Int) := by omega
      obtain ⟨b, off, z, y, rfl, HZ, HY, hz1, hz2, hy1, hy2, hc, hcy⟩ := hs.elem2 hlt (show m < zs.length by omega)
      by_cases he : z = y
      · have HE : Hid (z = y) := he
        have hb : (z == y) = true := beq_iff_eq.2 he
        clear he
        go_wp2_with fail
        go_quiet (fail)
        go_wp2
        go_ret
        refine ⟨ret_i64 ?_, _, by first | exact rfl | exact drewN_two _ _ _⟩
        rw [twiceV_drop zs (m + 1) (by omega) (by omega) HR.out, drop_cons zs (m + 1) hlt, Nat.add_sub_cancel, twiceL, if_pos (by rw [← HZ.out, ← HY.out]; exact HE.out)]
      · have HE : Hid (¬ z = y) := he
        have hb : (z == y) = false := beq_eq_false_iff_ne.2 he
        clear he
        go_wp2_with fail
        go_quiet (fail)
        go_wp2
        go_roundw
        case rel => exact ⟨m + 2, by omega, by omega, by go_num, fun i h1 h2 => by
                      by_cases hi : i < m + 1
                      · exact HR.out i h1 hi
                      · obtain rfl : i = m + 1 := by omega
                        rw [Nat.add_sub_cancel, ← HZ.out, ← HY.out]; exact HE.out, _, by first | exact rfl | exact drewN_two _ _ _⟩
        case measure => simp [intOf]; omega
    · have hd : decide ((k : Int) < (zs.length : Int)) = false := by simp; omega
      go_wp2_with fail
      go_ret
      refine ⟨ret_i64 ?_, _, by first | exact rfl | exact drewN_two _ _ _⟩
      by_cases h0 : zs.length = 0
      · obtain rfl : zs = [] := List.eq_nil_of_length_eq_zero h0
        rfl
      · rw [twiceV_drop zs zs.length (by omega) (Nat.le_refl _) (fun i h1 h2 => HR.out i h1 (by omega)), List.drop_length]; rfl

theorem twiceL_spec : ∀ (l : List Int) (y : Int) (i : Nat), twiceL y i l = -1 ∨ ∃ k, k < l.length ∧ twiceL y i l = ((i + k : Nat) : Int) ∧ l.getD k 0 = (if k = 0 then y else l.getD (k - 1) 0) := by
  intro l
  induction l with
  | nil => intro y i; left; rfl
  | cons z l ih =>
    intro y i
    rw [twiceL]
    by_cases h : z = y
    · right; rw [if_pos h]; exact ⟨0, by simp, by simp, by simp [h]⟩
    · rw [if_neg h]
      rcases ih z (i + 1) with h1 | ⟨k, hk, h1, h2⟩
      · left; exact h1
      · right
        refine ⟨k + 1, by simp; omega, by rw [h1]; congr 1; omega, ?_⟩
        rw [if_neg (by omega), List.getD_cons_succ, h2, Nat.add_sub_cancel]
        cases k with
        | zero => rfl
        | succ k => rw [if_neg (by omega), List.getD_cons_succ, Nat.add_sub_cancel]

/-- A place at which a number is as the one ahead, or there is none. -/
theorem twiceV_spec (zs : List Int) : (twiceV zs = -1) ∨ ∃ k : Nat, 1 ≤ k ∧ k < zs.length ∧ twiceV zs = k ∧ zs.getD k 0 = zs.getD (k - 1) 0 := by
  cases zs with
  | nil => left; rfl
  | cons z l =>
    rcases twiceL_spec l z 1 with h | ⟨k, hk, h1, h2⟩
    · left; exact h
    · right
      refine ⟨k + 1, by omega, by simp; omega, by show twiceL z 1 l = _; rw [h1]; congr 1; omega, ?_⟩
      rw [List.getD_cons_succ, h2, Nat.add_sub_cancel]
      cases k with
      | zero => rfl
      | succ k => rw [if_neg (by omega), List.getD_cons_succ, Nat.add_sub_cancel]

theorem twiceL_none : ∀ (l : List Int) (y : Int) (i : Nat), twiceL y i l = -1 → ∀ k, k < l.length → l.getD k 0 ≠ (if k = 0 then y else l.getD (k - 1) 0) := by
  intro l
  induction l with
  | nil => intro y i _ k hk; simp at hk
  | cons z l ih =>
    intro y i h k hk
    rw [twiceL] at h
    by_cases he : z = y
    · rw [if_pos he] at h; omega
    · rw [if_neg he] at h
      cases k with
      | zero => simpa using he
      | succ k =>
        have := ih z (i + 1) h k (by simp at hk; omega)
        rw [if_neg (by omega), List.getD_cons_succ, Nat.add_sub_cancel]
        cases k with
        | zero => simpa using this
        | succ k => rw [if_neg (by omega)] at this; rw [List.getD_cons_succ]; simpa using this
theorem twiceV_none {zs : List Int} (h : twiceV zs = -1) : ∀ k, 1 ≤ k → k < zs.length → zs.getD k 0 ≠ zs.getD (k - 1) 0 := by
  intro k h1 hk
  cases zs with
  | nil => simp at hk
  | cons z l =>
    obtain ⟨j, rfl⟩ : ∃ j, k = j + 1 := ⟨k - 1, by omega⟩
    have := twiceL_none l z 1 h j (by simp at hk; omega)
    rw [List.getD_cons_succ, Nat.add_sub_cancel]
    cases j with
    | zero => simpa using this
    | succ j => rw [if_neg (by omega)] at this; rw [List.getD_cons_succ]; simpa using this

/-- Of a partition: no two neighbours are the same just if no two parts are. -/
theorem twice_dist {zs : List Int} (h : IsPart zs) : twiceV zs = -1 ↔ Dist zs := by
  constructor
  · intro ht
    refine ⟨h, fun j hj => ⟨by have := (h.1 j hj).1; omega, fun h0 => ?_⟩⟩
    have h1 := (h.1 j hj).2 h0
    have h2 := twiceV_none ht j (by omega) hj
    omega
  · intro hd
    rcases twiceV_spec zs with h1 | ⟨k, h1, h2, _, h4⟩
    · exact h1
    · exfalso
      have := (hd.2 k h2).2 (by omega)
      omega

#print axioms Twice_any
#print axioms twice_dist
end Go.Proofs.Ytnjbkiegeielhaa
