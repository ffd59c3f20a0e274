/-
  The contract of parts.FromFrobenius for every two slices that can be read.
-/
import Derived.Test.YtnjbkiegeielhaaFrb
import Derived.Test.YtnjbkiegeielhaaArr
import Derived.RegionTactic
namespace Go.Proofs.Ytnjbkiegeielhaa
open Go.RowKit

theorem tab_set (n : Nat) (f : Nat → Int) (j : Nat) (x : Int) : (tab n f).set j x = tab n (upd f j x) := by
  refine ext_getD (by simp [tab_length]) (fun i hi => ?_)
  rw [List.length_set, tab_length] at hi
  rw [set_getD _ _ _ _ (by rw [tab_length]; exact hi), tab_getD _ _ _ hi, tab_getD _ _ _ hi]; rfl

/-- The arms and legs from place k on laid down: row j. -/
def ffv (xs ys : List Int) : Nat → Nat → Int
  | 0, _ => 0
  | k + 1, j => ffv xs ys k j + (if j = k then xs.getD k 0 + 1 else 0) + (if k < j ∧ (j : Int) ≤ k + ys.getD k 0 then 1 else 0)
def fromF (xs ys : List Int) : List Int := if xs.length = 0 then [] else tab (ys.getD 0 0 + 1).toNat (ffv xs ys xs.length)

/-- What FromFrobenius says. -/
def ffErr (xs ys : List Int) : Int :=
  if xs.length = ys.length ∧ goesB 0 1 xs = true ∧ goesB 0 1 ys = true then (if (xs.length : Int) + sum xs + sum ys ≤ 40 then 0 else 2) else 1

theorem room_neg (zs : List Int) (r : Int) (hr : r < 0) (h : ∀ z ∈ zs, 0 ≤ z) : room r zs < 0 := by
  cases zs with
  | nil => exact hr
  | cons n l => rw [room, if_pos (by have := h n (by simp); omega)]; omega

theorem sum_nonneg {zs : List Int} (h : ∀ z ∈ zs, 0 ≤ z) : 0 ≤ sum zs := by have := sum_ge (m := 0) h; omega

/-- The two rooms, one behind the other. -/
theorem room_two (xs ys : List Int) (hx : ∀ z ∈ xs, 0 ≤ z) (hy : ∀ z ∈ ys, 0 ≤ z) (r : Int) : (room (room r xs) ys < 0 ↔ ¬ sum xs + sum ys ≤ r) := by
  have h1 := sum_nonneg hx
  have h2 := sum_nonneg hy
  by_cases hr : r < 0
  · have := room_neg ys _ (room_neg xs r hr hx) hy
    constructor
    · intro _; omega
    · intro _; exact this
  · rw [room_eq xs r hx (by omega)]
    by_cases h3 : sum xs ≤ r
    · rw [if_pos h3, room_eq ys _ hy (by omega)]
      by_cases h4 : sum ys ≤ r - sum xs
      · rw [if_pos h4]; constructor <;> intro h <;> omega
      · rw [if_neg h4]; constructor <;> intro h <;> omega
    · rw [if_neg h3]
      have := room_neg ys (-1) (by omega) hy
      constructor
      · intro _; omega
      · intro _; exact this

theorem room_range (zs : List Int) (r : Int) (h : ∀ z ∈ zs, 0 ≤ z) (h1 : -9223372036854775808 ≤ r) (h2 : r ≤ 40) : -9223372036854775808 ≤ room r zs ∧ room r zs ≤ 40 := by
  by_cases hr : -1 ≤ r
  · have := room_le zs r h hr; omega
  · cases zs with
    | nil => exact ⟨h1, h2⟩
    | cons n l => rw [room, if_pos (by have := h n (by simp); omega)]; omega

theorem Goes.nonneg {zs : List Int} (h : Goes 0 1 zs) : ∀ z ∈ zs, 0 ≤ z := fun _ hz => h.mem hz
/-- What falls goes down by at least one a place. -/
theorem Goes.fall {m : Int} {zs : List Int} (h : Goes m 1 zs) : ∀ (d i : Nat), i + d < zs.length → zs.getD (i + d) 0 + d ≤ zs.getD i 0 := by
  intro d
  induction d with
  | zero => intro i _; simp
  | succ d ih =>
    intro i hi
    have h1 := ih i (by omega)
    have h2 := (h (i + d + 1) (by omega)).2 (by omega)
    rw [Nat.add_sub_cancel] at h2
    rw [show i + (d + 1) = i + d + 1 by omega]; omega

set_option maxHeartbeats 2000000 in
theorem FF_arg (a b : Option Addr) (ca cb : Nat) (xs ys : List Int) (w : World) (hs : Shows w a xs) (ht : Shows w b ys) (h : ¬ (xs.length = ys.length ∧ goesB 0 1 xs = true ∧ goesB 0 1 ys = true)) :
    Calls Try.prog 15 #[.slice a xs.length ca, .slice b ys.length cb] w fun e w' => e = .returned (.tuple #[.slice none 0 0, .int .i64 1]) ∧ w' = w := by
  have hl := hs.len
  have hl2 := ht.len
  by_cases h1 : xs.length = ys.length
  · have hb : ((xs.length : Int) != (ys.length : Int)) = false := by rw [h1]; simp
    by_cases h2 : goesB 0 1 xs = true
    · have H2 : Hid (goesB 0 1 xs = true) := h2
      have H3 : Hid (goesB 0 1 ys = false) := by
        show _ = _
        cases e : goesB 0 1 ys with
        | false => rfl
        | true => exact absurd ⟨h1, h2, e⟩ h
      clear h h1 h2
      go_enter Try.func15, Try.ntmps15
      go_wp2_with fail
      refine (falls_is _ _ _ _ hs H2).mono ?_
      rintro e w' ⟨rfl, rfl⟩
      go_wp2_with fail
      refine (falls_is _ _ _ _ ht H3).mono ?_
      rintro e w'' ⟨rfl, rfl⟩
      go_wp2_with fail
      go_ret2
      exact ⟨rfl, rfl⟩
    · have H2 : Hid (goesB 0 1 xs = false) := by simpa [Hid] using h2
      clear h h1 h2
      go_enter Try.func15, Try.ntmps15
      go_wp2_with fail
      refine (falls_is _ _ _ _ hs H2).mono ?_
      rintro e w' ⟨rfl, rfl⟩
      go_wp2_with fail
      go_ret2
      exact ⟨rfl, rfl⟩
  · have hb : ((xs.length : Int) != (ys.length : Int)) = true := bne_iff_ne.2 (by omega)
    clear h h1
    go_enter Try.func15, Try.ntmps15
    go_wp2_with fail
    go_ret2
    exact ⟨rfl, rfl⟩

set_option maxHeartbeats 2000000 in
theorem FF_large (a b : Option Addr) (ca cb : Nat) (xs ys : List Int) (w : World) (hs : Shows w a xs) (ht : Shows w b ys) (h1 : xs.length = ys.length) (h2 : Goes 0 1 xs) (h3 : Goes 0 1 ys) (hL : ¬ (xs.length : Int) + sum xs + sum ys ≤ 40) :
    Calls Try.prog 15 #[.slice a xs.length ca, .slice b ys.length cb] w fun e w' => e = .returned (.tuple #[.slice none 0 0, .int .i64 2]) ∧ w' = w := by
  have hl := hs.len
  have hl2 := ht.len
  have hb : ((xs.length : Int) != (ys.length : Int)) = false := by rw [h1]; simp
  have H2 : Hid (goesB 0 1 xs = true) := goesB_pos h2
  have H3 : Hid (goesB 0 1 ys = true) := goesB_pos h3
  have hrr := room_range xs (40 - xs.length) h2.nonneg (by omega) (by omega)
  have hneg := (room_two xs ys h2.nonneg h3.nonneg (40 - xs.length)).2 (by omega)
  obtain ⟨R, HR⟩ : ∃ R, Hid (R = room (40 - xs.length) xs) := ⟨_, rfl⟩
  rw [← HR.out] at hrr hneg
  obtain ⟨S, HS⟩ : ∃ S, Hid (S = room R ys) := ⟨_, rfl⟩
  rw [← HS.out] at hneg
  have H4 : Hid _ := h2.nonneg
  have H5 : Hid _ := h3.nonneg
  have c1 : Hid (∀ w, Shows w a xs → Calls Try.prog 31 #[.int .i64 (40 - (xs.length : Int)), .slice a xs.length ca] w fun e w' => e = .returned (.int .i64 R) ∧ w' = w) := fun w hs => by
    rw [HR.out]; exact roomLeft_any _ _ _ _ _ hs H4.out (by omega) (by omega)
  have c2 : Hid (∀ w, Shows w b ys → Calls Try.prog 31 #[.int .i64 R, .slice b ys.length cb] w fun e w' => e = .returned (.int .i64 S) ∧ w' = w) := fun w ht => by
    rw [HS.out]; exact roomLeft_any _ _ _ _ _ ht H5.out (by omega) (by omega)
  clear h1 h2 h3 hL
  go_enter Try.func15, Try.ntmps15
  go_wp2_with fail
  refine (falls_is _ _ _ _ hs H2).mono ?_
  rintro e w' ⟨rfl, rfl⟩
  go_wp2_with fail
  refine (falls_is _ _ _ _ ht H3).mono ?_
  rintro e w'' ⟨rfl, rfl⟩
  go_wp2_with fail
  refine (c1.out _ hs).mono ?_
  rintro e w3 ⟨rfl, rfl⟩
  go_wp2_with fail
  refine (c2.out _ ht).mono ?_
  rintro e w4 ⟨rfl, rfl⟩
  go_wp2_with fail
  go_ret2
  exact ⟨rfl, rfl⟩

#print axioms FF_large
end Go.Proofs.Ytnjbkiegeielhaa
