/-
  The contracts of perms.Letters, ferref.Letters, over fewer texts.
-/
import Derived.Test.YtpbmcaoomcippadBApp
namespace Go.Proofs.Ytpbmcaoomcippad
open Go.RowKit

/-- A word: letters from 1 to 99. -/
def okW (zs : List Int) : Bool := zs.all fun z => decide (1 ≤ z) && decide (z ≤ 99)
def lchk (zs : List Int) : Int := if 40 < zs.length then 2 else if okW zs = true then 0 else 1

theorem okW_iff {zs : List Int} : okW zs = true ↔ ∀ z ∈ zs, 1 ≤ z ∧ z ≤ 99 := by simp [okW]
theorem lchk_ok {zs : List Int} : lchk zs = 0 ↔ zs.length ≤ 40 ∧ ∀ z ∈ zs, 1 ≤ z ∧ z ≤ 99 := by
  unfold lchk
  by_cases h : 40 < zs.length
  · rw [if_pos h]; constructor
    · intro h; omega
    · rintro ⟨h1, _⟩; omega
  · rw [if_neg h, ← okW_iff]
    by_cases h2 : okW zs = true
    · rw [if_pos h2]; simp [h2]; omega
    · rw [if_neg h2]; constructor
      · intro h; omega
      · rintro ⟨_, h3⟩; exact absurd h3 h2

theorem okW_bad {zs : List Int} {k : Nat} (hk : k < zs.length) (h : zs.getD k 0 < 1 ∨ 99 < zs.getD k 0) : okW zs = false := by
  cases e : okW zs with
  | false => rfl
  | true => have := okW_iff.1 e _ (getD_mem hk); omega

set_option maxHeartbeats 1000000 in
theorem Letters_any (a : Option Addr) (cap : Nat) (zs : List Int) (w : World) (hs : Shows w a zs) :
    Calls Try.prog 36 #[.slice a zs.length cap] w fun e w' => e = .returned (.int .i64 (lchk zs)) ∧ w' = w := by
  have hl := hs.len
  by_cases h40 : 40 < zs.length
  · have hb : decide ((zs.length : Int) > 40) = true := by simp; omega
    have H : Hid (lchk zs = 2) := by show _ = _; unfold lchk; rw [if_pos h40]
    clear h40
    go_enter Try.func36, Try.ntmps36
    go_wp2
    go_ret
    exact ⟨ret_int H.out.symm, rfl⟩
  · have hb : decide ((zs.length : Int) > 40) = false := by simp; omega
    have H : Hid (lchk zs = if okW zs = true then 0 else 1) := by show _ = _; unfold lchk; rw [if_neg h40]
    have h40' : zs.length ≤ 40 := by omega
    clear h40
    go_enter Try.func36, Try.ntmps36
    go_wp2
    go_loop [10] (fun i => ∃ k : Nat, k ≤ zs.length ∧ i = .int .i64 k ∧ Hid (∀ i, i < k → 1 ≤ zs.getD i 0 ∧ zs.getD i 0 ≤ 99)) (fun i => zs.length - (intOf i).toNat)
    case atStart => exact ⟨0, Nat.zero_le _, rfl, fun j hj => by omega⟩
    case round =>
      obtain ⟨k, hk, rfl, HR⟩ := hrel
      by_cases hlt : k < zs.length
      · have hlt' : (k : Int) < (zs.length : Int) := by omega
        obtain ⟨b, off, z, rfl, HZ, hz1, hz2, hc⟩ := hs.elem hlt
        by_cases h1 : z < 1
        · have hb1 : decide (z < 1) = true := by simpa using h1
          have HE : Hid (okW zs = false) := okW_bad hlt (Or.inl (by rw [← HZ.out]; exact h1))
          go_wp2
          go_ret
          exact ⟨ret_int (by rw [H.out, HE.out]; rfl), rfl⟩
        · have hb1 : decide (z < 1) = false := by simpa using h1
          by_cases h2 : 99 < z
          · have hb2 : decide (z > 99) = true := by simpa using h2
            have HE : Hid (okW zs = false) := okW_bad hlt (Or.inr (by rw [← HZ.out]; exact h2))
            go_wp2
            go_ret
            exact ⟨ret_int (by rw [H.out, HE.out]; rfl), rfl⟩
          · have hb2 : decide (z > 99) = false := by simpa using h2
            have HE : Hid (1 ≤ z ∧ z ≤ 99) := ⟨by omega, by omega⟩
            go_wp2
            go_round
            case rel => exact ⟨k + 1, by omega, by go_num, fun j hj => by
                          by_cases hj' : j < k
                          · exact HR.out j hj'
                          · obtain rfl : j = k := by omega
                            rw [← HZ.out]; exact HE.out⟩
            case measure => simp [intOf]; omega
      · go_wp2
        go_ret
        refine ⟨ret_int ?_, rfl⟩
        have : okW zs = true := okW_iff.2 (fun z hz => by
          obtain ⟨j, hj, rfl⟩ := List.mem_iff_getElem.1 hz
          have := HR.out j (by omega)
          simpa [List.getD, List.getElem?_eq_getElem hj] using this)
        rw [H.out, if_pos this]

theorem Letters_is {c : Int} (a : Option Addr) (n cap : Nat) (zs : List Int) (w : World) (hs : Shows w a zs) (hn : n = zs.length) (E : Hid (lchk zs = c)) :
    Calls Try.prog 36 #[.slice a n cap] w fun e w' => e = .returned (.int .i64 c) ∧ w' = w := by
  subst hn; have := Letters_any a cap zs w hs; rw [E.out] at this; exact this
set_option maxHeartbeats 1000000 in
theorem RLetters_any (a : Option Addr) (n cap : Nat) (zs : List Int) (w : World) (hs : Shows w a zs) (hn : n = zs.length) :
    Calls Try.prog 10 #[.slice a n cap] w fun e w' => e = .returned (.int .i64 (lchk zs)) ∧ w' = w := by
  subst hn
  have hl := hs.len
  by_cases h40 : 40 < zs.length
  · have hb : decide ((zs.length : Int) > 40) = true := by simp; omega
    have H : Hid (lchk zs = 2) := by show _ = _; unfold lchk; rw [if_pos h40]
    clear h40
    go_enter Try.func10, Try.ntmps10
    go_wp2
    go_ret
    exact ⟨ret_int H.out.symm, rfl⟩
  · have hb : decide ((zs.length : Int) > 40) = false := by simp; omega
    have H : Hid (lchk zs = if okW zs = true then 0 else 1) := by show _ = _; unfold lchk; rw [if_neg h40]
    have h40' : zs.length ≤ 40 := by omega
    clear h40
    go_enter Try.func10, Try.ntmps10
    go_wp2
    go_loop [3] (fun i => ∃ k : Nat, k ≤ zs.length ∧ i = .int .i64 k ∧ Hid (∀ i, i < k → 1 ≤ zs.getD i 0 ∧ zs.getD i 0 ≤ 99)) (fun i => zs.length - (intOf i).toNat)
    case atStart => exact ⟨0, Nat.zero_le _, rfl, fun j hj => by omega⟩
    case round =>
      obtain ⟨k, hk, rfl, HR⟩ := hrel
      by_cases hlt : k < zs.length
      · have hlt' : (k : Int) < (zs.length : Int) := by omega
        obtain ⟨b, off, z, rfl, HZ, hz1, hz2, hc⟩ := hs.elem hlt
        by_cases h1 : z < 1
        · have hb1 : decide (z < 1) = true := by simpa using h1
          have HE : Hid (okW zs = false) := okW_bad hlt (Or.inl (by rw [← HZ.out]; exact h1))
          go_wp2
          go_ret
          exact ⟨ret_int (by rw [H.out, HE.out]; rfl), rfl⟩
        · have hb1 : decide (z < 1) = false := by simpa using h1
          by_cases h2 : 99 < z
          · have hb2 : decide (z > 99) = true := by simpa using h2
            have HE : Hid (okW zs = false) := okW_bad hlt (Or.inr (by rw [← HZ.out]; exact h2))
            go_wp2
            go_ret
            exact ⟨ret_int (by rw [H.out, HE.out]; rfl), rfl⟩
          · have hb2 : decide (z > 99) = false := by simpa using h2
            have HE : Hid (1 ≤ z ∧ z ≤ 99) := ⟨by omega, by omega⟩
            go_wp2
            go_round
            case rel => exact ⟨k + 1, by omega, by go_num, fun j hj => by
                          by_cases hj' : j < k
                          · exact HR.out j hj'
                          · obtain rfl : j = k := by omega
                            rw [← HZ.out]; exact HE.out⟩
            case measure => simp [intOf]; omega
      · go_wp2
        go_ret
        refine ⟨ret_int ?_, rfl⟩
        have : okW zs = true := okW_iff.2 (fun z hz => by
          obtain ⟨j, hj, rfl⟩ := List.mem_iff_getElem.1 hz
          have := HR.out j (by omega)
          simpa [List.getD, List.getElem?_eq_getElem hj] using this)
        rw [H.out, if_pos this]

end Go.Proofs.Ytpbmcaoomcippad
