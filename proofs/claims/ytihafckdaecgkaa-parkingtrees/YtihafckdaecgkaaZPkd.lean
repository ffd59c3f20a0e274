/-
  The contracts of ferref.Cars, Parked.
-/
import Derived.Test.YtihafckdaecgkaaZPlm
import Derived.Test.YtihafckdaecgkaaQCnI
namespace Go.Proofs.Ytihafckdaecgkaa
open Go.RowKit

set_option maxHeartbeats 2000000 in
set_option maxRecDepth 100000 in
theorem Cars_at (a : Option Addr) (n cap : Nat) (zs : List Int) (m c : Int) (w : World) (hs : Shows w a zs) (hn : n = zs.length) (hc : plC zs m = c) :
    Calls Try.prog 13 #[.slice a n cap, .int .i64 m] w fun e w' => e = .returned (.int .i64 c) ∧ w' = w := by
  subst hn
  have hl := hs.len
  by_cases h20 : 20 < zs.length
  · have hb : decide ((zs.length : Int) > 20) = true := by simp; omega
    obtain rfl : c = 2 := by rw [← hc]; unfold plC; rw [if_pos h20]
    clear h20 hc
    go_enter Try.func13, Try.ntmps13
    go_wp2
    go_ret
    exact ⟨rfl, rfl⟩
  · have hb : decide ((zs.length : Int) > 20) = false := by simp; omega
    have HC : Hid (c = if inIv zs 1 m = true then 0 else 1) := by show _ = _; rw [← hc]; unfold plC; rw [if_neg h20]
    clear h20 hc
    go_enter Try.func13, Try.ntmps13
    go_wp2
    go_loop [5] (fun j => ∃ k : Nat, k ≤ zs.length ∧ j = .int .i64 k ∧ Hid (∀ j, j < k → 1 ≤ zs.getD j 0 ∧ zs.getD j 0 ≤ m)) (fun j => zs.length - (intOf j).toNat)
    case atStart => exact ⟨0, Nat.zero_le _, rfl, fun j hj => by omega⟩
    case round =>
      obtain ⟨k, hk, rfl, HR⟩ := hrel
      by_cases hlt : k < zs.length
      · have hlt' : (k : Int) < (zs.length : Int) := by omega
        obtain ⟨b, off, z, rfl, HZ, -, -, hc⟩ := hs.elem hlt
        by_cases h1 : z < 1
        · have hb1 : decide (z < 1) = true := by simpa using h1
          have HE : Hid (c = 1) := by show _ = _; rw [HC.out, if_neg (by rw [inIv_no hlt (Or.inl (by rw [← HZ.out]; exact h1))]; simp)]
          obtain rfl := HE.out
          go_wp2
          go_ret
          exact ⟨rfl, rfl⟩
        · have hb1 : decide (z < 1) = false := by simpa using h1
          by_cases h2 : m < z
          · have hb2 : decide (z > m) = true := by simpa using h2
            have HE : Hid (c = 1) := by show _ = _; rw [HC.out, if_neg (by rw [inIv_no hlt (Or.inr (by rw [← HZ.out]; exact h2))]; simp)]
            obtain rfl := HE.out
            go_wp2
            go_ret
            exact ⟨rfl, rfl⟩
          · have hb2 : decide (z > m) = false := by simpa using h2
            have HE : Hid (1 ≤ z ∧ z ≤ m) := ⟨by omega, by omega⟩
            go_wp2
            go_round
            case rel => exact ⟨k + 1, by omega, by go_num, fun j hj => by
                          by_cases hj' : j < k
                          · exact HR.out j hj'
                          · obtain rfl : j = k := by omega
                            rw [← HZ.out]; exact HE.out⟩
            case measure => simp [intOf]; omega
      · have HE : Hid (c = 0) := by show _ = _; rw [HC.out, if_pos (inIv_all (fun j hj => HR.out j (by omega)))]
        obtain rfl := HE.out
        go_wp2
        go_ret
        exact ⟨rfl, rfl⟩

/-- While the last place is free nobody goes round. -/
theorem Nx.line {N : Nat} {T : Nat → Bool} {p x : Nat} (h : Nx N T p x) (hp : p < N) (hT : T (N - 1) = false) : p ≤ x ∧ ∀ j, p ≤ j → j < x → T j = true := by
  obtain ⟨d, h1, h2, h3, h4⟩ := h
  have hd : p + d ≤ N - 1 := by
    rcases Nat.lt_or_ge (N - 1 - p) d with hlt | hge
    · have := h4 (N - 1 - p) hlt
      rw [show p + (N - 1 - p) = N - 1 by omega, Nat.mod_eq_of_lt (by omega), hT] at this; cases this
    · omega
  rw [Nat.mod_eq_of_lt (by omega)] at h2
  refine ⟨by omega, fun j hj1 hj2 => ?_⟩
  have := h4 (j - p) (by omega)
  rw [show p + (j - p) = j by omega, Nat.mod_eq_of_lt (by omega)] at this; exact this
theorem mem_plcs {N : Nat} {l : List Nat} {j : Nat} : ((j : Int) + 1 ∈ plcs N l) ↔ pfin N l none0 j = true := by
  rw [pfin_iff]
  unfold plcs
  rw [List.mem_map]
  constructor
  · rintro ⟨x, hx, he⟩
    obtain rfl : x = j := by omega
    exact Or.inr hx
  · rintro (h | h)
    · cases h
    · exact ⟨j, h, rfl⟩
theorem pfin_take {N : Nat} (l : List Nat) (k j : Nat) (h : pfin N (l.take k) none0 j = true) : pfin N l none0 j = true := by
  have e : ∀ (a b : List Nat) (T : Nat → Bool), pfin N (a ++ b) T = pfin N b (pfin N a T) := by
    intro a
    induction a with
    | nil => intro b T; rfl
    | cons q a ih => intro b T; exact ih b _
  rw [← List.take_append_drop k l, e]
  exact pfin_keeps _ _ _ h
end Go.Proofs.Ytihafckdaecgkaa
