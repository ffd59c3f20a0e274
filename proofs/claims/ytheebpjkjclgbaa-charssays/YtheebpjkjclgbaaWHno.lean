/-
  hooks.Hooks and parts.Conjugate, where they refuse.
-/
import Derived.Test.YtheebpjkjclgbaaWHok
namespace Go.Proofs.Ytheebpjkjclgbaa
open Go.RowKit

set_option maxHeartbeats 2000000 in
theorem Conjugate_no (a : Option Addr) (n cap : Nat) (zs : List Int) (w : World) (hs : Shows w a zs) (hn : n = zs.length) (hp : ptC zs ≠ 0) :
    Calls Try.prog 35 #[.slice a n cap] w fun e w' => e = .returned (.tuple #[.slice none 0 0, .int .i64 (ptC zs)]) ∧ w' = w := by
  subst hn
  obtain ⟨k, HK⟩ : ∃ k, Hid (k = ptC zs) := ⟨_, rfl⟩
  rw [← HK.out] at hp ⊢
  have H1 := hid_w (PaCheck_any a cap zs w hs)
  rw [← HK.out] at H1
  have hk1 : (k == 0) = false := by simp [hp]
  have hk2 : (k != 0) = true := by simp [hp]
  clear hs
  go_enter Try.func35, Try.ntmps35
  go_wp2_with fail
  refine H1.out.mono ?_
  rintro e w1 ⟨rfl, hw1⟩
  obtain rfl := hw1
  go_wp2
  go_ret2
  exact ⟨rfl, rfl⟩

set_option maxHeartbeats 2000000 in
theorem HHooks_no (a : Option Addr) (n cap : Nat) (zs : List Int) (w : World) (hs : Shows w a zs) (hn : n = zs.length) (hp : ptC zs ≠ 0) :
    Calls Try.prog 17 #[.slice a n cap] w fun e w' => e = .returned (.tuple #[.slice none 0 0, .int .i64 (ptC zs)]) ∧ w' = w := by
  obtain ⟨k, HK⟩ : ∃ k, Hid (k = ptC zs) := ⟨_, rfl⟩
  have H1 := hid_w (Conjugate_no a n cap zs w hs hn hp)
  rw [← HK.out] at hp H1 ⊢
  have hk1 : (k == 0) = false := by simp [hp]
  have hk2 : (k != 0) = true := by simp [hp]
  clear hs hn
  go_enter Try.func17, Try.ntmps17
  go_wp2_with fail
  refine H1.out.mono ?_
  rintro e w1 ⟨rfl, hw1⟩
  obtain rfl := hw1
  go_wp2
  go_ret2
  exact ⟨rfl, rfl⟩

end Go.Proofs.Ytheebpjkjclgbaa
