/-
  hooks.Standard and hooks.Below of what is no partition.
-/
import Derived.Test.YtmbpcapjldbkbaaGreatDoorWBel
import Derived.Test.YtmbpcapjldbkbaaGreatDoorWFil
namespace Go.Proofs.YtmbpcapjldbkbaaGreatDoor
open Go.RowKit

set_option maxHeartbeats 2000000 in
theorem HStd_no (a : Option Addr) (n cap : Nat) (zs : List Int) (w : World) (hs : Shows w a zs) (hn : n = zs.length) (hp : ptC zs ≠ 0) :
    Calls Tryz.prog 13 #[.slice a n cap] w fun e w' => e = .returned (.tuple #[.string ⟨#[]⟩, .int .i64 (ptC zs)]) ∧ w' = w := by
  obtain ⟨k, HK⟩ : ∃ k, Hid (k = ptC zs) := ⟨_, rfl⟩
  have H1 := hid_w (HHooks_no a n cap zs w hs hn hp)
  rw [← HK.out] at hp H1 ⊢
  have hk1 : (k == 0) = false := by simp [hp]
  have hk2 : (k != 0) = true := by simp [hp]
  clear hs hn
  go_enter Tryz.func13, Tryz.ntmps13
  go_wp2_with fail
  refine H1.out.mono ?_
  rintro e w1 ⟨rfl, hw1⟩
  obtain rfl := hw1
  go_wp2
  go_ret2
  exact ⟨rfl, rfl⟩

set_option maxHeartbeats 2000000 in
theorem HBelow_no (a : Option Addr) (n cap : Nat) (zs : List Int) (w : World) (hs : Shows w a zs) (hn : n = zs.length) (hp : ptC zs ≠ 0) :
    Calls Tryz.prog 15 #[.slice a n cap] w fun e w' => e = .returned (.tuple #[.slice none 0 0, .int .i64 (ptC zs)]) ∧ w' = w := by
  subst hn
  obtain ⟨k, HK⟩ : ∃ k, Hid (k = ptC zs) := ⟨_, rfl⟩
  rw [← HK.out] at hp ⊢
  have H1 := hid_w (PaCheck_any a cap zs w hs)
  rw [← HK.out] at H1
  have hk1 : (k == 0) = false := by simp [hp]
  have hk2 : (k != 0) = true := by simp [hp]
  clear hs
  go_enter Tryz.func15, Tryz.ntmps15
  go_wp2_with fail
  refine H1.out.mono ?_
  rintro e w1 ⟨rfl, hw1⟩
  obtain rfl := hw1
  go_wp2
  go_ret2
  exact ⟨rfl, rfl⟩

end Go.Proofs.YtmbpcapjldbkbaaGreatDoor
