/-
  The contracts of ferref.Pick and of ferref.Size at a partition.
-/
import Derived.Test.YtheebpjkjclgbaaHChr
namespace Go.Proofs.Ytheebpjkjclgbaa
open Go.RowKit

theorem sum_takeZ {zs : List Int} {k : Nat} (hk : k < zs.length) : sum (zs.take (k + 1)) = sum (zs.take k) + zs.getD k 0 := by
  induction zs generalizing k with
  | nil => simp at hk
  | cons z l ih =>
    cases k with
    | zero => simp [sum]
    | succ k =>
      rw [List.take_succ_cons, List.take_succ_cons, sum, sum, ih (by simpa using hk)]
      simp [List.getD]; omega
theorem sum_takeZ_le {zs : List Int} (h : ∀ z ∈ zs, 0 ≤ z) (k : Nat) : 0 ≤ sum (zs.take k) ∧ sum (zs.take k) ≤ sum zs := by
  induction zs generalizing k with
  | nil => simp [sum]
  | cons z l ih =>
    cases k with
    | zero =>
      have := (ih (fun y hy => h y (by simp [hy])) l.length)
      rw [List.take_length] at this
      have := h z (by simp)
      simp only [List.take_zero, sum]; omega
    | succ k =>
      have := ih (fun y hy => h y (by simp [hy])) k
      have := h z (by simp)
      rw [List.take_succ_cons, sum, sum]; omega
theorem szN_is {zs : List Int} (h : IsPt zs) : sum zs = (szN zs : Int) := by
  rw [sum_sZ zs (fun z hz => by have := h.range z hz; omega), szN_sum (Nat.le_refl _)]
set_option maxHeartbeats 1000000 in
theorem RSize_pt (a : Option Addr) (n cap : Nat) (zs : List Int) (w : World) (hs : Shows w a zs) (hn : n = zs.length) (hp : IsPt zs) (hz : szN zs ≤ 1000) :
    Calls Try.prog 10 #[.slice a n cap] w fun e w' => e = .returned (.int .i64 (szN zs : Int)) ∧ w' = w := by
  subst hn
  have hlen : zs.length ≤ 40 := hp.len
  have HE : Hid (sum zs = (szN zs : Int)) := szN_is hp
  have hb := fun k => sum_takeZ_le (zs := zs) (fun z hz => by have := hp.range z hz; omega) k
  rw [szN_is hp] at hb
  go_enter Try.func10, Try.ntmps10
  go_wp2
  go_loop [3, 4] (fun t i => ∃ k : Nat, k ≤ zs.length ∧ i = .int .i64 k ∧ t = .int .i64 (sum (zs.take k))) (fun _ i => zs.length - (intOf i).toNat)
  case atStart => exact ⟨0, Nat.zero_le _, rfl, by simp [sum]⟩
  case round =>
    obtain ⟨k, hk, rfl, rfl⟩ := hrel
    by_cases hlt : k < zs.length
    · obtain ⟨b, off, z, rfl, HZ, hz1, hz2, hc⟩ := hs.elem (k := k) hlt
      have h1 := sum_takeZ hlt
      rw [← HZ.out] at h1
      have h2 := hb k
      have h3 := hb (k + 1)
      have hlt' : (k : Int) < (zs.length : Int) := by omega
      obtain ⟨S, HS⟩ : ∃ S, Hid (S = sum (zs.take k)) := ⟨_, rfl⟩
      rw [h1] at h3
      rw [← HS.out] at h1 h2 h3 ⊢
      have HS2 : Hid (sum (zs.take (k + 1)) = S + z) := h1
      have b1 : S + z ≤ 1000 := by omega
      have b2 : 0 ≤ S + z := h3.1
      have b3 : 0 ≤ S := h2.1
      have b4 : S ≤ 1000 := by omega
      clear h1 h2 h3
      go_wp2
      go_round
      case rel => exact ⟨k + 1, by omega, by go_num, by rw [HS2.out]⟩
      case measure => simp [intOf]; omega
    · obtain rfl : k = zs.length := by omega
      have hlt' : ¬ ((zs.length : Int) < (zs.length : Int)) := by omega
      go_wp2
      go_ret
      exact ⟨by rw [← HE.out]; first | rfl | (rw [List.take_length]; rfl), rfl⟩

end Go.Proofs.Ytheebpjkjclgbaa
