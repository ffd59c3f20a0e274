/-
  The contracts of chars.size, chars.factorial and chars.Class; of slices.Index.
-/
import Derived.Test.YtheebpjkjclgbaaHChT
import Derived.Test.YtheebpjkjclgbaaWPck
namespace Go.Proofs.Ytheebpjkjclgbaa
open Go.RowKit

def IdxR (zs : List Int) (x : Int) (i : Int) : Prop := (i = -1 ∧ x ∉ zs) ∨ ∃ k : Nat, i = (k : Int) ∧ k < zs.length ∧ zs.getD k 0 = x ∧ ∀ j, j < k → zs.getD j 0 ≠ x

theorem IdxR.uniq {zs : List Int} {x i j : Int} (h : IdxR zs x i) (h2 : IdxR zs x j) : i = j := by
  rcases h with ⟨h1, h3⟩ | ⟨k, rfl, hk, hk1, hk2⟩
  · rcases h2 with ⟨h4, _⟩ | ⟨m, rfl, hm, hm1, _⟩
    · omega
    · exact absurd (hm1 ▸ getD_mem hm) h3
  · rcases h2 with ⟨_, h3⟩ | ⟨m, rfl, hm, hm1, hm2⟩
    · exact absurd (hk1 ▸ getD_mem hk) h3
    · rcases Nat.lt_trichotomy k m with h | h | h
      · exact absurd hk1 (hm2 k h)
      · omega
      · exact absurd hm1 (hk2 m h)

set_option maxHeartbeats 2000000 in
theorem Index_any (a : Option Addr) (cap : Nat) (zs : List Int) (x : Int) (i : Int) (w : World) (hs : Shows w a zs) (hi : IdxR zs x i) :
    Calls Try.prog 18 #[.slice a zs.length cap, .int .i64 x] w fun e w' => e = .returned (.int .i64 i) ∧ w' = w := by
  have hl := hs.len
  have HI : Hid (IdxR zs x i) := hi
  clear hi
  go_enter Try.func18, Try.ntmps18
  go_wp2
  go_loop [8] (fun j => ∃ k : Nat, k ≤ zs.length ∧ j = .int .i64 k ∧ Hid (∀ j, j < k → zs.getD j 0 ≠ x)) (fun j => zs.length - (intOf j).toNat)
  case atStart => exact ⟨0, Nat.zero_le _, rfl, fun j hj => by omega⟩
  case round =>
    obtain ⟨k, hk, rfl, HR⟩ := hrel
    by_cases hlt : k < zs.length
    · have hlt' : (k : Int) < (zs.length : Int) := by omega
      obtain ⟨b, off, z, rfl, HZ, -, -, hc⟩ := hs.elem hlt
      by_cases hxz : x = z
      · have hb : (x == z) = true := by simpa using hxz
        have HE : Hid (i = (k : Int)) := HI.out.uniq (Or.inr ⟨k, rfl, hlt, by rw [← HZ.out, hxz], HR.out⟩)
        obtain rfl := HE.out
        clear hxz
        go_wp2
        go_ret
        exact ⟨rfl, rfl⟩
      · have hb : (x == z) = false := beq_eq_false_iff_ne.2 hxz
        have HE : Hid (z ≠ x) := fun e => hxz e.symm
        clear hxz
        go_wp2
        go_round
        case rel => exact ⟨k + 1, by omega, by go_num, fun j hj => by
                      by_cases hj' : j < k
                      · exact HR.out j hj'
                      · obtain rfl : j = k := by omega
                        rw [← HZ.out]; exact HE.out⟩
        case measure => simp [intOf]; omega
    · have HE : Hid (i = -1) := HI.out.uniq (Or.inl ⟨rfl, fun hm => by
        obtain ⟨j, hj, he⟩ := List.mem_iff_getElem.1 hm
        have := HR.out j (by omega)
        rw [List.getD_eq_getElem?_getD, List.getElem?_eq_getElem hj, Option.getD_some] at this
        exact this he⟩)
      obtain rfl := HE.out
      go_wp2
      go_ret
      exact ⟨rfl, rfl⟩

set_option maxHeartbeats 1000000 in
theorem csize_pt (a : Option Addr) (n cap : Nat) (zs : List Int) (w : World) (hs : Shows w a zs) (hn : n = zs.length) (hp : IsPt zs) (hz : szN zs ≤ 1000) :
    Calls Try.prog 26 #[.slice a n cap] w fun e w' => e = .returned (.int .i64 (szN zs : Int)) ∧ w' = w := by
  subst hn
  have hlen : zs.length ≤ 40 := hp.len
  have HE : Hid (sum zs = (szN zs : Int)) := szN_is hp
  have hb := fun k => sum_takeZ_le (zs := zs) (fun z hz => by have := hp.range z hz; omega) k
  rw [szN_is hp] at hb
  go_enter Try.func26, Try.ntmps26
  go_wp2
  go_loop [3, 8] (fun t i => ∃ k : Nat, k ≤ zs.length ∧ i = .int .i64 k ∧ t = .int .i64 (sum (zs.take k))) (fun _ i => zs.length - (intOf i).toNat)
  case atStart => exact ⟨0, Nat.zero_le _, rfl, by simp [sum]⟩
  case round =>
    obtain ⟨k, hk, rfl, rfl⟩ := hrel
    by_cases hlt : k < zs.length
    · obtain ⟨b, off, z, rfl, HZ, hz1, hz2, hc⟩ := hs.elem (k := k) hlt
      have h1 := sum_takeZ hlt
      rw [← HZ.out] at h1
      have h2 := hb k
      have h3 := hb (k + 1)
      have hlt' : (k : Int) < (zs.length : Int) := by omega
      obtain ⟨S, HS⟩ : ∃ S, Hid (S = sum (zs.take k)) := ⟨_, rfl⟩
      rw [h1] at h3
      rw [← HS.out] at h1 h2 h3 ⊢
      have HS2 : Hid (sum (zs.take (k + 1)) = S + z) := h1
      have b1 : S + z ≤ 1000 := by omega
      have b2 : 0 ≤ S + z := h3.1
      have b3 : 0 ≤ S := h2.1
      have b4 : S ≤ 1000 := by omega
      clear h1 h2 h3
      go_wp2
      go_round
      case rel => exact ⟨k + 1, by omega, by go_num, by rw [HS2.out]⟩
      case measure => simp [intOf]; omega
    · obtain rfl : k = zs.length := by omega
      have hlt' : ¬ ((zs.length : Int) < (zs.length : Int)) := by omega
      go_wp2
      go_ret
      exact ⟨by rw [← HE.out]; first | rfl | (rw [List.take_length]; rfl), rfl⟩

theorem fcT_pos : ∀ n, 0 < fcT n
  | 0 => by decide
  | n + 1 => Nat.mul_pos (fcT_pos n) (by omega)
theorem fcT_mono {a : Nat} : ∀ d, fcT a ≤ fcT (a + d)
  | 0 => Nat.le_refl _
  | d + 1 => Nat.le_trans (fcT_mono d) (by rw [← Nat.add_assoc, fcT]; exact Nat.le_mul_of_pos_right _ (by omega))
theorem fcT_le {n : Nat} (h : n ≤ 12) : fcT n ≤ 479001600 := by
  have h1 := fcT_mono (a := n) (12 - n)
  rw [show n + (12 - n) = 12 by omega] at h1
  exact Nat.le_trans h1 (by decide)
set_option maxHeartbeats 1000000 in
theorem cfact_at (n : Nat) (w : World) (hn : n ≤ 12) :
    Calls Try.prog 28 #[.int .i64 (n : Int)] w fun e w' => e = .returned (.int .i64 (fcT n : Int)) ∧ w' = w := by
  go_enter Try.func28, Try.ntmps28
  go_wp2
  go_loop [3, 6] (fun t i => ∃ k : Nat, k ≤ n ∧ i = .int .i64 k ∧ t = .int .i64 (fcT k : Int)) (fun _ i => n - (intOf i).toNat)
  case atStart => exact ⟨0, Nat.zero_le _, rfl, rfl⟩
  case round =>
    obtain ⟨k, hk, rfl, rfl⟩ := hrel
    by_cases hlt : k < n
    · have hlt' : (k : Int) < (n : Int) := by omega
      obtain ⟨F, HF⟩ : ∃ F, Hid (F = fcT k) := ⟨_, rfl⟩
      rw [← HF.out]
      have h1 := fcT_le (n := k + 1) (by omega)
      rw [fcT, ← HF.out] at h1
      have hm : IntKind.i64.wrap ((F : Int) * ((k : Int) + 1)) = (F : Int) * ((k : Int) + 1) := by
        rw [IntWalk.i64_left, IntWalk.wrap64_in]
        have e : (F : Int) * ((k : Int) + 1) = ((F * (k + 1) : Nat) : Int) := by simp
        rw [e]; omega
      have HN : Hid (((fcT (k + 1) : Nat) : Int) = (F : Int) * ((k : Int) + 1)) := by show _ = _; rw [fcT, ← HF.out]; simp
      clear h1
      go_wp2
      go_round
      case rel => exact ⟨k + 1, by omega, by go_num, by rw [HN.out]⟩
      case measure => simp [intOf]; omega
    · obtain rfl : k = n := by omega
      have hlt' : ¬ ((k : Int) < (k : Int)) := by omega
      go_wp2
      go_ret
      exact ⟨rfl, rfl⟩

end Go.Proofs.Ytheebpjkjclgbaa
