/-
  The contracts of parking.areWithin, checkPlaces, Check, slices.Index of bools, inRound.
-/
import Derived.Test.YtihafckdaecgkaaZOwb
import Derived.Test.YtihafckdaecgkaaZPrk
namespace Go.Proofs.Ytihafckdaecgkaa
open Go.RowKit

def inIv (zs : List Int) (lo hi : Int) : Bool := zs.all fun z => decide (lo ≤ z) && decide (z ≤ hi)
theorem inIv_iff {zs : List Int} {lo hi : Int} : inIv zs lo hi = true ↔ ∀ z ∈ zs, lo ≤ z ∧ z ≤ hi := by simp [inIv]
theorem inIv_no {zs : List Int} {lo hi : Int} {k : Nat} (hk : k < zs.length) (h : zs.getD k 0 < lo ∨ hi < zs.getD k 0) : inIv zs lo hi = false := by
  rw [Bool.eq_false_iff]; intro e
  have := inIv_iff.1 e _ (getD_mem hk)
  omega
theorem inIv_all {zs : List Int} {lo hi : Int} (h : ∀ j, j < zs.length → lo ≤ zs.getD j 0 ∧ zs.getD j 0 ≤ hi) : inIv zs lo hi = true := by
  rw [inIv_iff]; intro z hz
  obtain ⟨j, hj, rfl⟩ := List.mem_iff_getElem.1 hz
  have := h j hj
  rw [List.getD_eq_getElem?_getD, List.getElem?_eq_getElem hj, Option.getD_some] at this
  exact this

set_option maxHeartbeats 2000000 in
theorem areWithin_at (a : Option Addr) (n cap : Nat) (zs : List Int) (lo hi : Int) (t : Bool) (w : World) (hs : Shows w a zs) (hn : n = zs.length) (ht : inIv zs lo hi = t) :
    Calls Try.prog 27 #[.slice a n cap, .int .i64 lo, .int .i64 hi] w fun e w' => e = .returned (.bool t) ∧ w' = w := by
  subst hn
  have HT : Hid (inIv zs lo hi = t) := ht
  clear ht
  have hl := hs.len
  go_enter Try.func27, Try.ntmps27
  go_wp2
  go_loop [11] (fun j => ∃ k : Nat, k ≤ zs.length ∧ j = .int .i64 k ∧ Hid (∀ j, j < k → lo ≤ zs.getD j 0 ∧ zs.getD j 0 ≤ hi)) (fun j => zs.length - (intOf j).toNat)
  case atStart => exact ⟨0, Nat.zero_le _, rfl, fun j hj => by omega⟩
  case round =>
    obtain ⟨k, hk, rfl, HR⟩ := hrel
    by_cases hlt : k < zs.length
    · have hlt' : (k : Int) < (zs.length : Int) := by omega
      obtain ⟨b, off, z, rfl, HZ, -, -, hc⟩ := hs.elem hlt
      by_cases h1 : z < lo
      · have hb : decide (z < lo) = true := by simpa using h1
        have HE : Hid (t = false) := HT.out.symm.trans (inIv_no hlt (Or.inl (by rw [← HZ.out]; exact h1)))
        obtain rfl := HE.out
        clear h1
        go_wp2
        go_ret
        exact ⟨rfl, rfl⟩
      · have hb : decide (z < lo) = false := by simpa using h1
        by_cases h2 : hi < z
        · have hb2 : decide (z > hi) = true := by simpa using h2
          have HE : Hid (t = false) := HT.out.symm.trans (inIv_no hlt (Or.inr (by rw [← HZ.out]; exact h2)))
          obtain rfl := HE.out
          clear h1 h2
          go_wp2
          go_ret
          exact ⟨rfl, rfl⟩
        · have hb2 : decide (z > hi) = false := by simpa using h2
          have HE : Hid (lo ≤ z ∧ z ≤ hi) := ⟨by omega, by omega⟩
          clear h1 h2
          go_wp2
          go_round
          case rel => exact ⟨k + 1, by omega, by go_num, fun j hj => by
                        by_cases hj' : j < k
                        · exact HR.out j hj'
                        · obtain rfl : j = k := by omega
                          rw [← HZ.out]; exact HE.out⟩
          case measure => simp [intOf]; omega
    · have HE : Hid (t = true) := HT.out.symm.trans (inIv_all (fun j hj => HR.out j (by omega)))
      obtain rfl := HE.out
      go_wp2
      go_ret
      exact ⟨rfl, rfl⟩

/-- What checkPlaces answers. -/
def plC (zs : List Int) (m : Int) : Int := if 20 < zs.length then 2 else if inIv zs 1 m = true then 0 else 1
theorem plC_ok {zs : List Int} {m : Int} : plC zs m = 0 ↔ zs.length ≤ 20 ∧ ∀ z ∈ zs, 1 ≤ z ∧ z ≤ m := by
  unfold plC
  rw [← inIv_iff]
  split
  · constructor
    · intro h; cases h
    · intro h; omega
  · split
    · exact ⟨fun _ => ⟨by omega, by assumption⟩, fun _ => rfl⟩
    · constructor
      · intro h; cases h
      · rintro ⟨_, h⟩; contradiction

set_option maxHeartbeats 2000000 in
theorem checkPlaces_at (a : Option Addr) (n cap : Nat) (zs : List Int) (m c : Int) (w : World) (hs : Shows w a zs) (hn : n = zs.length) (hc : plC zs m = c) :
    Calls Try.prog 44 #[.slice a n cap, .int .i64 m] w fun e w' => e = .returned (.int .i64 c) ∧ w' = w := by
  subst hn
  have hl := hs.len
  by_cases h20 : 20 < zs.length
  · have hb : decide ((zs.length : Int) > 20) = true := by simp; omega
    obtain rfl : c = 2 := by rw [← hc]; unfold plC; rw [if_pos h20]
    clear h20 hc
    go_enter Try.func44, Try.ntmps44
    go_wp2
    go_ret
    exact ⟨rfl, rfl⟩
  · have hb : decide ((zs.length : Int) > 20) = false := by simp; omega
    cases ht : inIv zs 1 m with
    | true =>
      obtain rfl : c = 0 := by rw [← hc]; unfold plC; rw [if_neg h20, if_pos ht]
      have HC := areWithin_at a zs.length cap zs 1 m true w hs rfl ht
      clear h20 hc ht
      go_enter Try.func44, Try.ntmps44
      go_wp2_with fail
      refine HC.mono ?_
      rintro e w1 ⟨rfl, rfl⟩
      go_wp2
      go_ret
      exact ⟨rfl, rfl⟩
    | false =>
      obtain rfl : c = 1 := by rw [← hc]; unfold plC; rw [if_neg h20, if_neg (by rw [ht]; simp)]
      have HC := areWithin_at a zs.length cap zs 1 m false w hs rfl ht
      clear h20 hc ht
      go_enter Try.func44, Try.ntmps44
      go_wp2_with fail
      refine HC.mono ?_
      rintro e w1 ⟨rfl, rfl⟩
      go_wp2
      go_ret
      exact ⟨rfl, rfl⟩

set_option maxHeartbeats 2000000 in
theorem PkCheck_at (a : Option Addr) (n cap : Nat) (zs : List Int) (c : Int) (w : World) (hs : Shows w a zs) (hn : n = zs.length) (hc : plC zs zs.length = c) :
    Calls Try.prog 37 #[.slice a n cap] w fun e w' => e = .returned (.int .i64 c) ∧ w' = w := by
  subst hn
  have hl := hs.len
  have HC := checkPlaces_at a zs.length cap zs zs.length c w hs rfl hc
  go_enter Try.func37, Try.ntmps37
  go_wp2_with fail
  refine HC.mono ?_
  rintro e w1 ⟨rfl, rfl⟩
  go_wp2
  go_ret
  exact ⟨rfl, rfl⟩

set_option maxHeartbeats 2000000 in
theorem IndexB_at (g n cap f base : Nat) (T : Nat → Bool) (w : World) (ho : OwnsT w base (.slice (some ⟨g, 0, none⟩) n cap) (tabT n T)) (hn : n ≤ 1000) (hf : f < n) (hT : T f = false) (hu : ∀ j, j < f → T j = true) :
    Calls Try.prog 45 #[.slice (some ⟨g, 0, none⟩) n cap, .bool false] w fun e w' => e = .returned (.int .i64 (f : Int)) ∧ w' = w := by
  have HO : Hid (OwnsT w base (.slice (some ⟨g, 0, none⟩) n cap) (tabT n T)) := ho
  have HU : Hid (∀ j, j < f → T j = true) := hu
  have HF : Hid (T f = false) := hT
  clear ho hu hT
  go_enter Try.func45, Try.ntmps45
  go_wp2
  go_loop [8] (fun j => ∃ k : Nat, k ≤ f ∧ j = .int .i64 k) (fun j => f - (intOf j).toNat)
  case atStart => exact ⟨0, Nat.zero_le _, rfl⟩
  case round =>
    obtain ⟨k, hk, rfl⟩ := hrel
    have hkn : k < n := by omega
    have hlt' : (k : Int) < (n : Int) := by omega
    have hc := (HO.out.at hkn).2
    by_cases hkf : k = f
    · subst hkf
      rw [HF.out] at hc
      go_wp2
      go_ret
      exact ⟨rfl, rfl⟩
    · rw [HU.out k (by omega)] at hc
      have hk2 : k < f := by omega
      clear hkf
      go_wp2
      go_round
      case rel => exact ⟨k + 1, by omega, by go_num⟩
      case measure => simp [intOf]; omega
end Go.Proofs.Ytihafckdaecgkaa
