/-
  The contracts of rule.size, rule.partAt, rule.contains.
-/
import Derived.Test.YtncokoimbpkapaaRvS
namespace Go.Proofs.Ytncokoimbpkapaa
open Go.RowKit

theorem castL_mem {l : List Nat} {k : Nat} : (castL l).getD k 0 = (l.getD k 0 : Int) := castL_at l k
theorem sum_take {l : List Nat} {k : Nat} (h : k < l.length) : (l.take (k + 1)).sum = (l.take k).sum + l.getD k 0 := by
  rw [List.take_succ_eq_append_getElem h, List.sum_append]
  simp [List.getD, h]
theorem sum_take_le (l : List Nat) (k : Nat) : (l.take k).sum ≤ l.sum := by
  have := congrArg List.sum (List.take_append_drop k l)
  rw [List.sum_append] at this; omega

set_option maxHeartbeats 1000000 in
theorem usize_at (a : Option Addr) (n cap : Nat) (l : List Nat) (w : World) (hs : Shows w a (castL l)) (hn : n = l.length) (hl : l.sum ≤ 1000000) :
    Calls Try.prog 26 #[.slice a n cap] w fun e w' => e = .returned (.int .i64 (l.sum : Int)) ∧ w' = w := by
  subst hn
  have hlen : l.length ≤ 17592186044416 := by have := hs.len; rw [castL_len] at this; exact this
  go_enter Try.func26, Try.ntmps26
  go_wp2
  go_loop [3, 8] (fun t i => ∃ k : Nat, k ≤ l.length ∧ i = .int .i64 k ∧ t = .int .i64 (((l.take k).sum : Nat) : Int)) (fun _ i => l.length - (intOf i).toNat)
  case atStart => exact ⟨0, Nat.zero_le _, rfl, by simp⟩
  case round =>
    obtain ⟨k, hk, rfl, rfl⟩ := hrel
    by_cases hlt : k < l.length
    · obtain ⟨b, off, z, rfl, HZ, hz1, hz2, hc⟩ := hs.elem (k := k) (by rw [castL_len]; exact hlt)
      have HZ2 : Hid (z = (l.getD k 0 : Int)) := by show _ = _; rw [HZ.out, castL_at]
      have h1 := sum_take hlt
      have h2 := sum_take_le l (k + 1)
      have hlt' : (k : Int) < (l.length : Int) := by omega
      obtain ⟨S, HS⟩ : ∃ S, Hid (S = (l.take k).sum) := ⟨_, rfl⟩
      rw [← HS.out] at h1 ⊢
      have HS2 : Hid (((l.take (k + 1)).sum : Int) = (S : Int) + z) := by show _ = _; rw [h1, HZ2.out]; omega
      have b1 : (S : Int) + z ≤ 1000000 := by rw [HZ2.out]; omega
      have b2 : 0 ≤ z := by rw [HZ2.out]; omega
      clear h1 h2
      go_wp2
      go_round
      case rel => exact ⟨k + 1, by omega, by go_num, by rw [HS2.out]⟩
      case measure => simp [intOf]; omega
    · obtain rfl : k = l.length := by omega
      have hlt' : ¬ ((l.length : Int) < (l.length : Int)) := by omega
      go_wp2
      go_ret
      exact ⟨by first | rfl | (rw [List.take_length]; rfl), rfl⟩

set_option maxHeartbeats 1000000 in
theorem upartAt_at (a : Option Addr) (n cap k : Nat) (l : List Nat) (w : World) (hs : Shows w a (castL l)) (hn : n = l.length) :
    Calls Try.prog 29 #[.slice a n cap, .int .i64 (k : Int)] w fun e w' => e = .returned (.int .i64 (l.getD k 0 : Int)) ∧ w' = w := by
  subst hn
  by_cases hlt : k < l.length
  · obtain ⟨b, off, z, rfl, HZ, hz1, hz2, hc⟩ := hs.elem (k := k) (by rw [castL_len]; exact hlt)
    have HZ2 : Hid (z = (l.getD k 0 : Int)) := by show _ = _; rw [HZ.out, castL_at]
    have hlt' : (k : Int) < (l.length : Int) := by omega
    go_enter Try.func29, Try.ntmps29
    go_wp2
    go_ret
    exact ⟨by first | (rw [← HZ2.out]; rfl) | (simp only [List.getD] at HZ2; rfl), rfl⟩
  · have hlt' : ¬ ((k : Int) < (l.length : Int)) := by omega
    have HZ2 : Hid (l.getD k 0 = 0) := getD_out (by omega)
    go_enter Try.func29, Try.ntmps29
    go_wp2
    go_ret
    exact ⟨by first | rfl | (rw [HZ2.out]; rfl), rfl⟩

/-- Has c all boxes of a? -/
def inB (al cl : List Nat) : Bool := (List.range al.length).all fun i => decide (al.getD i 0 ≤ cl.getD i 0)
theorem inB_iff (al cl : List Nat) : inB al cl = true ↔ ∀ i, al.getD i 0 ≤ cl.getD i 0 := by
  unfold inB
  rw [List.all_eq_true]
  constructor
  · intro h i
    by_cases hi : i < al.length
    · simpa using h i (List.mem_range.2 hi)
    · rw [getD_out (q := al) (by omega)]; omega
  · intro h i _
    simpa using h i

set_option maxHeartbeats 2000000 in
theorem ucontains_at (a c : Option Addr) (n m ca cc : Nat) (al cl : List Nat) (w : World) (ha : Shows w a (castL al)) (hc : Shows w c (castL cl)) (hn : n = al.length) (hm : m = cl.length) :
    Calls Try.prog 28 #[.slice c m cc, .slice a n ca] w fun e w' => e = .returned (.bool (inB al cl)) ∧ w' = w := by
  subst hn
  subst hm
  have HC : Hid (Shows w c (castL cl)) := hc
  clear hc
  go_enter Try.func28, Try.ntmps28
  go_wp2
  go_loopw [9] (fun i wr => ∃ k : Nat, k ≤ al.length ∧ i = .int .i64 k ∧ Hid (∀ j, j < k → al.getD j 0 ≤ cl.getD j 0) ∧ wr = w) (fun i _ => al.length - (intOf i).toNat)
  case atStart => exact ⟨0, Nat.zero_le _, rfl, fun j hj => by omega, rfl⟩
  case round =>
    obtain ⟨k, hk, rfl, HR, hwr⟩ := hrel
    obtain rfl := hwr
    by_cases hlt : k < al.length
    · have hlt' : (k : Int) < (al.length : Int) := by omega
      have hlb : al.length ≤ 17592186044416 := by have := ha.len; rw [castL_len] at this; exact this
      obtain ⟨b, off, z, rfl, HZ, hz1, hz2, hcl⟩ := ha.elem (k := k) (by rw [castL_len]; exact hlt)
      have HZ2 : Hid (z = (al.getD k 0 : Int)) := by show _ = _; rw [HZ.out, castL_at]
      obtain ⟨y, HY⟩ : ∃ y, Hid (y = cl.getD k 0) := ⟨_, rfl⟩
      have HP : Hid (Calls Try.prog 29 #[.slice c cl.length cc, .int .i64 (k : Int)] wr fun e w' => e = .returned (.int .i64 (y : Int)) ∧ w' = wr) := by rw [HY.out]; exact upartAt_at c _ cc k cl wr HC.out rfl
      by_cases hle : al.getD k 0 ≤ cl.getD k 0
      · have hle' : ¬ (z > (y : Int)) := by rw [HZ2.out, HY.out]; omega
        have hle2 : z ≤ (y : Int) := by omega
        have HR2 : Hid (∀ j, j < k + 1 → al.getD j 0 ≤ cl.getD j 0) := fun j hj => by
          by_cases e : j = k
          · rw [e]; exact hle
          · exact HR.out j (by omega)
        go_wp2_with fail
        refine HP.out.mono ?_
        rintro e w1 ⟨rfl, hw1⟩
        obtain rfl := hw1
        go_wp2
        go_roundw
        case rel => exact ⟨k + 1, by omega, by go_num, HR2, trivial⟩
        case measure => simp [intOf]; omega
      · have hle' : z > (y : Int) := by rw [HZ2.out, HY.out]; omega
        have HI : Hid (inB al cl = false) := by
          show _ = _
          cases e : inB al cl with
          | false => rfl
          | true => exact absurd ((inB_iff al cl).1 e k) hle
        go_wp2_with fail
        refine HP.out.mono ?_
        rintro e w1 ⟨rfl, hw1⟩
        obtain rfl := hw1
        go_wp2
        go_ret
        exact ⟨by rw [HI.out]; rfl, rfl⟩
    · obtain rfl : k = al.length := by omega
      have hlt' : ¬ ((al.length : Int) < (al.length : Int)) := by omega
      have HI : Hid (inB al cl = true) := (inB_iff al cl).2 (fun i => by
        by_cases hi : i < al.length
        · exact HR.out i hi
        · rw [getD_out (q := al) (by omega)]; omega)
      go_wp2
      go_ret
      exact ⟨by rw [HI.out]; rfl, rfl⟩

end Go.Proofs.Ytncokoimbpkapaa
