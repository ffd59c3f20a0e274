/-
  The contract of ferref.Class: how many permutations have these cycles, length by length.
-/
import Derived.Test.YtheebpjkjclgbaaKClt
namespace Go.Proofs.Ytheebpjkjclgbaa
open Go.RowKit

def owL (k : Nat) : Nat → Nat → List Int → Nat
  | _, own, [] => own
  | n, own, z :: r => if z = (k : Int) then owL k (n + 1) (own * (k * (n + 1))) r else owL k n own r
def owR (c : List Int) : Nat → Nat
  | 0 => 1
  | k + 1 => owL (k + 1) 0 (owR c k) c
theorem owL_ge (k : Nat) (hk : 1 ≤ k) : ∀ (q : List Int) (n own : Nat), own ≤ owL k n own q
  | [], n, own => Nat.le_refl _
  | z :: q, n, own => by
    rw [owL]
    split
    · refine Nat.le_trans ?_ (owL_ge k hk q _ _)
      exact Nat.le_mul_of_pos_right _ (Nat.mul_pos hk (by omega))
    · exact owL_ge k hk q _ _
theorem owR_le (c : List Int) (k : Nat) : ∀ d, owR c k ≤ owR c (k + d)
  | 0 => Nat.le_refl _
  | d + 1 => Nat.le_trans (owR_le c k d) (owL_ge _ (by omega) _ _ _)
theorem owR_few : ∀ n, n < 13 → (genA n).all (fun c => owR c 12 == smA c) = true := by decide +kernel
theorem owR_smA {c : List Int} {n : Nat} (hp : IsPt c) (hn : szN c = n) (h12 : n ≤ 12) : owR c 12 = smA c := by
  have hm := mem_genA hp hn (by omega)
  have h1 := owR_few n (by omega)
  rw [List.all_eq_true] at h1
  simpa using h1 c hm
theorem owL_drop {c : List Int} {i : Nat} (hi : i < c.length) (k n own : Nat) : owL k n own (c.drop i) = if c.getD i 0 = (k : Int) then owL k (n + 1) (own * (k * (n + 1))) (c.drop (i + 1)) else owL k n own (c.drop (i + 1)) := by
  rw [drop_cons c i hi, owL]

set_option maxHeartbeats 4000000 in
set_option maxRecDepth 100000 in
theorem RClass_at (a : Option Addr) (m cap n : Nat) (c : List Int) (w : World) (hs : Shows w a c) (hm : m = c.length) (hp : IsPt c) (hn : szN c = n) (h12 : n ≤ 12) :
    Calls Try.prog 13 #[.slice a m cap] w fun e w' => e = .returned (.int .i64 (clN n c : Int)) ∧ w' = w := by
  obtain ⟨f1, f2, f3, f4⟩ := class_few hp hn h12
  obtain ⟨S, HS⟩ : ∃ S, Hid (S = smA c) := ⟨_, rfl⟩
  obtain ⟨F, HF⟩ : ∃ F, Hid (F = fcT n) := ⟨_, rfl⟩
  have hFb : F ≤ 479001600 := by rw [HF.out]; exact fcT_le h12
  have HSz : Hid (Calls Try.prog 10 #[.slice a m cap] w fun e w' => e = .returned (.int .i64 (n : Int)) ∧ w' = w) := by
    have := RSize_pt a m cap c w hs hm hp (by omega)
    rw [hn] at this; exact this
  have hS0 : ¬ (S : Int) = 0 := by rw [HS.out]; omega
  have hS0b : ((S : Int) == 0) = false := beq_false_of_ne hS0
  have hq : IntKind.i64.wrap (Int.tdiv (F : Int) (S : Int)) = ((F / S : Nat) : Int) := by
    have e : Int.tdiv (F : Int) (S : Int) = ((F / S : Nat) : Int) := by rw [Int.tdiv_eq_ediv_of_nonneg (by omega)]; simp
    rw [e, IntWalk.i64_left, IntWalk.wrap64_in]
    have h1 := Nat.div_le_self F S
    generalize F / S = q at h1 ⊢
    omega
  have HQ2 : Hid (IntKind.i64.wrap ((F : Int) / (S : Int)) = ((F / S : Nat) : Int)) := by
    show _ = _
    have e : (F : Int) / (S : Int) = ((F / S : Nat) : Int) := by simp
    rw [e, IntWalk.i64_left, IntWalk.wrap64_in]
    have h1 := Nat.div_le_self F S
    generalize F / S = q at h1 ⊢
    omega
  have HQ3 : Hid (wrap64 ((F : Int) / (S : Int)) = ((F / S : Nat) : Int)) := by
    show _ = _
    have := HQ2.out
    rwa [IntWalk.i64_left] at this
  have HQe : Hid (((F / S : Nat) : Int) = (clN n c : Int)) := by show _ = _; unfold clN; rw [HF.out, HS.out]
  have HSh : Hid (Shows w a c) := hs
  have HM : Hid (m = c.length) := hm
  have HOw : Hid (owR c 12 = S) := by show _ = _; rw [HS.out]; exact owR_smA hp hn h12
  have HSb : Hid (S ≤ 479001600) := by show _ ≤ _; rw [HS.out]; exact f2
  have hm40 : m ≤ 40 := by rw [hm]; exact hp.len
  clear hs hp hm hn f1 f2 f3 f4
  go_enter Try.func13, Try.ntmps13
  go_wp2
  go_loopw [3, 5] (fun av kv wr => ∃ (k A : Nat), 1 ≤ k ∧ k ≤ 12 ∧ Hid (k ≤ n ∨ k = 1) ∧ kv = .int .i64 ((k : Int) + 1) ∧ av = .int .i64 (A : Int) ∧ Hid (A = fcT k) ∧ wr = w) (fun _ kv _ => 14 - (intOf kv).toNat)
  case atStart => exact ⟨1, 1, by omega, by omega, .inr rfl, rfl, rfl, rfl, rfl⟩
  case round =>
    obtain ⟨k, A, hk1, hk2, HK, rfl, rfl, HA, hwr⟩ := hrel
    obtain rfl : w = wr := hwr.symm
    clear hwr
    by_cases hlt : k + 1 ≤ n
    · have hlt' : (k : Int) + 1 ≤ (n : Int) := by omega
      have HA2 : Hid (A * (k + 1) = fcT (k + 1)) := by show _ = _; rw [HA.out, fcT, Nat.mul_comm]
      have hAb : A * (k + 1) ≤ 479001600 := by rw [HA2.out]; exact fcT_le (by omega)
      have hw1 : IntKind.i64.wrap ((A : Int) * ((k : Int) + 1)) = (A : Int) * ((k : Int) + 1) := by
        rw [IntWalk.i64_left, IntWalk.wrap64_in]
        rw [show (A : Int) * ((k : Int) + 1) = ((A * (k + 1) : Nat) : Int) by simp]; omega
      have HAe : Hid ((A : Int) * ((k : Int) + 1) = ((A * (k + 1) : Nat) : Int)) := by show _ = _; simp
      have HK2 : Hid (k + 1 ≤ n ∨ k + 1 = 1) := .inl hlt
      clear hAb
      go_wp2_with fail
      refine HSz.out.mono ?_
      rintro e w1 ⟨rfl, hw1⟩
      obtain rfl : w = w1 := hw1.symm
      clear hw1
      go_wp2
      go_roundw
      case rel => exact ⟨k + 1, A * (k + 1), by omega, by omega, HK2, by go_num, by rw [← HAe.out], HA2, trivial⟩
      case measure => simp [intOf]; omega
    · have hlt' : ¬ ((k : Int) + 1 ≤ (n : Int)) := by omega
      have HAF : Hid (A = F) := by
        show _ = _
        rw [HA.out, HF.out]
        rcases HK.out with q | q
        · rw [show k = n by omega]
        · subst q
          rcases Nat.eq_zero_or_pos n with q2 | q2
          · rw [q2]; rfl
          · rw [show n = 1 by omega]
      have hAF := HAF.out
      subst hAF
      clear HA HK
      go_wp2_with fail
      refine HSz.out.mono ?_
      rintro e w1 ⟨rfl, hw1⟩
      obtain rfl : w = w1 := hw1.symm
      clear hw1
      go_wp2
      go_loopw [4, 6] (fun ov kv wr => ∃ (j o : Nat), j ≤ 12 ∧ kv = .int .i64 ((j : Int) + 1) ∧ ov = .int .i64 (o : Int) ∧ Hid (o = owR c j) ∧ wr = w) (fun _ kv _ => 14 - (intOf kv).toNat)
      case atStart => exact ⟨0, 1, by omega, rfl, rfl, rfl, rfl⟩
      case round =>
        obtain ⟨j, o, hj, rfl, rfl, HO, hwr⟩ := hrel
        obtain rfl : w = wr := hwr.symm
        clear hwr
        by_cases hj12 : j < 12
        · have hj12' : (j : Int) + 1 ≤ 12 := by omega
          have HOb : Hid (owR c (j + 1) ≤ 479001600) := by
            show _ ≤ _
            have h1 := owR_le c (j + 1) (12 - (j + 1))
            rw [show j + 1 + (12 - (j + 1)) = 12 by omega, HOw.out] at h1
            exact Nat.le_trans h1 HSb.out
          go_wp2
          go_loopw [4, 7, 8] (fun ov nv iv wr => ∃ (i t u : Nat), i ≤ m ∧ t ≤ i ∧ iv = .int .i64 (i : Int) ∧ nv = .int .i64 (t : Int) ∧ ov = .int .i64 (u : Int) ∧ Hid (owR c (j + 1) = owL (j + 1) t u (c.drop i)) ∧ wr = w) (fun _ _ iv _ => m - (intOf iv).toNat)
          case atStart => exact ⟨0, 0, o, Nat.zero_le _, Nat.le_refl _, rfl, rfl, rfl, by show _ = _; rw [HO.out]; rfl, rfl⟩
          case round =>
            obtain ⟨i, t, u, hi, ht, rfl, rfl, rfl, HI, hwr⟩ := hrel
            obtain rfl : w = wr := hwr.symm
            clear hwr
            by_cases hlti : i < m
            · have hlti' : (i : Int) < (m : Int) := by omega
              have hil : i < c.length := by rw [← HM.out]; exact hlti
              obtain ⟨b, off, z, rfl, HZ, hz1, hz2, hc⟩ := HSh.out.elem (k := i) hil
              by_cases hzk : z = (j : Int) + 1
              · have hzb : (z == (j : Int) + 1) = true := by simpa using hzk
                have HI2 : Hid (owR c (j + 1) = owL (j + 1) (t + 1) (u * ((j + 1) * (t + 1))) (c.drop (i + 1))) := by
                  show _ = _
                  rw [HI.out, owL_drop hil, if_pos (by rw [← HZ.out, hzk]; simp)]
                have hub : u * ((j + 1) * (t + 1)) ≤ 479001600 := by
                  have h1 := owL_ge (j + 1) (by omega) (c.drop (i + 1)) (t + 1) (u * ((j + 1) * (t + 1)))
                  rw [← HI2.out] at h1
                  exact Nat.le_trans h1 HOb.out
                have hprod : (j + 1) * (t + 1) ≤ 12 * 41 := Nat.mul_le_mul (by omega) (by omega)
                have hw1 : IntKind.i64.wrap (((j : Int) + 1) * ((t : Int) + 1)) = ((j : Int) + 1) * ((t : Int) + 1) := by
                  rw [IntWalk.i64_left, IntWalk.wrap64_in]
                  rw [show ((j : Int) + 1) * ((t : Int) + 1) = (((j + 1) * (t + 1) : Nat) : Int) by simp]; omega
                have hw2 : IntKind.i64.wrap ((u : Int) * (((j : Int) + 1) * ((t : Int) + 1))) = (u : Int) * (((j : Int) + 1) * ((t : Int) + 1)) := by
                  rw [IntWalk.i64_left, IntWalk.wrap64_in]
                  rw [show (u : Int) * (((j : Int) + 1) * ((t : Int) + 1)) = ((u * ((j + 1) * (t + 1)) : Nat) : Int) by simp]; omega
                have HUe : Hid ((u : Int) * (((j : Int) + 1) * ((t : Int) + 1)) = ((u * ((j + 1) * (t + 1)) : Nat) : Int)) := by show _ = _; simp
                clear hub hprod HI
                subst hzk
                go_wp2
                go_roundw
                case rel => exact ⟨i + 1, t + 1, u * ((j + 1) * (t + 1)), by omega, by omega, by go_num, by go_num, by rw [← HUe.out], HI2, trivial⟩
                case measure => simp [intOf]; omega
              · have hzb : (z == (j : Int) + 1) = false := by simpa using hzk
                have HI2 : Hid (owR c (j + 1) = owL (j + 1) t u (c.drop (i + 1))) := by
                  show _ = _
                  rw [HI.out, owL_drop hil, if_neg (by rw [← HZ.out]; intro q; apply hzk; rw [q]; simp)]
                clear HI
                go_wp2
                go_roundw
                case rel => exact ⟨i + 1, t, u, by omega, by omega, by go_num, rfl, rfl, HI2, trivial⟩
                case measure => simp [intOf]; omega
            · obtain rfl : i = m := by omega
              have hd : ¬ ((i : Int) < (i : Int)) := by omega
              have HU : Hid (u = owR c (j + 1)) := by
                show _ = _
                rw [HI.out, HM.out, List.drop_length]; rfl
              go_wp2
              go_roundw
              case rel => exact ⟨j + 1, u, by omega, by go_num, rfl, HU, trivial⟩
              case measure => simp [intOf]; omega
        · obtain rfl : j = 12 := by omega
          have hOS : o = S := by rw [HO.out, HOw.out]
          subst hOS
          go_wp2
          go_ret
          exact ⟨ret_int (HQ3.out.trans HQe.out), rfl⟩

end Go.Proofs.Ytheebpjkjclgbaa
