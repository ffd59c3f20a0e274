/-
  The contract of chars.Class.
-/
import Derived.Test.YtheebpjkjclgbaaKCls
namespace Go.Proofs.Ytheebpjkjclgbaa
open Go.RowKit

theorem class_few {c : List Int} {n : Nat} (hp : IsPt c) (hn : szN c = n) (h12 : n ≤ 12) : 0 < smA c ∧ smA c ≤ 479001600 ∧ 0 < clN n c ∧ clN n c ≤ 479001600 := by
  have hm := mem_genA hp hn (by omega)
  have h1 := smA_few n (by omega)
  have h2 := clN_small n (by omega)
  rw [List.all_eq_true] at h1 h2
  have h3 := h1 c hm
  have h4 := h2 c hm
  simp only [Bool.and_eq_true, decide_eq_true_eq] at h3 h4
  exact ⟨h3.1, h3.2, h4.1, h4.2⟩
/-- The part ahead of place k. -/
def prvP (c : List Int) (k : Nat) : Int := if k = 0 then 0 else c.getD (k - 1) 0
theorem smL_drop {c : List Int} {k : Nat} (hk : k < c.length) (a s : Nat) : smL (prvP c k) a s (c.drop k) = smL (prvP c (k + 1)) (if c.getD k 0 = prvP c k then a + 1 else 1) (s * ((c.getD k 0).toNat * (if c.getD k 0 = prvP c k then a + 1 else 1))) (c.drop (k + 1)) := by
  rw [drop_cons c k hk, smL]
  rw [show prvP c (k + 1) = c.getD k 0 by unfold prvP; rw [if_neg (by omega), Nat.add_sub_cancel]]

set_option maxHeartbeats 4000000 in
set_option maxRecDepth 100000 in
theorem Class_ok (a : Option Addr) (m cap n : Nat) (c : List Int) (w : World) (hs : Shows w a c) (hm : m = c.length) (hp : IsPt c) (hn : szN c = n) (h12 : n ≤ 12) :
    Calls Try.prog 12 #[.slice a m cap] w fun e w' => e = .returned (.tuple #[.int .i64 (clN n c : Int), .int .i64 0]) ∧ w' = w := by
  obtain ⟨f1, f2, f3, f4⟩ := class_few hp hn h12
  obtain ⟨S, HS⟩ : ∃ S, Hid (S = smA c) := ⟨_, rfl⟩
  obtain ⟨F, HF⟩ : ∃ F, Hid (F = fcT n) := ⟨_, rfl⟩
  have hFb : F ≤ 479001600 := by rw [HF.out]; exact fcT_le h12
  have HCh : Hid (Calls Try.prog 25 #[.slice a m cap] w fun e w' => e = .returned (.int .i64 0) ∧ w' = w) := by
    have := PaCheck_any a cap c w hs
    rw [of_pt hp, ← hm] at this
    exact this
  have HSz : Hid (Calls Try.prog 26 #[.slice a m cap] w fun e w' => e = .returned (.int .i64 (n : Int)) ∧ w' = w) := by
    have := csize_pt a m cap c w hs hm hp (by omega)
    rw [hn] at this; exact this
  have HFc : Hid (Calls Try.prog 28 #[.int .i64 (n : Int)] w fun e w' => e = .returned (.int .i64 (F : Int)) ∧ w' = w) := by
    rw [HF.out]; exact cfact_at n w h12
  have hS0 : ¬ (S : Int) = 0 := by rw [HS.out]; omega
  have hS0b : ((S : Int) == 0) = false := beq_false_of_ne hS0
  have hq : IntKind.i64.wrap (Int.tdiv (F : Int) (S : Int)) = ((F / S : Nat) : Int) := by
    have e : Int.tdiv (F : Int) (S : Int) = ((F / S : Nat) : Int) := by rw [Int.tdiv_eq_ediv_of_nonneg (by omega)]; simp
    rw [e, IntWalk.i64_left, IntWalk.wrap64_in]
    have h1 := Nat.div_le_self F S
    generalize F / S = q at h1 ⊢
    omega
  have HQ2 : Hid (IntKind.i64.wrap ((F : Int) / (S : Int)) = ((F / S : Nat) : Int)) := by
    show _ = _
    have e : (F : Int) / (S : Int) = ((F / S : Nat) : Int) := by simp
    rw [e, IntWalk.i64_left, IntWalk.wrap64_in]
    have h1 := Nat.div_le_self F S
    generalize F / S = q at h1 ⊢
    omega
  have HQe : Hid (((F / S : Nat) : Int) = (clN n c : Int)) := by show _ = _; unfold clN; rw [HF.out, HS.out]
  have h12' : ¬ ((n : Int) > 12) := by omega
  have HSh : Hid (Shows w a c) := hs
  have HP : Hid (IsPt c) := hp
  have HM : Hid (m = c.length) := hm
  have HSb : Hid (S ≤ 479001600) := by show _ ≤ _; rw [HS.out]; exact f2
  have hm40 : m ≤ 40 := by rw [hm]; exact hp.len
  clear hs hp hm hn f1 f2 f3 f4
  go_enter Try.func12, Try.ntmps12
  go_wp2_with fail
  refine HCh.out.mono ?_
  rintro e w1 ⟨rfl, hw1⟩
  obtain rfl : w = w1 := hw1.symm
  clear hw1 HCh
  go_wp2_with fail
  refine HSz.out.mono ?_
  rintro e w1 ⟨rfl, hw1⟩
  obtain rfl : w = w1 := hw1.symm
  clear hw1
  go_wp2
  go_loopw [5, 6, 19] (fun sv av iv wr => ∃ (k s al : Nat), k ≤ m ∧ iv = .int .i64 k ∧ sv = .int .i64 (s : Int) ∧ av = .int .i64 (al : Int) ∧ al ≤ k ∧ Hid (S = smL (prvP c k) al s (c.drop k)) ∧ wr = w) (fun _ _ iv _ => m - (intOf iv).toNat)
  case atStart => exact ⟨0, 1, 0, Nat.zero_le _, rfl, rfl, rfl, Nat.le_refl _, by show _ = _; rw [HS.out]; rfl, rfl⟩
  case round =>
    obtain ⟨k, s, al, hk, rfl, rfl, rfl, hal, HI, hwr⟩ := hrel
    obtain rfl : w = wr := hwr.symm
    clear hwr
    by_cases hlt : k < m
    · have hlt' : (k : Int) < (m : Int) := by omega
      have hkl : k < c.length := by rw [← HM.out]; exact hlt
      obtain ⟨b, off, z, rfl, HZ, hz1, hz2, hc⟩ := HSh.out.elem (k := k) hkl
      have hzr := HP.out.range z (by rw [HZ.out]; exact getD_mem hkl)
      obtain ⟨zn, HZn⟩ : ∃ zn : Nat, Hid (z = (zn : Int)) := ⟨z.toNat, by show _ = _; omega⟩
      have hzb : zn ≤ 40 := by have := HZn.out; omega
      have hzp : 1 ≤ zn := by have := HZn.out; omega
      rw [HZn.out] at hc
      obtain ⟨al2, HAl⟩ : ∃ al2, Hid (al2 = if c.getD k 0 = prvP c k then al + 1 else 1) := ⟨_, rfl⟩
      have HI2 : Hid (S = smL (prvP c (k + 1)) al2 (s * (zn * al2)) (c.drop (k + 1))) := by
        show _ = _
        rw [HI.out, smL_drop hkl, ← HAl.out, ← HZ.out, HZn.out, Int.toNat_natCast]
      have hal2 : al2 ≤ k + 1 := by rw [HAl.out]; split <;> omega
      have hsb : s * (zn * al2) ≤ 479001600 := by
        have h1 := smL_ge (c.drop (k + 1)) (prvP c (k + 1)) al2 (s * (zn * al2)) (fun y hy => (HP.out.range y (List.mem_of_mem_drop hy)).1)
        rw [← HI2.out] at h1
        have := HSb.out
        omega
      have hprod : zn * al2 ≤ 40 * 41 := Nat.mul_le_mul hzb (by omega)
      have hw1 : IntKind.i64.wrap ((zn : Int) * (al2 : Int)) = (zn : Int) * (al2 : Int) := by
        rw [IntWalk.i64_left, IntWalk.wrap64_in]
        rw [show (zn : Int) * (al2 : Int) = ((zn * al2 : Nat) : Int) by simp]; omega
      have hw2 : IntKind.i64.wrap ((s : Int) * ((zn : Int) * (al2 : Int))) = (s : Int) * ((zn : Int) * (al2 : Int)) := by
        rw [IntWalk.i64_left, IntWalk.wrap64_in]
        rw [show (s : Int) * ((zn : Int) * (al2 : Int)) = ((s * (zn * al2) : Nat) : Int) by simp]; omega
      have HSe : Hid ((s : Int) * ((zn : Int) * (al2 : Int)) = ((s * (zn * al2) : Nat) : Int)) := by show _ = _; simp
      clear hprod hsb
      by_cases hk0 : k = 0
      · have hal1 : al2 = 1 := by
          rw [HAl.out, if_neg]
          unfold prvP
          rw [if_pos hk0, ← HZ.out]; omega
        have hal0 : al = 0 := by omega
        subst hal1
        subst hal0
        have hw3 : IntKind.i64.wrap ((s : Int) * (zn : Int)) = (s : Int) * (zn : Int) := by simpa using hw2
        have hkg : ¬ ((k : Int) > 0) := by omega
        have HK0 : Hid (k = 0) := hk0
        clear hk0
        go_wp2
        exact ⟨⟨k + 1, s * (zn * 1), 1, by omega, by go_num, by rw [← HSe.out]; first | rfl | simp, rfl, by omega, HI2, trivial⟩, by simp [intOf]; omega⟩
      · obtain ⟨k1, HK⟩ : ∃ k1, Hid (k = k1 + 1) := ⟨k - 1, by show _ = _; omega⟩
        have hkg : (k : Int) > 0 := by omega
        have hkn : 0 < k := by omega
        have hk1e : (k : Int) - 1 = (k1 : Int) := by have := HK.out; omega
        have hk1l : (k1 : Int) < (m : Int) := by have := HK.out; omega
        obtain ⟨b2, off2, y, e2, HY, hy1, hy2, hcy⟩ := HSh.out.elem (k := k1) (by have := HK.out; omega)
        simp only [Option.some.injEq, Addr.mk.injEq, and_true] at e2
        obtain ⟨rfl, rfl⟩ := e2
        have HPv : Hid (prvP c k = y) := by
          show _ = _
          unfold prvP
          rw [if_neg hk0, HY.out]
          congr 1
          have := HK.out; omega
        clear hk0
        by_cases hzy : z = y
        · have hal1 : al2 = al + 1 := by rw [HAl.out, if_pos (by rw [HPv.out, ← HZ.out]; exact hzy)]
          have hne : ((zn : Int) != y) = false := by rw [← HZn.out, hzy]; simp
          have hae : (al : Int) + 1 = (al2 : Int) := by omega
          clear hzy hal1
          go_wp2
          exact ⟨⟨k + 1, s * (zn * al2), al2, by omega, by go_num, by rw [← HSe.out], rfl, hal2, HI2, trivial⟩, by simp [intOf]; omega⟩
        · have hal1 : al2 = 1 := by rw [HAl.out, if_neg (by rw [HPv.out, ← HZ.out]; exact hzy)]
          have hne : ((zn : Int) != y) = true := by rw [← HZn.out]; simp [hzy]
          subst hal1
          have hw3 : IntKind.i64.wrap ((s : Int) * (zn : Int)) = (s : Int) * (zn : Int) := by simpa using hw2
          clear hzy
          go_wp2
          exact ⟨⟨k + 1, s * (zn * 1), 1, by omega, by go_num, by rw [← HSe.out]; first | rfl | simp, rfl, by omega, HI2, trivial⟩, by simp [intOf]; omega⟩
    · obtain rfl : k = m := by omega
      have hlt' : ¬ ((k : Int) < (k : Int)) := by omega
      have hsS : s = S := by
        have := HI.out
        rw [HM.out, List.drop_length, smL] at this
        exact this.symm
      subst hsS
      go_wp2_with fail
      refine HSz.out.mono ?_
      rintro e w1 ⟨rfl, hw1⟩
      obtain rfl : w = w1 := hw1.symm
      clear hw1
      go_wp2_with fail
      refine HFc.out.mono ?_
      rintro e w1 ⟨rfl, hw1⟩
      obtain rfl : w = w1 := hw1.symm
      clear hw1
      go_wp2
      go_ret2
      exact ⟨by rw [← HQe.out, ← HQ2.out, IntWalk.i64_left]; rfl, rfl⟩

end Go.Proofs.Ytheebpjkjclgbaa
