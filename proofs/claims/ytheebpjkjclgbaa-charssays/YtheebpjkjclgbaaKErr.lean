/-
  The exact codes of chars.Character, Strips, Class where they refuse.
-/
import Derived.Test.YtheebpjkjclgbaaKBas
import Derived.Test.YtheebpjkjclgbaaKClt
import Derived.Test.YtheebpjkjclgbaaWHno
namespace Go.Proofs.Ytheebpjkjclgbaa
open Go.RowKit

/-- What chars.Character refuses with. -/
def chrC (zs cs : List Int) : Int := if ptC zs ≠ 0 then ptC zs else if ptC cs ≠ 0 then ptC cs else if szN zs ≠ szN cs then 3 else if 12 < szN zs then 2 else 0
/-- .. Class, Strips. -/
def clsC (c : List Int) : Int := if ptC c ≠ 0 then ptC c else 2
def strC (zs : List Int) : Int := if ptC zs ≠ 0 then ptC zs else 1
theorem chrC_good {zs cs : List Int} (h : Good zs cs) : chrC zs cs = 0 := by
  obtain ⟨h1, h2, h3, h4⟩ := h
  unfold chrC
  rw [if_neg (by rw [h1]; simp), if_neg (by rw [h2]; simp), if_neg (by rw [h3]; simp), if_neg (by omega)]

set_option maxHeartbeats 4000000 in
set_option maxRecDepth 100000 in
theorem Character_code (a ac : Option Addr) (n nc cap cc : Nat) (zs cs : List Int) (w : World) (hs : Shows w a zs) (hn : n = zs.length) (hsc : Shows w ac cs) (hnc : nc = cs.length) (hg : ¬ Good zs cs) :
    Calls Try.prog 8 #[.slice a n cap, .slice ac nc cc] w fun e w' => ∃ r : Int, e = .returned (.tuple #[.int .i64 0, .int .i64 r]) ∧ Hid (r = chrC zs cs) ∧ w' = w := by
  obtain ⟨c1, HC1⟩ : ∃ c1, Hid (c1 = ptC zs) := ⟨_, rfl⟩
  obtain ⟨c2, HC2⟩ : ∃ c2, Hid (c2 = ptC cs) := ⟨_, rfl⟩
  have HP1 : Hid (Calls Try.prog 25 #[.slice a n cap] w fun e w' => e = .returned (.int .i64 c1) ∧ w' = w) := by
    have := PaCheck_any a cap zs w hs
    rw [← hn, ← HC1.out] at this; exact this
  have HP2 : Hid (Calls Try.prog 25 #[.slice ac nc cc] w fun e w' => e = .returned (.int .i64 c2) ∧ w' = w) := by
    have := PaCheck_any ac cc cs w hsc
    rw [← hnc, ← HC2.out] at this; exact this
  by_cases h1 : c1 = 0
  · by_cases h2 : c2 = 0
    · have hp := pt_of (HC1.out.symm.trans h1)
      have hq := pt_of (HC2.out.symm.trans h2)
      obtain ⟨N, HN⟩ : ∃ N, Hid (N = szN zs) := ⟨_, rfl⟩
      obtain ⟨M, HM⟩ : ∃ M, Hid (M = szN cs) := ⟨_, rfl⟩
      have hN40 : N ≤ 40 := by rw [HN.out]; exact szN_40 hp
      have hM40 : M ≤ 40 := by rw [HM.out]; exact szN_40 hq
      have HS1 : Hid (Calls Try.prog 26 #[.slice a n cap] w fun e w' => e = .returned (.int .i64 (N : Int)) ∧ w' = w) := by rw [HN.out]; exact csize_pt a n cap zs w hs hn hp (by rw [← HN.out]; omega)
      have HS2 : Hid (Calls Try.prog 26 #[.slice ac nc cc] w fun e w' => e = .returned (.int .i64 (M : Int)) ∧ w' = w) := by rw [HM.out]; exact csize_pt ac nc cc cs w hsc hnc hq (by rw [← HM.out]; omega)
      have hc : N ≠ M ∨ 12 < N := by
        rcases Nat.lt_or_ge 12 N with q | q
        · exact .inr q
        · left; intro e
          exact hg ⟨HC1.out.symm.trans h1, HC2.out.symm.trans h2, by rw [← HN.out, ← HM.out]; exact e, by rw [← HN.out]; exact q⟩
      have HK0 : Hid (chrC zs cs = if N ≠ M then 3 else if 12 < N then 2 else 0) := by
        show _ = _
        unfold chrC
        rw [← HC1.out, ← HC2.out, ← HN.out, ← HM.out, h1, h2]; rfl
      subst h1
      subst h2
      have HHc : Hid (N ≠ M ∨ 12 < N) := hc
      clear hs hsc hp hq hg hc hn hnc
      by_cases hNM : N = M
      · subst hNM
        have hN12 : (N : Int) > 12 := by rcases HHc.out with q | q <;> omega
        have HK : Hid (Hid ((2 : Int) = chrC zs cs)) := by show _ = _; rw [HK0.out, if_neg (by simp), if_pos (by omega)]
        clear HK0
        go_enter Try.func8, Try.ntmps8
        go_wp2_with fail
        refine HP1.out.mono ?_
        rintro e w1 ⟨rfl, hw1⟩
        obtain rfl : w = w1 := hw1.symm
        clear hw1
        go_wp2_with fail
        refine HP2.out.mono ?_
        rintro e w1 ⟨rfl, hw1⟩
        obtain rfl : w = w1 := hw1.symm
        clear hw1
        go_wp2_with fail
        refine HS1.out.mono ?_
        rintro e w1 ⟨rfl, hw1⟩
        obtain rfl : w = w1 := hw1.symm
        clear hw1
        go_wp2_with fail
        refine HS2.out.mono ?_
        rintro e w1 ⟨rfl, hw1⟩
        obtain rfl : w = w1 := hw1.symm
        clear hw1
        go_wp2_with fail
        refine HS1.out.mono ?_
        rintro e w1 ⟨rfl, hw1⟩
        obtain rfl : w = w1 := hw1.symm
        clear hw1
        go_wp2
        go_ret2
        exact ⟨2, rfl, HK.out, rfl⟩
      · have hne : ((N : Int) != (M : Int)) = true := by rw [bne_iff_ne]; omega
        have HK : Hid (Hid ((3 : Int) = chrC zs cs)) := by show _ = _; rw [HK0.out, if_pos hNM]
        clear HK0
        clear hNM HHc
        go_enter Try.func8, Try.ntmps8
        go_wp2_with fail
        refine HP1.out.mono ?_
        rintro e w1 ⟨rfl, hw1⟩
        obtain rfl : w = w1 := hw1.symm
        clear hw1
        go_wp2_with fail
        refine HP2.out.mono ?_
        rintro e w1 ⟨rfl, hw1⟩
        obtain rfl : w = w1 := hw1.symm
        clear hw1
        go_wp2_with fail
        refine HS1.out.mono ?_
        rintro e w1 ⟨rfl, hw1⟩
        obtain rfl : w = w1 := hw1.symm
        clear hw1
        go_wp2_with fail
        refine HS2.out.mono ?_
        rintro e w1 ⟨rfl, hw1⟩
        obtain rfl : w = w1 := hw1.symm
        clear hw1
        go_wp2
        go_ret2
        exact ⟨3, rfl, HK.out, rfl⟩
    · have HK : Hid (Hid (c2 = chrC zs cs)) := by show _ = _; unfold chrC; rw [← HC1.out, ← HC2.out, h1, if_neg (by simp), if_pos h2]
      subst h1
      have hne : (c2 != 0) = true := by simp [h2]
      have HNe : Hid (c2 ≠ 0) := h2
      clear hs hsc hg hn hnc h2
      go_enter Try.func8, Try.ntmps8
      go_wp2_with fail
      refine HP1.out.mono ?_
      rintro e w1 ⟨rfl, hw1⟩
      obtain rfl : w = w1 := hw1.symm
      clear hw1
      go_wp2_with fail
      refine HP2.out.mono ?_
      rintro e w1 ⟨rfl, hw1⟩
      obtain rfl : w = w1 := hw1.symm
      clear hw1
      go_wp2
      go_ret2
      exact ⟨c2, rfl, HK.out, rfl⟩
  · have hne : (c1 != 0) = true := by simp [h1]
    have HNe : Hid (c1 ≠ 0) := h1
    have HK : Hid (Hid (c1 = chrC zs cs)) := by show _ = _; unfold chrC; rw [← HC1.out, if_pos h1]
    clear hs hsc hg hn hnc h1
    go_enter Try.func8, Try.ntmps8
    go_wp2_with fail
    refine HP1.out.mono ?_
    rintro e w1 ⟨rfl, hw1⟩
    obtain rfl : w = w1 := hw1.symm
    clear hw1
    go_wp2
    go_ret2
    exact ⟨c1, rfl, HK.out, rfl⟩

set_option maxHeartbeats 2000000 in
set_option maxRecDepth 100000 in
theorem Class_code (a : Option Addr) (m cap : Nat) (c : List Int) (w : World) (hs : Shows w a c) (hm : m = c.length) (h : ¬ (ptC c = 0 ∧ szN c ≤ 12)) :
    Calls Try.prog 12 #[.slice a m cap] w fun e w' => ∃ r : Int, e = .returned (.tuple #[.int .i64 0, .int .i64 r]) ∧ Hid (r = clsC c) ∧ w' = w := by
  obtain ⟨c1, HC1⟩ : ∃ c1, Hid (c1 = ptC c) := ⟨_, rfl⟩
  have HP1 : Hid (Calls Try.prog 25 #[.slice a m cap] w fun e w' => e = .returned (.int .i64 c1) ∧ w' = w) := by
    have := PaCheck_any a cap c w hs
    rw [← hm, ← HC1.out] at this; exact this
  by_cases h1 : c1 = 0
  · have hp := pt_of (HC1.out.symm.trans h1)
    obtain ⟨N, HN⟩ : ∃ N, Hid (N = szN c) := ⟨_, rfl⟩
    have hN40 : N ≤ 40 := by rw [HN.out]; exact szN_40 hp
    have HS1 : Hid (Calls Try.prog 26 #[.slice a m cap] w fun e w' => e = .returned (.int .i64 (N : Int)) ∧ w' = w) := by rw [HN.out]; exact csize_pt a m cap c w hs hm hp (by rw [← HN.out]; omega)
    have hN12 : (N : Int) > 12 := by
      rcases Nat.lt_or_ge 12 N with q | q
      · omega
      · exact absurd ⟨HC1.out.symm.trans h1, by rw [← HN.out]; exact q⟩ h
    have HK : Hid (Hid ((2 : Int) = clsC c)) := by show _ = _; unfold clsC; rw [← HC1.out, h1]; rfl
    subst h1
    clear hs hm h hp
    go_enter Try.func12, Try.ntmps12
    go_wp2_with fail
    refine HP1.out.mono ?_
    rintro e w1 ⟨rfl, hw1⟩
    obtain rfl : w = w1 := hw1.symm
    clear hw1
    go_wp2_with fail
    refine HS1.out.mono ?_
    rintro e w1 ⟨rfl, hw1⟩
    obtain rfl : w = w1 := hw1.symm
    clear hw1
    go_wp2
    go_ret2
    exact ⟨2, rfl, HK.out, rfl⟩
  · have hne : (c1 != 0) = true := by simp [h1]
    have HK : Hid (Hid (c1 = clsC c)) := by show _ = _; unfold clsC; rw [← HC1.out, if_pos h1]
    clear hs hm h h1
    go_enter Try.func12, Try.ntmps12
    go_wp2_with fail
    refine HP1.out.mono ?_
    rintro e w1 ⟨rfl, hw1⟩
    obtain rfl : w = w1 := hw1.symm
    clear hw1
    go_wp2
    go_ret2
    exact ⟨c1, rfl, HK.out, rfl⟩

set_option maxHeartbeats 2000000 in
set_option maxRecDepth 100000 in
theorem Strips_code (a : Option Addr) (n cap : Nat) (k : Int) (zs : List Int) (w : World) (hs : Shows w a zs) (hn : n = zs.length) (h : ¬ (ptC zs = 0 ∧ 1 ≤ k)) :
    Calls Try.prog 4 #[.slice a n cap, .int .i64 k] w fun e w' => ∃ r : Int, e = .returned (.tuple #[.slice none 0 0, .int .i64 r]) ∧ Hid (r = strC zs) ∧ Hid (Below w.heap.size w w') := by
  by_cases h1 : ptC zs = 0
  · have hp := pt_of h1
    have hk : k < 1 := by
      rcases Int.lt_or_le k 1 with q | q
      · exact q
      · exact absurd ⟨h1, q⟩ h
    have HC : Hid (Calls Try.prog 17 #[.slice a n cap] w fun e w' => ∃ v, e = .returned (.tuple #[v, .int .i64 0]) ∧ Hid (Below w.heap.size w w')) := by
      refine (HHooks_ok a n cap zs w hs hn hp).mono ?_
      rintro e w' ⟨v, rfl, h1, h2⟩
      exact ⟨v, rfl, h2⟩
    have HK : Hid (Hid ((1 : Int) = strC zs)) := by show _ = _; unfold strC; rw [h1]; rfl
    clear hs hn h hp h1
    go_enter Try.func4, Try.ntmps4
    go_wp2_with fail
    refine HC.out.mono ?_
    rintro e w1 ⟨v, rfl, HB⟩
    go_wp2
    go_ret2
    exact ⟨1, rfl, HK.out, HB⟩
  · obtain ⟨c1, HC1⟩ : ∃ c1, Hid (c1 = ptC zs) := ⟨_, rfl⟩
    have HC : Hid (Calls Try.prog 17 #[.slice a n cap] w fun e w' => e = .returned (.tuple #[.slice none 0 0, .int .i64 c1]) ∧ Hid (w' = w)) := by
      have := HHooks_no a n cap zs w hs hn h1
      rw [← HC1.out] at this; exact this
    have hne : (c1 != 0) = true := by rw [HC1.out]; simp [h1]
    have HK : Hid (Hid (c1 = strC zs)) := by show _ = _; unfold strC; rw [← HC1.out, if_pos (by rw [HC1.out]; exact h1)]
    clear hs hn h h1
    go_enter Try.func4, Try.ntmps4
    go_wp2_with fail
    refine HC.out.mono ?_
    rintro e w1 ⟨rfl, HW⟩
    have hw1 := HW.out
    subst hw1
    go_wp2
    go_ret2
    exact ⟨c1, rfl, HK.out, Below.refl _ _⟩

end Go.Proofs.Ytheebpjkjclgbaa
