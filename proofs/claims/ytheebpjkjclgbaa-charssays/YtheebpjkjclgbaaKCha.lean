/-
  The contract of chars.Character.
-/
import Derived.Test.YtheebpjkjclgbaaKChr
import Derived.Test.YtheebpjkjclgbaaKClt
namespace Go.Proofs.Ytheebpjkjclgbaa
open Go.RowKit

theorem len_szN {zs : List Int} (h : IsPt zs) : zs.length ≤ szN zs := by
  have key : ∀ l : List Int, (∀ z ∈ l, 1 ≤ z) → (l.length : Int) ≤ sum l := by
    intro l
    induction l with
    | nil => intro _; simp [sum]
    | cons a l ih =>
      intro hl
      have h3 := ih fun z hz => hl z (by simp [hz])
      have h4 := hl a (by simp)
      rw [List.length_cons, sum]; omega
  have h1 := key zs fun z hz => (h.range z hz).1
  rw [szN_is h] at h1
  omega
/-- Both are partitions of one size that is not too great. -/
def Good (zs cs : List Int) : Prop := ptC zs = 0 ∧ ptC cs = 0 ∧ szN zs = szN cs ∧ szN zs ≤ 12

set_option maxHeartbeats 4000000 in
set_option maxRecDepth 100000 in
theorem Character_ok (a ac : Option Addr) (n nc cap cc : Nat) (zs cs : List Int) (w : World) (hs : Shows w a zs) (hn : n = zs.length) (hsc : Shows w ac cs) (hnc : nc = cs.length) (hcc : nc ≤ cc) (hg : Good zs cs) :
    Calls Try.prog 8 #[.slice a n cap, .slice ac nc cc] w fun e w' => e = .returned (.tuple #[.int .i64 (chi (natL cs) zs), .int .i64 0]) ∧ Below w.heap.size w w' := by
  obtain ⟨h1, h2, h3, h4⟩ := hg
  have hp := pt_of h1
  have hq := pt_of h2
  have hl1 := len_szN hp
  have hl2 := len_szN hq
  have HP1 : Hid (Calls Try.prog 25 #[.slice a n cap] w fun e w' => e = .returned (.int .i64 0) ∧ w' = w) := by
    have := PaCheck_any a cap zs w hs
    rw [h1, ← hn] at this; exact this
  have HP2 : Hid (Calls Try.prog 25 #[.slice ac nc cc] w fun e w' => e = .returned (.int .i64 0) ∧ w' = w) := by
    have := PaCheck_any ac cc cs w hsc
    rw [h2, ← hnc] at this; exact this
  obtain ⟨N, HN⟩ : ∃ N, Hid (N = szN zs) := ⟨_, rfl⟩
  have HS1 : Hid (Calls Try.prog 26 #[.slice a n cap] w fun e w' => e = .returned (.int .i64 (N : Int)) ∧ w' = w) := by rw [HN.out]; exact csize_pt a n cap zs w hs hn hp (by omega)
  have HS2 : Hid (Calls Try.prog 26 #[.slice ac nc cc] w fun e w' => e = .returned (.int .i64 (N : Int)) ∧ w' = w) := by rw [HN.out, h3]; exact csize_pt ac nc cc cs w hsc hnc hq (by omega)
  obtain ⟨x, HX⟩ : ∃ x, Hid (x = chi (natL cs) zs) := ⟨_, rfl⟩
  have HCh : Hid (Calls Try.prog 27 #[.slice a n cap, .slice ac nc cc] w fun e w' => e = .returned (.int .i64 x) ∧ Hid (Below w.heap.size w w')) := by
    rw [HX.out]; exact char_at cs a ac n nc cap cc zs w hs hn hp (by omega) hsc hnc hcc (fun z hz => hq.range z hz) (by omega)
  rw [← HX.out]
  have hN12 : ¬ ((N : Int) > 12) := by rw [HN.out]; omega
  clear hs hsc hp hq h1 h2 h3 h4 hl1 hl2 hn hnc
  go_enter Try.func8, Try.ntmps8
  go_wp2_with fail
  refine HP1.out.mono ?_
  rintro e w1 ⟨rfl, hw1⟩
  obtain rfl : w = w1 := hw1.symm
  clear hw1
  go_wp2_with fail
  refine HP2.out.mono ?_
  rintro e w1 ⟨rfl, hw1⟩
  obtain rfl : w = w1 := hw1.symm
  clear hw1
  go_wp2_with fail
  refine HS1.out.mono ?_
  rintro e w1 ⟨rfl, hw1⟩
  obtain rfl : w = w1 := hw1.symm
  clear hw1
  go_wp2_with fail
  refine HS2.out.mono ?_
  rintro e w1 ⟨rfl, hw1⟩
  obtain rfl : w = w1 := hw1.symm
  clear hw1
  go_wp2_with fail
  refine HS1.out.mono ?_
  rintro e w1 ⟨rfl, hw1⟩
  obtain rfl : w = w1 := hw1.symm
  clear hw1
  go_wp2_with fail
  refine HCh.out.mono ?_
  rintro e w2 ⟨rfl, HB⟩
  go_wp2
  go_ret2
  exact ⟨rfl, HB.out⟩

set_option maxHeartbeats 4000000 in
set_option maxRecDepth 100000 in
theorem Character_no (a ac : Option Addr) (n nc cap cc : Nat) (zs cs : List Int) (w : World) (hs : Shows w a zs) (hn : n = zs.length) (hsc : Shows w ac cs) (hnc : nc = cs.length) (hg : ¬ Good zs cs) :
    Calls Try.prog 8 #[.slice a n cap, .slice ac nc cc] w fun e w' => ∃ r : Int, e = .returned (.tuple #[.int .i64 0, .int .i64 r]) ∧ r ≠ 0 ∧ w' = w := by
  obtain ⟨c1, HC1⟩ : ∃ c1, Hid (c1 = ptC zs) := ⟨_, rfl⟩
  obtain ⟨c2, HC2⟩ : ∃ c2, Hid (c2 = ptC cs) := ⟨_, rfl⟩
  have HP1 : Hid (Calls Try.prog 25 #[.slice a n cap] w fun e w' => e = .returned (.int .i64 c1) ∧ w' = w) := by
    have := PaCheck_any a cap zs w hs
    rw [← hn, ← HC1.out] at this; exact this
  have HP2 : Hid (Calls Try.prog 25 #[.slice ac nc cc] w fun e w' => e = .returned (.int .i64 c2) ∧ w' = w) := by
    have := PaCheck_any ac cc cs w hsc
    rw [← hnc, ← HC2.out] at this; exact this
  by_cases h1 : c1 = 0
  · by_cases h2 : c2 = 0
    · have hp := pt_of (HC1.out.symm.trans h1)
      have hq := pt_of (HC2.out.symm.trans h2)
      obtain ⟨N, HN⟩ : ∃ N, Hid (N = szN zs) := ⟨_, rfl⟩
      obtain ⟨M, HM⟩ : ∃ M, Hid (M = szN cs) := ⟨_, rfl⟩
      have hN40 : N ≤ 40 := by rw [HN.out]; exact szN_40 hp
      have hM40 : M ≤ 40 := by rw [HM.out]; exact szN_40 hq
      have HS1 : Hid (Calls Try.prog 26 #[.slice a n cap] w fun e w' => e = .returned (.int .i64 (N : Int)) ∧ w' = w) := by rw [HN.out]; exact csize_pt a n cap zs w hs hn hp (by rw [← HN.out]; omega)
      have HS2 : Hid (Calls Try.prog 26 #[.slice ac nc cc] w fun e w' => e = .returned (.int .i64 (M : Int)) ∧ w' = w) := by rw [HM.out]; exact csize_pt ac nc cc cs w hsc hnc hq (by rw [← HM.out]; omega)
      have hc : N ≠ M ∨ 12 < N := by
        rcases Nat.lt_or_ge 12 N with q | q
        · exact .inr q
        · left; intro e
          exact hg ⟨HC1.out.symm.trans h1, HC2.out.symm.trans h2, by rw [← HN.out, ← HM.out]; exact e, by rw [← HN.out]; exact q⟩
      subst h1
      subst h2
      have HHc : Hid (N ≠ M ∨ 12 < N) := hc
      clear hs hsc hp hq hg hc hn hnc
      by_cases hNM : N = M
      · subst hNM
        have hN12 : (N : Int) > 12 := by rcases HHc.out with q | q <;> omega
        go_enter Try.func8, Try.ntmps8
        go_wp2_with fail
        refine HP1.out.mono ?_
        rintro e w1 ⟨rfl, hw1⟩
        obtain rfl : w = w1 := hw1.symm
        clear hw1
        go_wp2_with fail
        refine HP2.out.mono ?_
        rintro e w1 ⟨rfl, hw1⟩
        obtain rfl : w = w1 := hw1.symm
        clear hw1
        go_wp2_with fail
        refine HS1.out.mono ?_
        rintro e w1 ⟨rfl, hw1⟩
        obtain rfl : w = w1 := hw1.symm
        clear hw1
        go_wp2_with fail
        refine HS2.out.mono ?_
        rintro e w1 ⟨rfl, hw1⟩
        obtain rfl : w = w1 := hw1.symm
        clear hw1
        go_wp2_with fail
        refine HS1.out.mono ?_
        rintro e w1 ⟨rfl, hw1⟩
        obtain rfl : w = w1 := hw1.symm
        clear hw1
        go_wp2
        go_ret2
        exact ⟨2, rfl, by decide, rfl⟩
      · have hne : ((N : Int) != (M : Int)) = true := by rw [bne_iff_ne]; omega
        clear hNM HHc
        go_enter Try.func8, Try.ntmps8
        go_wp2_with fail
        refine HP1.out.mono ?_
        rintro e w1 ⟨rfl, hw1⟩
        obtain rfl : w = w1 := hw1.symm
        clear hw1
        go_wp2_with fail
        refine HP2.out.mono ?_
        rintro e w1 ⟨rfl, hw1⟩
        obtain rfl : w = w1 := hw1.symm
        clear hw1
        go_wp2_with fail
        refine HS1.out.mono ?_
        rintro e w1 ⟨rfl, hw1⟩
        obtain rfl : w = w1 := hw1.symm
        clear hw1
        go_wp2_with fail
        refine HS2.out.mono ?_
        rintro e w1 ⟨rfl, hw1⟩
        obtain rfl : w = w1 := hw1.symm
        clear hw1
        go_wp2
        go_ret2
        exact ⟨3, rfl, by decide, rfl⟩
    · subst h1
      have hne : (c2 != 0) = true := by simp [h2]
      have HNe : Hid (c2 ≠ 0) := h2
      clear hs hsc hg hn hnc h2
      go_enter Try.func8, Try.ntmps8
      go_wp2_with fail
      refine HP1.out.mono ?_
      rintro e w1 ⟨rfl, hw1⟩
      obtain rfl : w = w1 := hw1.symm
      clear hw1
      go_wp2_with fail
      refine HP2.out.mono ?_
      rintro e w1 ⟨rfl, hw1⟩
      obtain rfl : w = w1 := hw1.symm
      clear hw1
      go_wp2
      go_ret2
      exact ⟨c2, rfl, HNe.out, rfl⟩
  · have hne : (c1 != 0) = true := by simp [h1]
    have HNe : Hid (c1 ≠ 0) := h1
    clear hs hsc hg hn hnc h1
    go_enter Try.func8, Try.ntmps8
    go_wp2_with fail
    refine HP1.out.mono ?_
    rintro e w1 ⟨rfl, hw1⟩
    obtain rfl : w = w1 := hw1.symm
    clear hw1
    go_wp2
    go_ret2
    exact ⟨c1, rfl, HNe.out, rfl⟩

end Go.Proofs.Ytheebpjkjclgbaa
