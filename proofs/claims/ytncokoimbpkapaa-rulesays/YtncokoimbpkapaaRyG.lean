/-
  The law RuleSays, upon the contracts of what it calls.
-/
import Derived.Test.YtncokoimbpkapaaRyF
import Derived.Test.YtncokoimbpkapaaRxB
namespace Go.Proofs.Ytncokoimbpkapaa
open Go.RowKit

theorem hid_of {p : Prop} (h : p) : Hid p := h

set_option maxHeartbeats 4000000 in
set_option maxRecDepth 100000 in
theorem rsays_c (a0 a1 a2 : Option Addr) (n0 n1 n2 c0 c1 c2 : Nat) (k num : Int) (w : World) (P : Value → World → Prop) (P3 : Value → World → Prop)
    (H1 : Hid (Calls Try.prog 4 #[.slice a0 n0 c0, .slice a1 n1 c1, .slice a2 n2 c2] w fun e w' => e = .returned (.tuple #[.int .i64 num, .int .i64 k]) ∧ Hid (Below w.heap.size w w')))
    (H2 : Hid (∀ w1, Below w.heap.size w w1 → Calls Try.prog 5 #[.slice a0 n0 c0, .slice a1 n1 c1, .slice a2 n2 c2] w1 fun e w' => ∃ v, e = .returned (.tuple #[v, .int .i64 k]) ∧ Hid (P v w')))
    (H3 : Hid (∀ v w2, P v w2 → Calls Try.prog 6 #[.slice (some ⟨w2.heap.size, 0, none⟩) 3 3] (w2.alloc (.cells #[.slice a0 n0 c0, .slice a1 n1 c1, .slice a2 n2 c2] 22)) fun e w' => e = .returned (.int .i64 k) ∧ Hid (P3 v w')))
    (H4 : Hid (∀ v w3, k ≠ 0 → P3 v w3 → v = .slice none 0 0 ∧ num = 0 ∧ Hid (Below w.heap.size w w3)))
    (H5 : Hid (∀ v w3, k = 0 → P3 v w3 → Calls Try.prog 7 #[.slice a0 n0 c0, .slice a1 n1 c1, .slice a2 n2 c2] w3 fun e w' => ∃ (a c av cv n : _), e = .returned (.slice a n c) ∧ v = .slice av n cv ∧ num = (n : Nat) ∧ Hid (Calls Try.prog 8 #[.slice av n cv, .slice a n c] w' fun e w2 => e = .returned (.bool true) ∧ Hid (Below w.heap.size w w2)))) :
    Calls Try.prog 3 #[.slice a0 n0 c0, .slice a1 n1 c1, .slice a2 n2 c2] w fun e w' => e = .returned (.bool true) ∧ Below w.heap.size w w' := by
  go_enter Try.func3, Try.ntmps3
  go_wp2_with fail
  refine H1.out.mono ?_
  rintro e w1 ⟨rfl, HB1⟩
  have HH2 := hid_of (H2.out w1 HB1.out)
  clear H1
  go_wp2_with fail
  refine HH2.out.mono ?_
  rintro e w2 ⟨v, rfl, HP⟩
  have HH3 := hid_of (H3.out v w2 HP.out)
  clear HH2 H2 H3
  go_wp2_with fail
  refine HH3.out.mono ?_
  rintro e w3 ⟨rfl, HP3⟩
  clear HH3
  by_cases hk : k = 0
  · have HH5 := hid_of (H5.out v w3 hk HP3.out)
    subst hk
    clear H4 H5 HP3
    go_wp2_with fail
    refine HH5.out.mono ?_
    rintro e w4 ⟨a, c, av, cv, n, rfl, rfl, hnum, HT⟩
    subst hnum
    clear HH5
    go_wp2_with fail
    refine HT.out.mono ?_
    rintro e w5 ⟨rfl, HB5⟩
    go_wp2
    go_ret
    exact ⟨rfl, HB5.out⟩
  · obtain ⟨rfl, rfl, HB3⟩ := H4.out v w3 hk HP3.out
    have hkb : (k == 0) = false := by simp [hk]
    have hkn : (k != 0) = true := by simp [hk]
    clear H4 H5 HP3
    go_wp2
    go_ret
    exact ⟨rfl, HB3.out⟩

end Go.Proofs.Ytncokoimbpkapaa
