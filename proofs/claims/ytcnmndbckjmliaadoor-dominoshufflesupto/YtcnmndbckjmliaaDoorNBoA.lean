/-
  ferlaw.DominoShuffles returns true.
  A list of choices that came in.
-/
import Derived.Test.YtcnmndbckjmliaaDoorNCt
import Derived.Test.YtcnmndbckjmliaaDoorNSw
import Derived.Test.YtcnmndbckjmliaaDoorNWn
import Derived.Test.YtcnmndbckjmliaaDoorNNeg
import Derived.Deep.RegionHeld3
import Derived.Test.YtcnmndbckjmliaaDoorBView
namespace Go.Proofs.YtcnmndbckjmliaaDoor
open Go.RowKit

theorem ba_neqS {a b : ByteArray} (h : ¬ a.data.toList = b.data.toList) : (a.toList == b.toList) = false ∧ ¬ a.toList = b.toList := by
  rw [ByteArray.toList_eq a, ByteArray.toList_eq b]
  exact ⟨beq_false_of_ne h, h⟩
/-- A contract, told from the law's own beginning. -/
theorem from_law {w W : World} {f : Nat} {args : Array Value} {v : Value} (hW : Below w.heap.size w W) (h : Calls Tryd.prog f args W fun e w' => e = .returned v ∧ Hid (Below W.heap.size W w')) : Calls Tryd.prog f args W fun e w' => e = .returned v ∧ Hid (Below w.heap.size w w') :=
  h.mono fun _ _ q => ⟨q.1, hW.trans (q.2.out.mono hW.size)⟩
theorem from_law0 {w W : World} {f : Nat} {args : Array Value} {v : Value} (hW : Below w.heap.size w W) (h : Calls Tryd.prog f args W fun e w' => e = .returned v ∧ w' = W) : Calls Tryd.prog f args W fun e w' => e = .returned v ∧ Hid (Below w.heap.size w w') :=
  h.mono fun _ _ q => ⟨q.1, by rw [q.2]; exact hW⟩

section
variable (t : ByteArray) (m : Int) (w : World) (hs : t.size ≤ 4000000000) (hm : w.cell? ⟨0, 0, none⟩ = some (.int .i64 m)) (ua : Option Addr) (un uc : Nat)
include hs hm
set_option maxHeartbeats 8000000 in
set_option maxRecDepth 100000 in
theorem dsh_N (hT : ∀ r c, ¬ Til t.data.toList r c) : Calls Tryd.prog 5 #[.string t, .slice ua un uc] w fun e w' => e = .returned (.bool true) ∧ Below w.heap.size w w' := by
  have HM : Hid (∀ W, Below w.heap.size w W → W.cell? ⟨0, 0, none⟩ = some (.int .i64 m)) := fun W hW => (hW.cell (p := ⟨0, 0, none⟩) (World.block_lt_of_cell? w _ hm)).trans hm
  have HNd : Hid (∀ W, Hid (Below w.heap.size w W) → Calls Tryd.prog 25 #[.string t] W fun e w' => e = .returned (.tuple #[.int .i64 0, .int .i64 1]) ∧ Hid (Below w.heap.size w w')) := fun W hW => from_law hW.out (Needs_bad t 1 W (shuffled_no t m W (HM.out W hW.out) hT))
  have HSh : Hid (∀ W, Hid (Below w.heap.size w W) → Calls Tryd.prog 26 #[.string t, .slice ua un uc] W fun e w' => e = .returned (.tuple #[.string ⟨#[]⟩, .int .i64 1]) ∧ Hid (Below w.heap.size w w')) := fun W hW => from_law hW.out (Shuffle_bad t 1 W (by decide) ua un uc (shuffled_no t m W (HM.out W hW.out) hT))
  have HLa : Hid (∀ W, Hid (Below w.heap.size w W) → Calls Tryd.prog 11 #[.string t] W fun e w' => e = .returned (.bool false) ∧ Hid (Below w.heap.size w w')) := fun W hW => from_law hW.out (SLaid_no t m W hs (HM.out W hW.out) hT)
  have HB0 : Hid (Below w.heap.size w w) := Below.refl _ _
  clear hT hm hs
  go_enter Tryd.func5, Tryd.ntmps5
  go_wp2_with (first | (go_at_call 25; with_reducible (refine (HNd.out _ HB0).mono ?_); rintro e w1 ⟨rfl, HB1⟩) | (go_at_call 26; with_reducible (refine (HSh.out _ HB1).mono ?_); rintro e w2 ⟨rfl, HB2⟩) | (go_at_call 11; with_reducible (refine (HLa.out _ HB2).mono ?_); rintro e w3 ⟨rfl, HB3⟩))
  go_ret
  exact ⟨rfl, HB3⟩

set_option maxHeartbeats 8000000 in
set_option maxRecDepth 100000 in
/-- No diamond: a board of one row. -/
theorem dsh_S0 (R C n : Nat) (hT : Til t.data.toList R C) (hn : n = R / 2) (hne : ¬ (R = 2 * n ∧ C = 2 * n ∧ brdT t.data.toList R C = tx (2 * n) (2 * n) (dmF n))) (h0 : n = 0) : Calls Tryd.prog 5 #[.string t, .slice ua un uc] w fun e w' => e = .returned (.bool true) ∧ Below w.heap.size w w' := by
  have HM : Hid (∀ W, Below w.heap.size w W → W.cell? ⟨0, 0, none⟩ = some (.int .i64 m)) := fun W hW => (hW.cell (p := ⟨0, 0, none⟩) (World.block_lt_of_cell? w _ hm)).trans hm
  have HNd : Hid (∀ W, Hid (Below w.heap.size w W) → Calls Tryd.prog 25 #[.string t] W fun e w' => e = .returned (.tuple #[.int .i64 0, .int .i64 3]) ∧ Hid (Below w.heap.size w w')) := fun W hW => from_law hW.out (Needs_bad t 3 W (shuffled_sh t R C n m W (HM.out W hW.out) hT hn hne))
  have HSh : Hid (∀ W, Hid (Below w.heap.size w W) → Calls Tryd.prog 26 #[.string t, .slice ua un uc] W fun e w' => e = .returned (.tuple #[.string ⟨#[]⟩, .int .i64 3]) ∧ Hid (Below w.heap.size w w')) := fun W hW => from_law hW.out (Shuffle_bad t 3 W (by decide) ua un uc (shuffled_sh t R C n m W (HM.out W hW.out) hT hn hne))
  have HLa : Hid (∀ W, Hid (Below w.heap.size w W) → Calls Tryd.prog 11 #[.string t] W fun e w' => e = .returned (.bool true) ∧ Hid (Below w.heap.size w w')) := fun W hW => from_law hW.out (SLaid_ok t m W hs (HM.out W hW.out) R C hT)
  have HCe : Hid (∀ W, Hid (Below w.heap.size w W) → Calls Tryd.prog 14 #[.string t, .string ⟨#[108, 114, 117, 100, 46]⟩] W fun e w' => ∃ a, e = .returned (.slice a R R) ∧ Hid (Below w.heap.size w w')) := fun W hW => (SCells_ok t m W hs (HM.out W hW.out) R C hT).mono fun _ _ ⟨a, h1, h2⟩ => ⟨a, h1, hW.out.trans (h2.out.mono hW.out.size)⟩
  have HB0 : Hid (Below w.heap.size w w) := Below.refl _ _
  have hR8 : R ≤ 8 := hT.1.2.2.1
  have hR2 : Int.tdiv (R : Int) 2 = 0 := by rw [Int.tdiv_eq_ediv_of_nonneg (by omega)]; omega
  clear hT hm hs hn hne h0
  go_enter Tryd.func5, Tryd.ntmps5
  go_wp2_with (first | (go_at_call 25; with_reducible (refine (HNd.out _ HB0).mono ?_); rintro e w1 ⟨rfl, HB1⟩) | (go_at_call 26; with_reducible (refine (HSh.out _ HB1).mono ?_); rintro e w2 ⟨rfl, HB2⟩) | (go_at_call 11; with_reducible (refine (HLa.out _ HB2).mono ?_); rintro e w3 ⟨rfl, HB3⟩) | (go_at_call 14; with_reducible (refine (HCe.out _ HB3).mono ?_); rintro e w4 ⟨a4, rfl, HB4⟩))
  go_ret
  exact ⟨rfl, HB4⟩

set_option maxHeartbeats 8000000 in
set_option maxRecDepth 100000 in
/-- No diamond. -/
theorem dsh_S1 (R C n : Nat) (hT : Til t.data.toList R C) (hn : n = R / 2) (hne : ¬ (R = 2 * n ∧ C = 2 * n ∧ brdT t.data.toList R C = tx (2 * n) (2 * n) (dmF n))) (h0 : ¬ n = 0) : Calls Tryd.prog 5 #[.string t, .slice ua un uc] w fun e w' => e = .returned (.bool true) ∧ Below w.heap.size w w' := by
  have HM : Hid (∀ W, Below w.heap.size w W → W.cell? ⟨0, 0, none⟩ = some (.int .i64 m)) := fun W hW => (hW.cell (p := ⟨0, 0, none⟩) (World.block_lt_of_cell? w _ hm)).trans hm
  have HNd : Hid (∀ W, Hid (Below w.heap.size w W) → Calls Tryd.prog 25 #[.string t] W fun e w' => e = .returned (.tuple #[.int .i64 0, .int .i64 3]) ∧ Hid (Below w.heap.size w w')) := fun W hW => from_law hW.out (Needs_bad t 3 W (shuffled_sh t R C n m W (HM.out W hW.out) hT hn hne))
  have HSh : Hid (∀ W, Hid (Below w.heap.size w W) → Calls Tryd.prog 26 #[.string t, .slice ua un uc] W fun e w' => e = .returned (.tuple #[.string ⟨#[]⟩, .int .i64 3]) ∧ Hid (Below w.heap.size w w')) := fun W hW => from_law hW.out (Shuffle_bad t 3 W (by decide) ua un uc (shuffled_sh t R C n m W (HM.out W hW.out) hT hn hne))
  have HLa : Hid (∀ W, Hid (Below w.heap.size w W) → Calls Tryd.prog 11 #[.string t] W fun e w' => e = .returned (.bool true) ∧ Hid (Below w.heap.size w w')) := fun W hW => from_law hW.out (SLaid_ok t m W hs (HM.out W hW.out) R C hT)
  have HCe : Hid (∀ W, Hid (Below w.heap.size w W) → Calls Tryd.prog 14 #[.string t, .string ⟨#[108, 114, 117, 100, 46]⟩] W fun e w' => ∃ a, e = .returned (.slice a R R) ∧ Hid (Below w.heap.size w w')) := fun W hW => (SCells_ok t m W hs (HM.out W hW.out) R C hT).mono fun _ _ ⟨a, h1, h2⟩ => ⟨a, h1, hW.out.trans (h2.out.mono hW.out.size)⟩
  obtain ⟨b, HBb⟩ : ∃ b : ByteArray, Hid (b = ⟨(brdT t.data.toList R C).toArray⟩) := ⟨_, rfl⟩
  obtain ⟨D, HD⟩ : ∃ D : ByteArray, Hid (D = ⟨(tx (2 * n) (2 * n) (dmF n)).toArray⟩) := ⟨_, rfl⟩
  have hR8 : R ≤ 8 := hT.1.2.2.1
  have HCv : Hid (∀ W, Hid (Below w.heap.size w W) → Calls Tryd.prog 13 #[.string t] W fun e w' => e = .returned (.string b) ∧ Hid (Below w.heap.size w w')) := fun W hW => by rw [HBb.out]; exact from_law hW.out (Covered_at t R C W hT)
  have HDi : Hid (∀ W, Hid (Below w.heap.size w W) → Calls Tryd.prog 19 #[.int .i64 (n : Int)] W fun e w' => e = .returned (.string D) ∧ Hid (Below w.heap.size w w')) := fun W hW => by rw [HD.out]; exact from_law0 hW.out (Diamond_at n W (by omega) (by omega))
  have hbd : (b.toList == D.toList) = false ∧ ¬ b.toList = D.toList := by
    refine ba_neqS ?_
    rw [HBb.out, HD.out]
    simpa using brd_other hT (by omega) (by omega) hne
  obtain ⟨hbd1, hbd2⟩ := hbd
  have HB0 : Hid (Below w.heap.size w w) := Below.refl _ _
  have hR2 : Int.tdiv (R : Int) 2 = (n : Int) := by rw [Int.tdiv_eq_ediv_of_nonneg (by omega)]; omega
  have hn0 : ¬ (n : Int) = 0 := by omega
  have hn0b : ((n : Int) == 0) = false := beq_false_of_ne hn0
  have hn4 : n ≤ 4 := by omega
  clear hT hm hs hn hne h0
  go_enter Tryd.func5, Tryd.ntmps5
  go_wp2_with (first | (go_at_call 25; with_reducible (refine (HNd.out _ HB0).mono ?_); rintro e w1 ⟨rfl, HB1⟩) | (go_at_call 26; with_reducible (refine (HSh.out _ HB1).mono ?_); rintro e w2 ⟨rfl, HB2⟩) | (go_at_call 11; with_reducible (refine (HLa.out _ HB2).mono ?_); rintro e w3 ⟨rfl, HB3⟩) | (go_at_call 14; with_reducible (refine (HCe.out _ HB3).mono ?_); rintro e w4 ⟨a4, rfl, HB4⟩) | (go_at_call 13; with_reducible (refine (HCv.out _ HB4).mono ?_); rintro e w5 ⟨rfl, HB5⟩) | (go_at_call 19; with_reducible (refine (HDi.out _ HB5).mono ?_); rintro e w6 ⟨rfl, HB6⟩))
  go_ret
  exact ⟨rfl, HB6⟩

set_option maxHeartbeats 8000000 in
set_option maxRecDepth 100000 in
/-- The greatest diamond. -/
theorem dsh_4 (n : Nat) (hT : Til t.data.toList (2 * n) (2 * n)) (h4 : n = 4) (hb : brdT t.data.toList (2 * n) (2 * n) = tx (2 * n) (2 * n) (dmF n)) : Calls Tryd.prog 5 #[.string t, .slice ua un uc] w fun e w' => e = .returned (.bool true) ∧ Below w.heap.size w w' := by
  have HM : Hid (∀ W, Below w.heap.size w W → W.cell? ⟨0, 0, none⟩ = some (.int .i64 m)) := fun W hW => (hW.cell (p := ⟨0, 0, none⟩) (World.block_lt_of_cell? w _ hm)).trans hm
  have HNd : Hid (∀ W, Hid (Below w.heap.size w W) → Calls Tryd.prog 25 #[.string t] W fun e w' => e = .returned (.tuple #[.int .i64 0, .int .i64 2]) ∧ Hid (Below w.heap.size w w')) := fun W hW => from_law hW.out (Needs_bad t 2 W (shuffled4_at t n m W (HM.out W hW.out) h4 (by omega) hT hb))
  have HSh : Hid (∀ W, Hid (Below w.heap.size w W) → Calls Tryd.prog 26 #[.string t, .slice ua un uc] W fun e w' => e = .returned (.tuple #[.string ⟨#[]⟩, .int .i64 2]) ∧ Hid (Below w.heap.size w w')) := fun W hW => from_law hW.out (Shuffle_bad t 2 W (by decide) ua un uc (shuffled4_at t n m W (HM.out W hW.out) h4 (by omega) hT hb))
  have HLa : Hid (∀ W, Hid (Below w.heap.size w W) → Calls Tryd.prog 11 #[.string t] W fun e w' => e = .returned (.bool true) ∧ Hid (Below w.heap.size w w')) := fun W hW => from_law hW.out (SLaid_ok t m W hs (HM.out W hW.out) _ _ hT)
  obtain ⟨R, HR⟩ : ∃ R, Hid (R = 2 * n) := ⟨_, rfl⟩
  have HCe : Hid (∀ W, Hid (Below w.heap.size w W) → Calls Tryd.prog 14 #[.string t, .string ⟨#[108, 114, 117, 100, 46]⟩] W fun e w' => ∃ a, e = .returned (.slice a R R) ∧ Hid (Below w.heap.size w w')) := fun W hW => (SCells_ok t m W hs (HM.out W hW.out) _ _ hT).mono fun _ _ ⟨a, h1, h2⟩ => ⟨a, by rw [HR.out]; exact h1, hW.out.trans (h2.out.mono hW.out.size)⟩
  obtain ⟨b, HBb⟩ : ∃ b : ByteArray, Hid (b = ⟨(tx (2 * n) (2 * n) (dmF n)).toArray⟩) := ⟨_, rfl⟩
  have HCv : Hid (∀ W, Hid (Below w.heap.size w W) → Calls Tryd.prog 13 #[.string t] W fun e w' => e = .returned (.string b) ∧ Hid (Below w.heap.size w w')) := fun W hW => by rw [HBb.out, ← hb]; exact from_law hW.out (Covered_at t _ _ W hT)
  have HDi : Hid (∀ W, Hid (Below w.heap.size w W) → Calls Tryd.prog 19 #[.int .i64 4] W fun e w' => e = .returned (.string b) ∧ Hid (Below w.heap.size w w')) := fun W hW => by
    have h := Diamond_at n W (by omega) (by omega)
    rw [show (n : Int) = 4 by omega] at h
    rw [HBb.out]; exact from_law0 hW.out h
  have HB0 : Hid (Below w.heap.size w w) := Below.refl _ _
  have hR8 : R ≤ 8 := by rw [HR.out]; omega
  have hR2 : Int.tdiv (R : Int) 2 = 4 := by rw [HR.out, h4]; decide
  clear hT hm hs h4 hb
  go_enter Tryd.func5, Tryd.ntmps5
  go_wp2_with (first | (go_at_call 25; with_reducible (refine (HNd.out _ HB0).mono ?_); rintro e w1 ⟨rfl, HB1⟩) | (go_at_call 26; with_reducible (refine (HSh.out _ HB1).mono ?_); rintro e w2 ⟨rfl, HB2⟩) | (go_at_call 11; with_reducible (refine (HLa.out _ HB2).mono ?_); rintro e w3 ⟨rfl, HB3⟩) | (go_at_call 14; with_reducible (refine (HCe.out _ HB3).mono ?_); rintro e w4 ⟨a4, rfl, HB4⟩) | (go_at_call 13; with_reducible (refine (HCv.out _ HB4).mono ?_); rintro e w5 ⟨rfl, HB5⟩) | (go_at_call 19; with_reducible (refine (HDi.out _ HB5).mono ?_); rintro e w6 ⟨rfl, HB6⟩))
  go_ret
  exact ⟨rfl, HB6⟩
end

end Go.Proofs.YtcnmndbckjmliaaDoor

namespace Go.Proofs.YtcnmndbckjmliaaDoor
open Go.RowKit

/-- A list of choices that came in. -/
def BoA (w : World) (a : Option Addr) (n : Nat) (bs : List Bool) : Prop := bs.length = n ∧ (0 < n → ∃ b off, a = some ⟨b, off, none⟩ ∧ b < w.heap.size ∧ ∀ j, j < n → w.cell? ⟨b, off + j, none⟩ = some (.bool (bs.getD j false)))

end Go.Proofs.YtcnmndbckjmliaaDoor
