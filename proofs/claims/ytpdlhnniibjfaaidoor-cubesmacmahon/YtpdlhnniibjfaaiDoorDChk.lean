/-
  The contracts of cubes.areSides, mostAt, Check.
-/
import Derived.Test.YtpdlhnniibjfaaiDoorDEmp
namespace Go.Proofs.YtpdlhnniibjfaaiDoor
open Go.RowKit

def sides (zs : List Int) : Prop := ∀ z ∈ zs, 1 ≤ z ∧ z ≤ 8
instance (zs : List Int) : Decidable (sides zs) := inferInstanceAs (Decidable (∀ z ∈ zs, _))

set_option maxHeartbeats 1000000 in
theorem areSides_at (a : Option Addr) (n cap : Nat) (zs : List Int) (w : World) (hs : Shows w a zs) (hn : n = zs.length) :
    Calls Tryd.prog 28 #[.slice a n cap] w fun e w' => e = .returned (.bool (decide (sides zs))) ∧ w' = w := by
  subst hn
  have hl := hs.len
  have HS : Hid (Shows w a zs) := hs
  clear hs
  go_enter Tryd.func28, Tryd.ntmps28
  go_wp2
  go_loopw [7] (fun q wr => ∃ k : Nat, k ≤ zs.length ∧ q = .int .i64 k ∧ Hid (∀ j, j < k → 1 ≤ zs.getD j 0 ∧ zs.getD j 0 ≤ 8) ∧ wr = w) (fun q _ => zs.length - (intOf q).toNat)
  case atStart => exact ⟨0, Nat.zero_le _, rfl, fun j h => absurd h (by omega), rfl⟩
  case round =>
    obtain ⟨k, hk, rfl, HK, rfl⟩ := hrel
    by_cases hlt : k < zs.length
    · have hlt' : (k : Int) < (zs.length : Int) := by omega
      obtain ⟨b1, o1, z, ha, HZ, hz1, hz2, hcz⟩ := HS.out.elem hlt
      subst ha
      by_cases hz : 1 ≤ z ∧ z ≤ 8
      · have h1 : ¬ (z < 1) := by omega
        have h2 : ¬ (8 < z) := by omega
        go_wp2
        go_roundw
        case rel => exact ⟨k + 1, by omega, by go_num, fun j hj => by
          by_cases e : j = k
          · subst e; rw [← HZ.out]; exact hz
          · exact HK.out j (by omega), trivial⟩
        case measure => simp [intOf]; omega
      · have hno : Hid (¬ sides zs) := fun h => hz (by rw [HZ.out]; exact h _ (getD_mem hlt))
        by_cases h1 : z < 1
        · go_wp2
          go_ret
          exact ⟨ret_bool (decide_eq_false hno.out).symm, rfl⟩
        · have h2 : 8 < z := by omega
          go_wp2
          go_ret
          exact ⟨ret_bool (decide_eq_false hno.out).symm, rfl⟩
    · obtain rfl : k = zs.length := by omega
      have hyes : Hid (sides zs) := fun z hz => by
        obtain ⟨j, hj, rfl⟩ := List.getElem_of_mem hz
        have := HK.out j hj
        simpa [List.getD, List.getElem?_eq_getElem hj] using this
      go_wp2
      go_ret
      exact ⟨ret_bool (decide_eq_true hyes.out).symm, rfl⟩

def most (ls : List (List Int)) (i j : Nat) (h : Int) : Int :=
  let m := if 0 < j then min h (box ls i (j - 1)) else h
  if 0 < i then min m (box ls (i - 1) j) else m

set_option maxHeartbeats 2000000 in
theorem mostAt_at (a : Option Addr) (n cap : Nat) (ls : List (List Int)) (w : World) (i j : Nat) (h : Int) (hs : Table w a ls) (hn : n = ls.length) (hl : ls.length ≤ 17592186044416)
    (hi : i < ls.length) (hj : 0 < j → j - 1 < (row ls i).length) (hu : 0 < i → j < (row ls (i - 1)).length) (hjb : j ≤ 17592186044416) :
    Calls Tryd.prog 41 #[.slice a n cap, .int .i64 (i : Int), .int .i64 (j : Int), .int .i64 h] w fun e w' => e = .returned (.int .i64 (most ls i j h)) ∧ w' = w := by
  subst hn
  have hi' : (i : Int) < (ls.length : Int) := by omega
  have HS : Hid (Table w a ls) := hs
  clear hs
  obtain ⟨b, off, ai, m, ci, rfl, hc, HM, HSi, -, hmb⟩ := HS.out.elemR hi
  by_cases j0 : 0 < j
  · have j0' : (0 : Int) < (j : Int) := by omega
    obtain ⟨b1, o1, z, ha, HZ, hz1, hz2, hcz⟩ := HSi.out.elem (k := j - 1) (hj j0)
    subst ha
    have e1 : (j : Int) - 1 = ((j - 1 : Nat) : Int) := by omega
    have hjm : j - 1 < m := by rw [HM.out]; exact hj j0
    have hjm' : ((j - 1 : Nat) : Int) < (m : Int) := by omega
    by_cases i0 : 0 < i
    · have i0' : (0 : Int) < (i : Int) := by omega
      obtain ⟨b2, off2, ai2, m2, ci2, e2, hc2, HM2, HSi2, -, hmb2⟩ := HS.out.elemR (k := i - 1) (by omega)
      simp only [Option.some.injEq, Addr.mk.injEq, and_true] at e2
      obtain ⟨rfl, rfl⟩ := e2
      have e3 : (i : Int) - 1 = ((i - 1 : Nat) : Int) := by omega
      have him' : ((i - 1 : Nat) : Int) < (ls.length : Int) := by omega
      obtain ⟨b4, o4, z4, ha4, HZ4, hz14, hz24, hcz4⟩ := HSi2.out.elem (k := j) (hu i0)
      subst ha4
      have hju : (j : Int) < (m2 : Int) := by rw [HM2.out]; have := hu i0; unfold row at this; omega
      have E : most ls i j h = min (min h z) z4 := by unfold most; simp only [if_pos j0, if_pos i0]; rw [HZ.out, HZ4.out]; rfl
      rw [E]
      go_enter Tryd.func41, Tryd.ntmps41
      go_wp2 <;> (go_ret; exact ⟨ret_int (by omega), rfl⟩)
    · have i0' : ¬ (0 : Int) < (i : Int) := by omega
      have E : most ls i j h = min h z := by unfold most; simp only [if_pos j0, if_neg i0]; rw [HZ.out]; rfl
      rw [E]
      go_enter Tryd.func41, Tryd.ntmps41
      go_wp2 <;> (go_ret; exact ⟨ret_int (by omega), rfl⟩)
  · have j0' : ¬ (0 : Int) < (j : Int) := by omega
    by_cases i0 : 0 < i
    · have i0' : (0 : Int) < (i : Int) := by omega
      obtain ⟨b2, off2, ai2, m2, ci2, e2, hc2, HM2, HSi2, -, hmb2⟩ := HS.out.elemR (k := i - 1) (by omega)
      simp only [Option.some.injEq, Addr.mk.injEq, and_true] at e2
      obtain ⟨rfl, rfl⟩ := e2
      have e3 : (i : Int) - 1 = ((i - 1 : Nat) : Int) := by omega
      have him' : ((i - 1 : Nat) : Int) < (ls.length : Int) := by omega
      obtain ⟨b4, o4, z4, ha4, HZ4, hz14, hz24, hcz4⟩ := HSi2.out.elem (k := j) (hu i0)
      subst ha4
      have hju : (j : Int) < (m2 : Int) := by rw [HM2.out]; have := hu i0; unfold row at this; omega
      have E : most ls i j h = min h z4 := by unfold most; simp only [if_neg j0, if_pos i0]; rw [HZ4.out]; rfl
      rw [E]
      go_enter Tryd.func41, Tryd.ntmps41
      go_wp2 <;> (go_ret; exact ⟨ret_int (by omega), rfl⟩)
    · have i0' : ¬ (0 : Int) < (i : Int) := by omega
      have E : most ls i j h = h := by unfold most; simp only [if_neg j0, if_neg i0]
      rw [E]
      go_enter Tryd.func41, Tryd.ntmps41
      go_wp2 <;> (go_ret; exact ⟨ret_int (by omega), rfl⟩)

end Go.Proofs.YtpdlhnniibjfaaiDoor
