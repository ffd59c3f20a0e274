/-
  The contract of ferref.Grown.
-/
import Derived.Test.YtncokoimbpkapaaRyC
import Derived.Laws.EntriesVeiled
namespace Go.Proofs.Ytncokoimbpkapaa
open Go.RowKit

/-- The four boxes, new. -/
abbrev grW (w : World) (ap : Option Addr) (np cp : Nat) (ac : Option Addr) (nc cc : Nat) : World :=
  (((w.alloc (.cells #[.slice ap np cp] 22)).alloc (.cells #[.slice ac nc cc] 22)).alloc (.cells #[.slice none 0 0] 35)).alloc (.cells #[grV w.heap.size] 59)
theorem grW_below (w : World) (ap : Option Addr) (np cp : Nat) (ac : Option Addr) (nc cc : Nat) : Below w.heap.size w (grW w ap np cp ac nc cc) := by
  refine (((((Below.refl _ _).alloc (Nat.le_refl _) _).alloc ?_ _).alloc ?_ _).alloc ?_ _) <;> simp <;> omega
theorem grx_new (w : World) (ap : Option Addr) (cp : Nat) (ac : Option Addr) (cc : Nat) (pl cl : List Nat) (hp : Shows w ap (castL pl)) (hc : Shows w ac (castL cl)) :
    GrX (grW w ap pl.length cp ac cl.length cc) w.heap.size 59 ap cp ac cc pl cl (.slice none 0 0) [] [] := by
  have hb := grW_below w ap pl.length cp ac cl.length cc
  refine ⟨?_, ?_, ⟨?_, ?_, ⟨World.ownsRow_nil _ _ _ _, rfl, fun i h => absurd h (by simp [castT]), fun i _ h => absurd h (by simp [castT]), fun i h => absurd h (by simp [castT])⟩⟩, fun W hW => hp.below (hb.trans hW), fun W hW => hc.below (hb.trans hW)⟩
  · rw [Below.heap_alloc _ _ _ (by simp; omega), Below.heap_alloc _ _ _ (by simp; omega), Below.heap_alloc _ _ _ (by simp)]
    exact heap_alloc_new _ _
  · rw [Below.heap_alloc _ _ _ (by simp), Below.heap_alloc _ _ _ (by simp)]
    have := heap_alloc_new (w.alloc (.cells #[.slice ap pl.length cp] 22)) (.cells #[.slice ac cl.length cc] 22)
    simpa using this
  · rw [Below.heap_alloc _ _ _ (by simp)]
    have := heap_alloc_new ((w.alloc (.cells #[.slice ap pl.length cp] 22)).alloc (.cells #[.slice ac cl.length cc] 22)) (.cells #[.slice none 0 0] 35)
    simpa using this
  · have := heap_alloc_new (((w.alloc (.cells #[.slice ap pl.length cp] 22)).alloc (.cells #[.slice ac cl.length cc] 22)).alloc (.cells #[.slice none 0 0] 35)) (.cells #[grV w.heap.size] 59)
    simpa using this
theorem gF_gwn (p c : Nat → Nat) (m k : Nat) : gF p c m 0 k [] = gwn p c m k := by unfold gF gwn; simp
theorem gwn_len (p c : Nat → Nat) (m k : Nat) : (gwn p c m k).length = (grN p c m 0 k).length := by unfold gwn; simp

set_option maxHeartbeats 4000000 in
set_option maxRecDepth 100000 in
theorem Grown_at (ap : Option Addr) (np cp : Nat) (ac : Option Addr) (nc cc k : Nat) (pl cl : List Nat) (w : World) (hp : Shows w ap (castL pl)) (hc : Shows w ac (castL cl)) (hnp : np = pl.length) (hnc : nc = cl.length) (hcl : cl.length ≤ 1000) (hpl : pl.length ≤ 1000) (hpz : ∀ z ∈ pl, z ≤ 1000) (hcz : ∀ z ∈ cl, z ≤ 1000) (hk : k ≤ 1000) (hL : (gwn (fun r => pl.getD r 0) (fun r => cl.getD r 0) cl.length k).length ≤ 5000000000000) :
    Calls Try.prog 19 #[.slice ap np cp, .slice ac nc cc, .int .i64 k] w fun e w' => ∃ v, e = .returned v ∧ Tbl w' w.heap.size v (castT (gwn (fun r => pl.getD r 0) (fun r => cl.getD r 0) cl.length k)) ∧ Below w.heap.size w w' := by
  have HC : Hid (∀ W, W = grW w ap np cp ac nc cc →
      Calls Try.prog 36 #[.int .i64 0, .int .i64 k, .slice none 0 0, bx (w.heap.size + 1), bx (w.heap.size + 2), bx w.heap.size, bx (w.heap.size + 3)] W fun e w' => e = .returned (.tuple #[]) ∧ EndG W w.heap.size 59 (.slice none 0 0) (gwn (fun r => pl.getD r 0) (fun r => cl.getD r 0) cl.length k) w') := fun W hW => by
    subst hW hnp hnc
    have := Gr_at 59 ap ac cp cc pl cl hcl hpl hpz hcz cl.length 0 k w.heap.size _ [] (.slice none 0 0) [] [] _ (by omega) (grx_new w ap cp ac cc pl cl hp hc) (World.ownsRow_nil _ _ _ _) (fun g h => by cases h) rfl (fun z hz => absurd hz (by simp)) hk (by rw [gF_gwn]; simpa using hL)
    rw [gF_gwn, List.nil_append] at this
    exact this
  have HB : Hid (Below w.heap.size w (grW w ap np cp ac nc cc)) := grW_below w ap np cp ac nc cc
  obtain ⟨R, HR⟩ : ∃ R, Hid (R = gwn (fun r => pl.getD r 0) (fun r => cl.getD r 0) cl.length k) := ⟨_, rfl⟩
  rw [← HR.out] at HC ⊢
  clear hp hc hnp hnc hcl hpl hpz hcz hk hL HR
  go_enter Try.func19, Try.ntmps19
  go_wp2_with fail
  refine (HC.out _ rfl).mono ?_
  rintro e w1 ⟨rfl, hb1, v1, vs1, hy1, hk1⟩
  have HB1 : Hid (Below w.heap.size w w1) := HB.out.trans (hb1.mono (by omega))
  have HT : Hid (Tbl w1 w.heap.size v1 (castT R)) := (show Tbl w1 (w.heap.size + 4) v1 (castT R) from ⟨vs1, hy1.t⟩).mono (by omega)
  have c0 := cell_of_one hy1.b0
  clear hb1 hy1 hk1
  go_wp2
  go_ret
  exact ⟨v1, rfl, HT.out, HB1.out⟩

end Go.Proofs.Ytncokoimbpkapaa
