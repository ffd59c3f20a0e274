/-
  The contract of ferref.AllParts.
-/
import Derived.Test.YtheebpjkjclgbaaCSor
import Derived.Laws.EntriesVeiled
namespace Go.Proofs.Ytheebpjkjclgbaa
open Go.RowKit Go.Shelf

theorem ally_new (w : World) : AllY ((w.alloc (.cells #[.slice none 0 0] 38)).alloc (.cells #[parV w.heap.size] 52)) w.heap.size 52 (parV w.heap.size) (.slice none 0 0) [] [] := by
  refine ⟨?_, ?_, ⟨World.ownsRow_nil _ _ _ _, rfl, fun i h => absurd h (by simp), fun i _ h => absurd h (by simp), fun i h => absurd h (by simp)⟩⟩
  · rw [Below.heap_alloc _ _ _ (by simp)]
    exact heap_alloc_new _ _
  · have := heap_alloc_new (w.alloc (.cells #[.slice none 0 0] 38)) (.cells #[parV w.heap.size] 52)
    simpa using this
theorem below_newP (w : World) : Below w.heap.size w ((w.alloc (.cells #[.slice none 0 0] 38)).alloc (.cells #[parV w.heap.size] 52)) := by
  refine (((Below.refl _ _).alloc (Nat.le_refl _) _).alloc ?_ _)
  simp

set_option maxHeartbeats 4000000 in
set_option maxRecDepth 100000 in
theorem AllParts_ok {ρ : Go.Shelf.Ren} (L : SlLaysF.n6 Try.prog ρ) (hρ : ρ.f 6 = 32) (n : Nat) (h : n ≤ 20) (w : World) :
    Calls Try.prog 15 #[.int .i64 n] w fun e w' => ∃ v, e = .returned v ∧ Tbl w' w.heap.size v (genA n) ∧ Below w.heap.size w w' := by
  have HC : Hid (∀ W, W = ((w.alloc (.cells #[.slice none 0 0] 38)).alloc (.cells #[parV w.heap.size] 52)) →
      Calls Try.prog 30 #[.int .i64 1, .int .i64 n, .slice none 0 0, bx w.heap.size, bx (w.heap.size + 1)] W fun e w' => e = .returned (.tuple #[]) ∧ EndY W w.heap.size 52 (.slice none 0 0) ([] ++ rgF 21 1 n []) w') := fun W hW => by
    subst hW
    exact Ap1_at 52 21 1 n _ _ _ _ [] [] _ (ally_new w) (World.ownsRow_nil _ _ _ _) (apart_nil _) ⟨by simp; exact h, fun z hz => absurd hz (by simp), List.Pairwise.nil, Nat.le_refl _, by omega⟩ (by omega) (by simpa using rg_len h)
  have HB : Hid (Below w.heap.size w ((w.alloc (.cells #[.slice none 0 0] 38)).alloc (.cells #[parV w.heap.size] 52))) := below_newP w
  have HS : Hid (∀ v vs W, TblV W (w.heap.size + 2) v vs (rgF 21 1 n []) → w.heap.size + 2 ≤ W.heap.size → Calls Try.prog 32 #[v, .func (.func 33) #[] #[]] W fun e w' => e = .returned (.tuple #[]) ∧ Tbl w' (w.heap.size + 2) v (genA n) ∧ Below (w.heap.size + 2) W w') := fun v vs W hT hz => by
    refine (SortDown_at L hρ v vs _ W hT (rg_len h) hz (fun l hl => ?_)).mono ?_
    · have hr := genA_row h l ((rg_perm h).mem_iff.1 hl)
      exact ⟨by have := hr.1; omega, fun z hz => by have := hr.2 z hz; omega⟩
    · rintro e w' ⟨rfl, ls', h1, h2, h3, h4⟩
      rw [sorted_genA h h1 h2] at h3
      exact ⟨rfl, h3, h4⟩
  clear L hρ
  go_enter Try.func15, Try.ntmps15
  go_wp2_with fail
  refine (HC.out _ rfl).mono ?_
  rintro e w1 ⟨rfl, hb1, v1, vs1, hy1, hk1⟩
  have HB1 : Hid (Below w.heap.size w w1) := HB.out.trans hb1
  have HY : Hid (AllY w1 w.heap.size 52 (parV w.heap.size) v1 vs1 (rgF 21 1 n [])) := hy1
  have c0 := cell_of_one hy1.b0
  clear hb1 hy1 hk1
  go_wp2_with fail
  refine (HS.out v1 vs1 w1 HY.out.t HY.out.size).mono ?_
  rintro e w2 ⟨rfl, hT2, hb2⟩
  have e0 : w2.heap[w.heap.size]? = some (.cells #[v1] 38 (0, 0)) := by rw [hb2.block w.heap.size (by omega)]; exact HY.out.b0
  have c1 := cell_of_one e0
  have HT2 : Hid (Tbl w2 w.heap.size v1 (genA n)) := hT2.mono (by omega)
  have HB2 : Hid (Below w.heap.size w w2) := HB1.out.trans (hb2.mono (by omega))
  clear e0 hT2 hb2
  go_wp2
  go_ret
  exact ⟨v1, rfl, HT2.out, HB2.out⟩

end Go.Proofs.Ytheebpjkjclgbaa
