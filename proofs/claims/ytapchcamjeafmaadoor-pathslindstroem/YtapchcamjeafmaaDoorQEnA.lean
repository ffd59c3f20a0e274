/-
  What is done with a family: paths.Apart counts it.
-/
import Derived.Test.YtapchcamjeafmaaDoorQBeg
namespace Go.Proofs.YtapchcamjeafmaaDoor
open Go.RowKit

/-- What was found was written; all else is as it was. -/
theorem InV.found {Φ : Type} {V : Env} (hV : V.ok) {R : World → (Nat → Prop) → Φ → Prop} {w w' : World} {cl : Nat → Bool} {vs : List Value} {tx : List (List UInt8)} {st : Nat} {φ φ' : Φ} (h : InV V R w cl vs tx st φ) (hsz : w.heap.size ≤ w'.heap.size) (hso : SmO w w') (hk : ∀ k, k < w.heap.size → ¬ V.XF k → w'.heap[k]? = w.heap[k]?) (hR' : R w' (Bk V.G V.T vs) φ') : InV V R w' cl vs tx st φ' ∧ Frm V.XF V.G V.T w vs w' vs := by
  have hlo := h.1.los
  have hF : Frm V.XF V.G V.T w vs w' vs := ⟨hsz, fun k h1 _ h2 => hk k h1 h2, fun k h1 => Or.inl h1, hso⟩
  have hG : ¬ V.XF V.G := fun q => (hV.2.1 _ q).2.1 rfl
  have hT : ¬ V.XF V.T := fun q => (hV.2.1 _ q).2.2 rfl
  refine ⟨h.of hV ⟨by rw [hk _ (Nat.lt_of_lt_of_le h.1.glo hlo) hG]; exact h.1.blk, h.1.tab.same fun k hk' => ?_, h.1.num, h.1.ne, h.1.glo, Nat.le_trans hlo hsz, hR', h.1.fix⟩ hF, hF⟩
  rcases hk' with rfl | ⟨i, hi, e⟩
  · exact hk _ (Nat.lt_of_lt_of_le h.1.tab.low hlo) hT
  · have := (h.1.tab.rows i (by rw [← h.1.tab.len]; exact hi)).lt e
    exact hk k this.2 (fun q => by have := (hV.2.1 _ q).1; omega)

/-- The count, in a block of its own. -/
def RN (C : Nat) (w : World) (B : Nat → Prop) (n : Nat) : Prop := C < w.heap.size ∧ ¬ B C ∧ w.heap[C]? = some (.cells #[.int .i64 (IntKind.i64.wrap (n : Int))] 3 (0, 0))
theorem RN.sta (C : Nat) : StaR (RN C) := fun w w' B B' n h hs hk hb =>
  ⟨Nat.lt_of_lt_of_le h.1 hs, fun q => by rcases hb C q with q1 | q1; exact h.2.1 q1; exact absurd h.1 (by omega), by rw [hk C h.1 h.2.1]; exact h.2.2⟩

set_option maxHeartbeats 4000000 in
theorem Apart1_at (tv : Value) (C n : Nat) (w : World) (hC : w.heap[C]? = some (.cells #[.int .i64 (IntKind.i64.wrap (n : Int))] 3 (0, 0))) :
    Calls Tryd.prog 18 #[tv, .pointer (some ⟨C, 0, none⟩)] w fun e w' => e = .returned (.bool true) ∧ w' = w.setCell ⟨C, 0, none⟩ (.int .i64 (IntKind.i64.wrap ((n + 1 : Nat) : Int))) := by
  obtain ⟨x, HX⟩ : ∃ x, Hid (x = IntKind.i64.wrap (n : Int)) := ⟨_, rfl⟩
  rw [← HX.out] at hC
  have c0 : w.cell? ⟨C, 0, none⟩ = some (.int .i64 x) := by rw [cell_of_row w C 0 _ _ _ hC]; rfl
  have f0 : w.frozen? ⟨C, 0, none⟩ = false := frozen_of_row w C 0 _ _ hC
  obtain ⟨y, HY⟩ : ∃ y, Hid (y = IntKind.i64.wrap (x + 1)) := ⟨_, rfl⟩
  have hy : IntKind.i64.wrap (x + 1) = y := HY.out.symm
  have HYe : Hid (IntKind.i64.wrap ((n + 1 : Nat) : Int) = y) := by
    show _ = _
    rw [HY.out, HX.out, show ((n + 1 : Nat) : Int) = (n : Int) + 1 by omega]
    simp only [IntWalk.i64_left]
    unfold wrap64; omega
  rw [HYe.out]
  go_enter Tryd.func18, Tryd.ntmps18
  go_wp2
  go_ret
  exact ⟨rfl, rfl⟩

set_option maxHeartbeats 8000000 in
set_option maxRecDepth 100000 in
theorem end_apart {V : Env} (hV : V.ok) (C : Nat) (hX : ∀ q, V.XF q ↔ q = C) (hfv : V.fv = .func (.func 18) #[] #[.pointer (some ⟨C, 0, none⟩)]) : EndC V (RN C) (fun _ => True) fndN := by
  intro w cl vs tx st φ hI _
  have HV : Hid V.ok := hV
  have HI : Hid (InV V (RN C) w cl vs tx st φ) := hI
  have HXf : Hid (∀ q, V.XF q ↔ q = C) := hX
  obtain ⟨n, HN⟩ : ∃ n, Hid (n = V.S.length) := ⟨_, rfl⟩
  obtain ⟨G, HG⟩ : ∃ G, Hid (G = V.G) := ⟨_, rfl⟩
  obtain ⟨T, HT⟩ : ∃ T, Hid (T = V.T) := ⟨_, rfl⟩
  obtain ⟨ea, ec, hev, hec, hej⟩ := hI.2.1
  rw [← HN.out] at hev
  have c0 : w.cell? ⟨G, 0, none⟩ = some (.slice ea n ec) := by rw [HG.out, hI.1.cell 0 (by omega), ← hev]; rfl
  have c5 : w.drew.cell? ⟨G, 68, none⟩ = some (.func (.func 18) #[] #[.pointer (some ⟨C, 0, none⟩)]) := by
    have h := hI.1.cell 68 (by omega)
    rw [hfv] at h
    rw [HG.out]; exact h
  have c3 : w.drew.cell? ⟨G, 66, none⟩ = some (.slice (some ⟨T, 0, none⟩) n n) := by
    have h := hI.1.cell 66 (by omega)
    rw [HG.out, HT.out, HN.out]; exact h
  have hn4 : n ≤ 4 := by rw [HN.out]; exact hV.2.2.2.1
  have HCb : Hid (w.drew.heap[C]? = some (.cells #[.int .i64 (IntKind.i64.wrap (φ : Int))] 3 (0, 0))) := hI.1.rep.2.2
  have HC : Hid (Calls Tryd.prog 18 #[.slice (some ⟨T, 0, none⟩) n n, .pointer (some ⟨C, 0, none⟩)] w.drew fun e w' => e = .returned (.bool true) ∧ Hid (InV V (RN C) w' cl vs tx st (φ + 1)) ∧ Hid (Frm V.XF V.G V.T w vs w' vs)) := by
    refine (Apart1_at _ C φ w.drew HCb.out).mono ?_
    rintro e w' ⟨rfl, rfl⟩
    have hb : (w.drew.setCell ⟨C, 0, none⟩ (.int .i64 (IntKind.i64.wrap ((φ + 1 : Nat) : Int)))).heap[C]? = some (.cells #[.int .i64 (IntKind.i64.wrap ((φ + 1 : Nat) : Int))] 3 (0, 0)) := by
      rw [heap_setCell_same w.drew C 0 _ 3 _ HCb.out]; rfl
    have hsz : w.heap.size ≤ (w.drew.setCell ⟨C, 0, none⟩ (.int .i64 (IntKind.i64.wrap ((φ + 1 : Nat) : Int)))).heap.size := by
      have : (w.drew.setCell ⟨C, 0, none⟩ (.int .i64 (IntKind.i64.wrap ((φ + 1 : Nat) : Int)))).heap.size = w.drew.heap.size := by simp
      rw [this]; exact Nat.le_refl _
    obtain ⟨h1, h2⟩ := HI.out.found HV.out hsz ⟨rfl, rfl, rfl⟩ (fun k _ hx => by
      rw [heap_setCell_other _ _ _ _ (fun q => hx ((HXf.out k).2 q))]; rfl) ⟨Nat.lt_of_lt_of_le HI.out.1.rep.1 hsz, HI.out.1.rep.2.1, hb⟩
    exact ⟨rfl, h1, h2⟩
  rw [← HG.out, ← HN.out]
  clear hI hej hV hX hfv hev hec
  go_enter Tryd.func23, Tryd.ntmps23
  go_upto_region 2 with fail
  go_region_with (go_at_call 18; with_reducible (refine HC.out.mono ?_); rintro e W1 ⟨rfl, k1, k2⟩)
  all_goals (
    go_wp2_with fail
    go_ret
    exact ⟨rfl, vs, k1, k2, fun _ => trivial⟩)

end Go.Proofs.YtapchcamjeafmaaDoor
