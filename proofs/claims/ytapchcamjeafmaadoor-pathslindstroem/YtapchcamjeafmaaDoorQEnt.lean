/-
  paths.look.enter.
-/
import Derived.Test.YtapchcamjeafmaaDoorQCon
import Derived.Deep.DeepCutAuto
namespace Go.Proofs.YtapchcamjeafmaaDoor
open Go.RowKit

theorem lkF_cl (sv ev : Value) (cl : Nat → Bool) (tv : Value) (st : Nat) (fv : Value) (p : Nat × Nat) (h1 : p.1 < 8) (h2 : p.2 < 8) : lkF sv ev cl tv st fv (2 + p.1 * 8 + p.2) = .bool (cl (ixP8 p)) := by
  unfold lkF ixP8
  rw [if_neg (by omega), if_neg (by omega), if_pos (by omega)]
  congr 2; omega

theorem lt_of_some {w : World} {k : Nat} {o : Obj} (h : w.heap[k]? = some o) : k < w.heap.size := by
  rcases Nat.lt_or_ge k w.heap.size with q | q
  · exact q
  · rw [Array.getElem?_eq_none q] at h; cases h

set_option maxHeartbeats 8000000 in
set_option maxRecDepth 100000 in
theorem enter_at {Φ : Type} {V : Env} (hV : V.ok) {R : World → (Nat → Prop) → Φ → Prop} (hR : StaR R) {lv : Φ → Prop} {fnd : Φ → List (List UInt8) → Bool × Φ} {f : Nat} (HL : Hid (LevC V R lv fnd f)) : EntC V R lv fnd (f + 1) := by
  intro i p w cl vs tx st φ hI hlv hi hp1 hp2 hst hfu htl
  have HTl : Hid (∀ j, (tx.getD j []).length + f + 1 ≤ 100) := fun j => by have := htl j; omega
  clear htl
  have HV : Hid V.ok := hV
  have HI : Hid (InV V R w cl vs tx st φ) := hI
  have HLv : Hid (lv φ) := hlv
  have HFu : Hid (i < V.S.length ∧ fuN V.S V.E i p ≤ f + 1) := ⟨hi, hfu⟩
  obtain ⟨G, HG⟩ : ∃ G, Hid (G = V.G) := ⟨_, rfl⟩
  obtain ⟨x, y⟩ := p
  have hx8 : x < 8 := hp1
  have hy8 : y < 8 := hp2
  obtain ⟨Q, HQ⟩ : ∃ Q, Hid (Q = w.heap.size) := ⟨_, rfl⟩
  obtain ⟨W0, HW0⟩ : ∃ W0, Hid (W0 = w.alloc (.cells #[.int .i64 (x : Int), .int .i64 (y : Int)] 29)) := ⟨_, rfl⟩
  have hB0 : Below w.heap.size w W0.drew := by rw [HW0.out]; exact below_drewN ((Below.refl _ _).alloc (Nat.le_refl _) _) 1
  obtain ⟨hI0, hF0⟩ := hI.below hV hR hB0
  have HI0 : Hid (InV V R W0.drew cl vs tx st φ) := hI0
  have HF0 : Hid (Frm V.XF V.G V.T w vs W0.drew vs) := hF0
  have HQb : Hid (W0.drew.heap[Q]? = some (.cells #[.int .i64 (x : Int), .int .i64 (y : Int)] 29 (0, 0))) := by
    rw [HW0.out, HQ.out]
    show (w.heap.push _)[w.heap.size]? = _
    rw [Array.getElem?_push_size]
  have hcQ : ∀ W : World, W.heap[Q]? = some (.cells #[.int .i64 (x : Int), .int .i64 (y : Int)] 29 (0, 0)) → W.cell? ⟨Q, 0, none⟩ = some (.int .i64 (x : Int)) ∧ W.cell? ⟨Q, 1, none⟩ = some (.int .i64 (y : Int)) := fun W h => ⟨by rw [cell_of_row W Q 0 _ _ _ h]; rfl, by rw [cell_of_row W Q 1 _ _ _ h]; rfl⟩
  have HcQ := hid_w hcQ
  obtain ⟨c0, c1⟩ := hcQ _ HQb.out
  have c2 : W0.drew.cell? ⟨G, 2 + x * 8 + y, none⟩ = some (.bool (cl (ixP8 (x, y)))) := by
    rw [HG.out, hI0.1.cell _ (by omega)]
    rw [show 2 + x * 8 + y = 2 + (x, y).1 * 8 + (x, y).2 from rfl, lkF_cl _ _ _ _ _ _ (x, y) hp1 hp2]
  have HQG : Hid (Q ≠ G) := by have := HI.out.1.los; have := HI.out.1.glo; show _ ≠ _; rw [HG.out, HQ.out]; omega
  rw [← HG.out]
  unfold ptV
  clear hI hI0 hF0 hB0 hlv hi hfu hcQ hV
  by_cases h1 : cl (ixP8 (x, y)) = true
  · have hE : goF V.S V.E fnd (f + 1) i (x, y) cl tx st φ = (true, st, φ) := by rw [goF_succ, if_pos h1]
    rw [hE]
    rw [h1] at c2
    go_enter Tryd.func29, Tryd.ntmps29
    go_upto_region 1 with fail
    rw [← HQ.out, ← HW0.out]
    go_region
    go_wp2
    go_ret
    exact ⟨rfl, vs, HI0, HF0, fun _ => HLv.out⟩
  · have h1f : cl (ixP8 (x, y)) = false := by simpa using h1
    rw [h1f] at c2
    have c3 : W0.drew.cell? ⟨G, 67, none⟩ = some (.int .i64 (st : Int)) := by rw [HG.out, HI0.out.1.cell 67 (by omega)]; rfl
    have f3 : W0.drew.frozen? ⟨G, 67, none⟩ = false := by rw [HG.out]; exact HI0.out.1.frozen 67
    obtain ⟨W1, HW1b⟩ : ∃ W1, Hid (W1 = (W0.setCell ⟨G, 67, none⟩ (.int .i64 ((st : Int) + 1))).drew) := ⟨_, rfl⟩
    have HW1 : Hid (W1 = W0.drew.setCell ⟨G, 67, none⟩ (.int .i64 ((st + 1 : Nat) : Int))) := HW1b.out
    obtain ⟨hL1, hF1⟩ := HI0.out.1.store hR 67 (.int .i64 ((st + 1 : Nat) : Int)) (lkC_steps _ _ _ _ _ _ (st + 1))
    rw [← HG.out, ← HW1.out] at hL1 hF1
    have hF1' := hF1 V.XF
    have HI1 : Hid (InV V R W1 cl vs tx (st + 1) φ) := by
      refine HI0.out.of HV.out ?_ ?_
      · rw [← HG.out]; exact hL1
      · rw [← HG.out]; exact hF1'
    have HF1 : Hid (Frm V.XF V.G V.T w vs W1 vs) := HF0.out.trans (by rw [← HG.out]; exact hF1')
    have c4 : W1.cell? ⟨G, 67, none⟩ = some (.int .i64 ((st : Int) + 1)) := by rw [HG.out, HI1.out.1.cell 67 (by omega)]; rfl
    clear hL1 hF1 hF1'
    by_cases h2 : 1000000 < st + 1
    · have hE : goF V.S V.E fnd (f + 1) i (x, y) cl tx st φ = (false, st + 1, φ) := by rw [goF_succ, if_neg h1, if_pos h2]
      rw [hE]
      have h2' : (st : Int) + 1 > 1000000 := by omega
      go_enter Tryd.func29, Tryd.ntmps29
      go_upto_region 1 with fail
      rw [← HQ.out, ← HW0.out]
      go_region
      go_upto_region 4 with fail
      rw [← HW1b.out]
      go_wp2
      go_ret
      exact ⟨rfl, vs, HI1, HF1, fun q => by cases q⟩
    · have hE : goF V.S V.E fnd (f + 1) i (x, y) cl tx st φ = lvF V.S V.E fnd f i (x, y) (mkP cl (x, y) true) tx (st + 1) φ := by rw [goF_succ, if_neg h1, if_neg h2]
      rw [hE]
      have h2' : ¬ (st : Int) + 1 > 1000000 := by omega
      obtain ⟨r, HR⟩ : ∃ r, Hid (r = lvF V.S V.E fnd f i (x, y) (mkP cl (x, y) true) tx (st + 1) φ) := ⟨_, rfl⟩
      rw [← HR.out]
      have hd1 : Below W1.heap.size W1 W1.drew := below_drewN (Below.refl _ _) 1
      obtain ⟨hI1d, hF1d⟩ := HI1.out.below HV.out hR hd1
      have hQ1 : W1.drew.heap[Q]? = some (.cells #[.int .i64 (x : Int), .int .i64 (y : Int)] 29 (0, 0)) := by
        show W1.heap[Q]? = _
        rw [HW1.out, heap_setCell_other _ _ _ _ HQG.out]
        exact HQb.out
      obtain ⟨d0, d1⟩ := HcQ.out _ hQ1
      obtain ⟨u, d2⟩ : ∃ u, W1.drew.cell? ⟨G, 2 + x * 8 + y, none⟩ = some u := ⟨_, by rw [HG.out]; exact hI1d.1.cell _ (by omega)⟩
      have d3 : W1.drew.frozen? ⟨G, 2 + x * 8 + y, none⟩ = false := by rw [HG.out]; exact hI1d.1.frozen _
      obtain ⟨W2, HW2b⟩ : ∃ W2, Hid (W2 = (W1.setCell ⟨G, 2 + x * 8 + y, none⟩ (.bool true)).drew) := ⟨_, rfl⟩
      have HW2 : Hid (W2 = W1.drew.setCell ⟨G, 2 + x * 8 + y, none⟩ (.bool true)) := HW2b.out
      obtain ⟨hL2, hF2⟩ := hI1d.1.store hR (2 + x * 8 + y) (.bool true) (lkC_mark _ _ _ _ _ _ (x, y) true hp1 hp2)
      rw [← HG.out, ← HW2.out] at hL2 hF2
      have HI2 : Hid (InV V R W2 (mkP cl (x, y) true) vs tx (st + 1) φ) := by
        refine hI1d.of HV.out ?_ ?_
        · rw [← HG.out]; exact hL2
        · rw [← HG.out]; exact hF2 V.XF
      have HF2 : Hid (Frm V.XF V.G V.T w vs W2 vs) := (HF1.out.trans hF1d).trans (by rw [← HG.out]; exact hF2 V.XF)
      have HQ2 : Hid (W2.heap[Q]? = some (.cells #[.int .i64 (x : Int), .int .i64 (y : Int)] 29 (0, 0))) := by
        show _ = _
        rw [HW2.out, heap_setCell_other _ _ _ _ HQG.out]
        exact hQ1
      obtain ⟨e0, e1⟩ := HcQ.out _ HQ2.out
      have HQs : Hid (w.heap.size ≤ Q ∧ Q < W2.heap.size) := ⟨by rw [HQ.out]; exact Nat.le_refl _, lt_of_some HQ2.out⟩
      have HC : Hid (Calls Tryd.prog 36 #[.pointer (some ⟨G, 0, none⟩), .int .i64 (i : Int), .agg #[.int .i64 (x : Int), .int .i64 (y : Int)]] W2 (AnsV V R lv r W2 vs (mkP cl (x, y) true) tx)) := by
        rw [HG.out, HR.out]
        exact HL.out i (x, y) W2 (mkP cl (x, y) true) vs tx (st + 1) φ HI2.out HLv.out HFu.out.1 hp1 hp2 (by omega) HFu.out.2 HTl.out
      clear hI1d hF1d hL2 hF2 hd1 hQ1 hE HL HI0 HF0 HI1 HF1
      go_enter Tryd.func29, Tryd.ntmps29
      go_upto_region 1 with fail
      rw [← HQ.out, ← HW0.out]
      go_region
      go_upto_region 4 with fail
      rw [← HW1b.out]
      go_upto_region 6 with fail
      clear c0 c1 c2 c3 f3 c4
      go_region
      rw [← HW2b.out]
      clear d0 d1 d2 d3
      go_wp2_with fail
      refine HC.out.mono ?_
      rintro e w3 ⟨rfl, vs3, HI3, HF3, HL3⟩
      obtain ⟨b, s3, φ3⟩ := r
      clear e0 e1 HC
      have hQ3 : w3.drew.heap[Q]? = some (.cells #[.int .i64 (x : Int), .int .i64 (y : Int)] 29 (0, 0)) := by
        show w3.heap[Q]? = _
        rw [HF3.out.block Q HQs.out.2 (fun q => ?_) (fun q => by have := (HV.out.2.1 Q q).1; have := HI.out.1.los; have := HQs.out.1; omega)]
        · exact HQ2.out
        · exact HI.out.1.notB (by have := HI.out.1.los; have := HI.out.1.glo; have := HQs.out.1; omega) (by have := HI.out.1.los; have := HI.out.1.tab.low; have := HQs.out.1; omega) (Or.inr HQs.out.1) q
      obtain ⟨g0, g1⟩ := HcQ.out _ hQ3
      have hd3 : Below w3.heap.size w3 w3.drew := below_drewN (Below.refl _ _) 1
      obtain ⟨hI3d, hF3d⟩ := HI3.out.below HV.out hR hd3
      obtain ⟨u3, g2⟩ : ∃ u3, w3.drew.cell? ⟨G, 2 + x * 8 + y, none⟩ = some u3 := ⟨_, by rw [HG.out]; exact hI3d.1.cell _ (by omega)⟩
      have g3 : w3.drew.frozen? ⟨G, 2 + x * 8 + y, none⟩ = false := by rw [HG.out]; exact hI3d.1.frozen _
      obtain ⟨W4, HW4b⟩ : ∃ W4, Hid (W4 = (w3.setCell ⟨G, 2 + x * 8 + y, none⟩ (.bool false)).drew) := ⟨_, rfl⟩
      have HW4 : Hid (W4 = w3.drew.setCell ⟨G, 2 + x * 8 + y, none⟩ (.bool false)) := HW4b.out
      obtain ⟨hL4, hF4⟩ := hI3d.1.store hR (2 + x * 8 + y) (.bool false) (lkC_mark _ _ _ _ _ _ (x, y) false hp1 hp2)
      have hL5 := hL4.congr (cl' := cl) (fun k _ => by
        unfold mkP
        by_cases q : k = ixP8 (x, y)
        · rw [if_pos q, q, h1f]
        · rw [if_neg q, if_neg q])
      rw [← HG.out, ← HW4.out] at hL5 hF4
      have HI4 : Hid (InV V R W4 cl vs3 tx s3 φ3) := by
        refine hI3d.of HV.out ?_ ?_
        · rw [← HG.out]; exact hL5
        · rw [← HG.out]; exact hF4 V.XF
      have HF4 : Hid (Frm V.XF V.G V.T w vs W4 vs3) := ((HF2.out.trans HF3.out).trans hF3d).trans (by rw [← HG.out]; exact hF4 V.XF)
      clear hL4 hL5 hF4 hI3d hF3d hd3 hQ3
      go_upto_region 8 with fail
      go_region
      rw [← HW4b.out]
      go_wp2
      go_ret
      exact ⟨rfl, vs3, HI4, HF4, HL3⟩

end Go.Proofs.YtapchcamjeafmaaDoor
