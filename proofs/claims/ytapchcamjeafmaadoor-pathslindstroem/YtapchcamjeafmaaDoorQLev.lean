/-
  paths.look.leave.
-/
import Derived.Test.YtapchcamjeafmaaDoorQStp
namespace Go.Proofs.YtapchcamjeafmaaDoor
open Go.RowKit

set_option maxHeartbeats 8000000 in
set_option maxRecDepth 100000 in
theorem leave_at {Φ : Type} {V : Env} (hV : V.ok) {R : World → (Nat → Prop) → Φ → Prop} (hR : StaR R) {lv : Φ → Prop} {fnd : Φ → List (List UInt8) → Bool × Φ} {f : Nat} (HSt : Hid (StpC V R lv fnd f)) (HBg : Hid (BegC V R lv fnd f)) (HEn : Hid (EndC V R lv fnd)) : LevC V R lv fnd f := by
  intro i p w cl vs tx st φ hI hlv hi hp1 hp2 hst hfu htl
  have HTl : Hid (∀ j, (tx.getD j []).length + f + 1 ≤ 100) := htl
  have HV : Hid V.ok := hV
  have HI : Hid (InV V R w cl vs tx st φ) := hI
  have HLv : Hid (lv φ) := hlv
  have HFu : Hid (i < V.S.length ∧ fuN V.S V.E i p ≤ f + 1) := ⟨hi, hfu⟩
  obtain ⟨n, HN⟩ : ∃ n, Hid (n = V.S.length) := ⟨_, rfl⟩
  have hin : i < n := by rw [HN.out]; exact hi
  have hn4 : n ≤ 4 := by rw [HN.out]; exact hV.2.2.2.1
  have hEl : V.E.length = n := by rw [HN.out]; exact hV.2.2.1.symm
  obtain ⟨G, HG⟩ : ∃ G, Hid (G = V.G) := ⟨_, rfl⟩
  obtain ⟨x, y⟩ := p
  have hx8 : x < 8 := hp1
  have hy8 : y < 8 := hp2
  obtain ⟨ex, ey, HEe⟩ : ∃ ex ey, Hid (ptD V.E i = (ex, ey)) := ⟨_, _, rfl⟩
  have hex : ex < 8 := by have := (hV.2.2.2.2 i hi).2.2.1; rw [HEe.out] at this; exact this
  have hey : ey < 8 := by have := (hV.2.2.2.2 i hi).2.2.2; rw [HEe.out] at this; exact this
  obtain ⟨Q, HQ⟩ : ∃ Q, Hid (Q = w.heap.size) := ⟨_, rfl⟩
  obtain ⟨W0, HW0⟩ : ∃ W0, Hid (W0 = w.alloc (.cells #[.int .i64 (x : Int), .int .i64 (y : Int)] 29)) := ⟨_, rfl⟩
  have hB0 : Below w.heap.size w W0 := by rw [HW0.out]; exact (Below.refl _ _).alloc (Nat.le_refl _) _
  obtain ⟨hI0, hF0⟩ := hI.below hV hR hB0
  obtain ⟨ea, ec, hev, hec, hej⟩ := hI0.2.2
  obtain ⟨eb, eo, hea, hefx, k0, k1⟩ := hej i (by rw [hEl]; exact hin)
  subst hea
  rw [hEl] at hev hec
  rw [HEe.out] at k0 k1
  have c0 : W0.cell? ⟨G, 1, none⟩ = some (.slice (some ⟨eb, eo, none⟩) n ec) := by rw [HG.out, hI0.1.cell 1 (by omega), ← hev]; rfl
  obtain ⟨P, HP⟩ : ∃ P, Hid (P = W0.heap.size) := ⟨_, rfl⟩
  obtain ⟨W1, HW1⟩ : ∃ W1, Hid (W1 = W0.alloc (.cells #[.int .i64 (ex : Int), .int .i64 (ey : Int)] 29)) := ⟨_, rfl⟩
  have hB1 : Below W0.heap.size W0 W1 := by rw [HW1.out]; exact (Below.refl _ _).alloc (Nat.le_refl _) _
  obtain ⟨hI1, hF1⟩ := hI0.below hV hR hB1
  have HI1 : Hid (InV V R W1 cl vs tx st φ) := hI1
  have HF1 : Hid (Frm V.XF V.G V.T w vs W1 vs) := hF0.trans hF1
  have hQ0 : W0.heap[Q]? = some (.cells #[.int .i64 (x : Int), .int .i64 (y : Int)] 29 (0, 0)) := by
    rw [HW0.out, HQ.out]
    show (w.heap.push _)[w.heap.size]? = _
    rw [Array.getElem?_push_size]
  have HQ1 : Hid (W1.heap[Q]? = some (.cells #[.int .i64 (x : Int), .int .i64 (y : Int)] 29 (0, 0))) := by
    show _ = _
    rw [hB1.block Q (lt_of_some hQ0)]; exact hQ0
  have HP1 : Hid (W1.heap[P]? = some (.cells #[.int .i64 (ex : Int), .int .i64 (ey : Int)] 29 (0, 0))) := by
    rw [HW1.out, HP.out]
    show (W0.heap.push _)[W0.heap.size]? = _
    rw [Array.getElem?_push_size]
  have HSz : Hid (w.heap.size ≤ Q ∧ w.heap.size ≤ P) := ⟨by rw [HQ.out]; exact Nat.le_refl _, by rw [HP.out]; exact hB0.size⟩
  have HcB : Hid (∀ (W : World) (B a b : Nat), W.heap[B]? = some (.cells #[.int .i64 (a : Int), .int .i64 (b : Int)] 29 (0, 0)) → W.cell? ⟨B, 0, none⟩ = some (.int .i64 (a : Int)) ∧ W.cell? ⟨B, 1, none⟩ = some (.int .i64 (b : Int))) := fun W B a b h => ⟨by rw [cell_of_row W B 0 _ _ _ h]; rfl, by rw [cell_of_row W B 1 _ _ _ h]; rfl⟩
  obtain ⟨q0, q1⟩ := HcB.out _ _ _ _ HQ1.out
  obtain ⟨p0, p1⟩ := HcB.out _ _ _ _ HP1.out
  rw [← HG.out]
  unfold ptV
  clear hI hI0 hF0 hB0 hI1 hF1 hB1 hlv hi hfu hV htl hQ0 hej
  by_cases hpe : (x, y) = (ex, ey)
  · simp only [Prod.mk.injEq] at hpe
    obtain ⟨rfl, rfl⟩ := hpe
    obtain ⟨r, HRr⟩ : ∃ r, Hid (r = lvF V.S V.E fnd f i (x, y) cl tx st φ) := ⟨_, rfl⟩
    rw [← HRr.out]
    have HC : Hid (Calls Tryd.prog 23 #[.pointer (some ⟨G, 0, none⟩), .int .i64 ((i : Int) + 1)] W1 (AnsV V R lv r W1 vs cl tx)) := by
      rw [HG.out, HRr.out]
      unfold lvF
      rw [if_pos HEe.out.symm]
      have e : ((i : Int) + 1) = ((i + 1 : Nat) : Int) := by omega
      rw [e]
      by_cases h4 : i + 1 = V.S.length
      · rw [if_pos h4, h4]
        exact HEn.out W1 cl vs tx st φ HI1.out HLv.out
      · rw [if_neg h4]
        exact HBg.out (i + 1) W1 cl vs tx st φ HI1.out HLv.out (by have := HFu.out.1; omega) hst (by have := HFu.out.2; unfold fuN at this; omega) (fun j => by have := HTl.out j; omega)
    go_enter Tryd.func36, Tryd.ntmps36
    go_upto_region 1 with fail
    rw [← HQ.out, ← HW0.out]
    go_upto_region 2 with fail
    rw [← HP.out, ← HW1.out]
    clear c0 k0 k1
    go_wp2_with fail
    refine HC.out.mono ?_
    rintro e w3 ⟨rfl, vs3, HI3, HF3, HL3⟩
    obtain ⟨rb, s3, φ3⟩ := r
    have HF4 : Hid (Frm V.XF V.G V.T w vs w3 vs3) := HF1.out.trans HF3.out
    go_wp2
    go_ret
    exact ⟨rfl, vs3, HI3, HF4, HL3⟩
  · have hpe2 : ¬ (x = ex ∧ y = ey) := fun q => hpe (by rw [q.1, q.2])
    obtain ⟨r1, HR1⟩ : ∃ r1, Hid (r1 = if x < ex then goF V.S V.E fnd f i (x + 1, y) cl (txA tx i 82) st φ else (true, st, φ)) := ⟨_, rfl⟩
    obtain ⟨r, HRr⟩ : ∃ r, Hid (r = lvF V.S V.E fnd f i (x, y) cl tx st φ) := ⟨_, rfl⟩
    have HRe : Hid (r = if r1.1 = false then r1 else if ey ≤ y then r1 else goF V.S V.E fnd f i (x, y + 1) cl (txA tx i 85) r1.2.1 r1.2.2) := by
      show _ = _
      rw [HRr.out]
      unfold lvF
      rw [if_neg (by rw [HEe.out]; exact hpe), HEe.out, HR1.out]
    have HSt1 : Hid (r1.2.1 ≤ 1000001 ∧ (r1.1 = true → r1.2.1 ≤ 1000000)) := by
      show _ ∧ _
      rw [HR1.out]
      by_cases h5 : x < ex
      · rw [if_pos h5]; exact goF_st _ _ _ _ _ _ _ _ _ _ hst
      · rw [if_neg h5]; exact ⟨by show st ≤ 1000001; omega, fun _ => hst⟩
    rw [← HRr.out]
    go_enter Tryd.func36, Tryd.ntmps36
    go_upto_region 1 with fail
    rw [← HQ.out, ← HW0.out]
    go_upto_region 2 with fail
    rw [← HP.out, ← HW1.out]
    clear c0 k0 k1
    go_cut [17] (fun s17 wx => s17 = .bool false ∧ Hid (wx = W1))
    case first =>
      by_cases hxe : x = ex
      · subst hxe
        have hye : ¬ ((y : Int) = (ey : Int)) := fun q => hpe2 ⟨rfl, by omega⟩
        have hyb : ((y : Int) == (ey : Int)) = false := by rw [beq_eq_false_iff_ne]; exact hye
        have hyn : ¬ y = ey := fun q => hpe2 ⟨rfl, q⟩
        clear hpe hpe2
        go_wp2_with fail
        all_goals (
          go_meet
          exact ⟨rfl, rfl⟩)
      · have hxi : ¬ ((x : Int) = (ex : Int)) := fun q => hxe (by omega)
        have hxb : ((x : Int) == (ex : Int)) = false := by rw [beq_eq_false_iff_ne]; exact hxi
        clear hpe hpe2
        go_wp2_with fail
        all_goals (
          go_meet
          exact ⟨rfl, rfl⟩)
    obtain ⟨rfl, HW⟩ := hcut
    obtain rfl : W1 = wc := HW.out.symm
    clear HW
    go_upto_region 4 with fail
    go_cut [38] (fun s38 wx => s38 = .bool (!r1.1) ∧ Hid (wx.heap[Q]? = some (.cells #[.int .i64 (x : Int), .int .i64 (y : Int)] 29 (0, 0))) ∧ Hid (wx.heap[P]? = some (.cells #[.int .i64 (ex : Int), .int .i64 (ey : Int)] 29 (0, 0))) ∧ ∃ vs2, Hid (InV V R wx cl vs2 tx r1.2.1 r1.2.2) ∧ Hid (Frm V.XF V.G V.T w vs wx vs2) ∧ Hid (r1.1 = true → lv r1.2.2))
    case first =>
      by_cases h5 : x < ex
      · have h5' : (ex : Int) > (x : Int) := by omega
        have HC : Hid (Calls Tryd.prog 39 #[.pointer (some ⟨G, 0, none⟩), .int .i64 (i : Int), .int .u8 82, .agg #[.int .i64 ((x : Int) + 1), .int .i64 (y : Int)]] W1 (AnsV V R lv r1 W1 vs cl tx)) := by
          rw [HG.out, HR1.out, if_pos h5]
          have e : ((x : Int) + 1) = ((x + 1 : Nat) : Int) := by omega
          rw [e]
          exact HSt.out i 82 (x + 1, y) W1 cl vs tx st φ HI1.out HLv.out HFu.out.1 (by show x + 1 < 8; omega) hp2 hst (by have := HFu.out.2; unfold fuN dsP at this ⊢; rw [HEe.out] at this ⊢; dsimp only at this ⊢; omega) HTl.out
        go_wp2_with fail
        refine HC.out.mono ?_
        rintro e w2 ⟨rfl, vs2, HI2, HF2, HL2⟩
        have HF3 : Hid (Frm V.XF V.G V.T w vs w2 vs2) := HF1.out.trans HF2.out
        have HQ2 : Hid (w2.heap[Q]? = some (.cells #[.int .i64 (x : Int), .int .i64 (y : Int)] 29 (0, 0))) := by
          show _ = _
          rw [HF2.out.keep HV.out HI.out HSz.out.1 (lt_of_some HQ1.out)]; exact HQ1.out
        have HP2 : Hid (w2.heap[P]? = some (.cells #[.int .i64 (ex : Int), .int .i64 (ey : Int)] 29 (0, 0))) := by
          show _ = _
          rw [HF2.out.keep HV.out HI.out HSz.out.2 (lt_of_some HP1.out)]; exact HP1.out
        go_wp2_with fail
        go_meet
        exact ⟨rfl, HQ2, HP2, vs2, HI2, HF3, HL2⟩
      · have h5' : ¬ (ex : Int) > (x : Int) := by omega
        have hr1 : r1 = (true, st, φ) := by rw [HR1.out, if_neg h5]
        go_wp2_with fail
        go_meet
        exact ⟨by rw [hr1]; first | rfl | (rw [decide_eq_false (by omega)]; rfl), HQ1, HP1, vs, by rw [hr1]; exact HI1, HF1, by rw [hr1]; exact fun _ => HLv.out⟩
    obtain ⟨rfl, HQ2, HP2, vs2, HI2, HF2, HL2⟩ := hcut
    obtain ⟨rb1, s1, φ1⟩ := r1
    clear q0 q1 p0 p1
    obtain ⟨q0, q1⟩ := HcB.out _ _ _ _ HQ2.out
    obtain ⟨p0, p1⟩ := HcB.out _ _ _ _ HP2.out
    cases rb1 with
    | false =>
      have hr : r = (false, s1, φ1) := by rw [HRe.out]; rfl
      subst hr
      go_wp2
      go_ret
      exact ⟨rfl, vs2, HI2, HF2, HL2⟩
    | true =>
      by_cases h7 : ey ≤ y
      · have h7' : (ey : Int) ≤ (y : Int) := by omega
        have hr : r = (true, s1, φ1) := by rw [HRe.out, if_neg (by simp), if_pos h7]
        subst hr
        go_wp2
        go_ret
        exact ⟨rfl, vs2, HI2, HF2, fun _ => HL2.out (by first | rfl | trivial)⟩
      · have h7' : ¬ (ey : Int) ≤ (y : Int) := by omega
        have HC : Hid (Calls Tryd.prog 39 #[.pointer (some ⟨G, 0, none⟩), .int .i64 (i : Int), .int .u8 85, .agg #[.int .i64 (x : Int), .int .i64 ((y : Int) + 1)]] wc (AnsV V R lv r wc vs2 cl tx)) := by
          rw [HG.out, HRe.out, if_neg (by simp), if_neg h7]
          have e : ((y : Int) + 1) = ((y + 1 : Nat) : Int) := by omega
          rw [e]
          exact HSt.out i 85 (x, y + 1) wc cl vs2 tx s1 φ1 HI2.out (HL2.out (by first | rfl | trivial)) HFu.out.1 hp1 (by show y + 1 < 8; omega) (HSt1.out.2 (by first | rfl | trivial)) (by have := HFu.out.2; unfold fuN dsP at this ⊢; rw [HEe.out] at this ⊢; dsimp only at this ⊢; omega) HTl.out
        go_wp2_with fail
        refine HC.out.mono ?_
        rintro e w4 ⟨rfl, vs4, HI4, HF4, HL4⟩
        obtain ⟨rb, s4, φ4⟩ := r
        have HF5 : Hid (Frm V.XF V.G V.T w vs w4 vs4) := HF2.out.trans HF4.out
        go_wp2
        go_ret
        exact ⟨rfl, vs4, HI4, HF5, HL4⟩

end Go.Proofs.YtapchcamjeafmaaDoor
