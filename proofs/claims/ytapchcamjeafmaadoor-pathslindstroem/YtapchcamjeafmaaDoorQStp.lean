/-
  paths.look.step.
-/
import Derived.Test.YtapchcamjeafmaaDoorQEnt
import Derived.Deep.RegionLaw
namespace Go.Proofs.YtapchcamjeafmaaDoor
open Go.RowKit

theorem TxV.cell {w : World} {lo T : Nat} {vs : List Value} {tx : List (List UInt8)} (h : TxV w lo T vs tx) {i : Nat} (hi : i < tx.length) : w.cell? ⟨T, i, none⟩ = some (rwU vs i) := by
  rw [cell_of_row w T i _ _ _ h.blk]
  have : i < vs.length := by rw [h.len]; exact hi
  simp [rwU, List.getD, this]
theorem TxV.frozen {w : World} {lo T : Nat} {vs : List Value} {tx : List (List UInt8)} (h : TxV w lo T vs tx) (i : Nat) : w.frozen? ⟨T, i, none⟩ = false := frozen_of_row w T i _ _ h.blk
/-- Shortened. -/
theorem OwU.take {w : World} {lo : Nat} {a : Option Addr} {m c : Nat} {us : List UInt8} (h : OwU w lo (.slice a m c) us) (hp : 0 < us.length) (k : Nat) (hk : k ≤ us.length) : OwU w lo (.slice a k c) (us.take k) := by
  have hl : ((us.take k).map uv).length = k := by rw [List.length_map, List.length_take]; omega
  rcases h.2 with ⟨hv, hn⟩ | ⟨g, cap, cur, hv, hg, hh, hn, hm, hcs, htk⟩
  · rw [List.length_map] at hn; omega
  · simp only [Value.slice.injEq] at hv
    obtain ⟨rfl, -, rfl⟩ := hv
    unfold OwU
    rw [hl]
    refine ⟨by rw [hl, Nat.mul_one], Or.inr ⟨g, c, cur, rfl, hg, hh, by rw [List.length_map] at hn; omega, hm, hcs, ?_⟩⟩
    rw [Nat.mul_one, List.length_map] at htk
    rw [Nat.mul_one, List.map_take, ← htk, List.take_take, Nat.min_eq_left hk]

set_option maxHeartbeats 8000000 in
set_option maxRecDepth 100000 in
theorem step_at {Φ : Type} {V : Env} (hV : V.ok) {R : World → (Nat → Prop) → Φ → Prop} (hR : StaR R) {lv : Φ → Prop} {fnd : Φ → List (List UInt8) → Bool × Φ} {f : Nat} (HE : Hid (EntC V R lv fnd f)) : StpC V R lv fnd f := by
  intro i b p w cl vs tx st φ hI hlv hi hp1 hp2 hst hfu htl
  have HTl : Hid (∀ j, (tx.getD j []).length + f + 1 ≤ 100) := htl
  clear htl
  have HV : Hid V.ok := hV
  have HI : Hid (InV V R w cl vs tx st φ) := hI
  have HLv : Hid (lv φ) := hlv
  have HFu : Hid (i < V.S.length ∧ fuN V.S V.E i p ≤ f) := ⟨hi, hfu⟩
  obtain ⟨n, HN⟩ : ∃ n, Hid (n = V.S.length) := ⟨_, rfl⟩
  have hin : i < n := by rw [HN.out]; exact hi
  have hn4 : n ≤ 4 := by rw [HN.out]; exact hV.2.2.2.1
  obtain ⟨G, HG⟩ : ∃ G, Hid (G = V.G) := ⟨_, rfl⟩
  obtain ⟨T, HT⟩ : ∃ T, Hid (T = V.T) := ⟨_, rfl⟩
  obtain ⟨bn, HBn⟩ : ∃ bn, Hid (bn = b.toNat) := ⟨_, rfl⟩
  have hbn : bn < 256 := by rw [HBn.out]; exact b.toNat_lt
  obtain ⟨x, y⟩ := p
  have hx8 : x < 8 := hp1
  have hy8 : y < 8 := hp2
  obtain ⟨Q, HQ⟩ : ∃ Q, Hid (Q = w.heap.size) := ⟨_, rfl⟩
  obtain ⟨W0, HW0⟩ : ∃ W0, Hid (W0 = w.alloc (.cells #[.int .i64 (x : Int), .int .i64 (y : Int)] 29)) := ⟨_, rfl⟩
  have hB0 : Below w.heap.size w W0 := by rw [HW0.out]; exact (Below.refl _ _).alloc (Nat.le_refl _) _
  obtain ⟨hI0, hF0⟩ := hI.below hV hR hB0
  have HI0 : Hid (InV V R W0 cl vs tx st φ) := hI0
  have HF0 : Hid (Frm V.XF V.G V.T w vs W0 vs) := hF0
  have HQb : Hid (W0.heap[Q]? = some (.cells #[.int .i64 (x : Int), .int .i64 (y : Int)] 29 (0, 0))) := by
    rw [HW0.out, HQ.out]
    show (w.heap.push _)[w.heap.size]? = _
    rw [Array.getElem?_push_size]
  have HcQ : Hid (∀ W : World, W.heap[Q]? = some (.cells #[.int .i64 (x : Int), .int .i64 (y : Int)] 29 (0, 0)) → W.cell? ⟨Q, 0, none⟩ = some (.int .i64 (x : Int)) ∧ W.cell? ⟨Q, 1, none⟩ = some (.int .i64 (y : Int))) := fun W h => ⟨by rw [cell_of_row W Q 0 _ _ _ h]; rfl, by rw [cell_of_row W Q 1 _ _ _ h]; rfl⟩
  have hit : i < tx.length := by rw [hI.1.num]; exact hi
  obtain ⟨a1, k1, hsh⟩ := (hI0.1.tab.rows i hit).shape
  obtain ⟨m1, HM1⟩ : ∃ m1, Hid (m1 = (tx.getD i []).length) := ⟨_, rfl⟩
  rw [← HM1.out] at hsh
  have hm1 : m1 ≤ 100 := by rw [HM1.out]; have := HTl.out i; omega
  have c0 : W0.cell? ⟨G, 66, none⟩ = some (.slice (some ⟨T, 0, none⟩) n n) := by rw [HG.out, hI0.1.cell 66 (by omega), HT.out, HN.out]; rfl
  have c1 : W0.cell? ⟨T, i, none⟩ = some (.slice a1 m1 k1) := by rw [HT.out, hI0.1.tab.cell hit, hsh]
  have d0 : W0.drew.cell? ⟨G, 66, none⟩ = some (.slice (some ⟨T, 0, none⟩) n n) := c0
  have d1 : W0.drew.cell? ⟨T, i, none⟩ = some (.slice a1 m1 k1) := c1
  have hA9 : Below W0.heap.size W0 (W0.alloc (.cells #[.int .u8 (bn : Int)] 5)).drew := below_drewN ((Below.refl _ _).alloc (Nat.le_refl _) _) 1
  have hGl : G < W0.heap.size := by rw [HG.out]; exact Nat.lt_of_lt_of_le hI0.1.glo hI0.1.los
  have hTl : T < W0.heap.size := by rw [HT.out]; exact Nat.lt_of_lt_of_le hI0.1.tab.low hI0.1.los
  have x0 : (W0.alloc (.cells #[.int .u8 (bn : Int)] 5)).drew.cell? ⟨G, 66, none⟩ = some (.slice (some ⟨T, 0, none⟩) n n) := (hA9.cell (p := ⟨G, 66, none⟩) hGl).trans c0
  have x1 : (W0.alloc (.cells #[.int .u8 (bn : Int)] 5)).drew.cell? ⟨T, i, none⟩ = some (.slice a1 m1 k1) := (hA9.cell (p := ⟨T, i, none⟩) hTl).trans c1
  have HRow : Hid (W0.drew.ownsRow V.lo 5 1 (.slice a1 m1 k1) ((tx.getD i []).map uv).length ((tx.getD i []).map uv)) := by
    have h := hI0.1.tab.rows i hit
    rw [hsh] at h
    exact ownsRow_blocks h (fun _ _ => rfl)
  have HLs : Hid (V.lo ≤ W0.drew.heap.size) := hI0.1.los
  obtain ⟨r, HRr⟩ : ∃ r, Hid (r = goF V.S V.E fnd f i (x, y) cl (txA tx i b) st φ) := ⟨_, rfl⟩
  rw [← HRr.out, ← HG.out, ← HBn.out]
  have HEnd : Hid (∀ (v4 : Value) (w4 : World), w4.ownsRow V.lo 5 1 v4 ((tx.getD i []).map uv ++ [Value.int .u8 (bn : Int)]).length ((tx.getD i []).map uv ++ [Value.int .u8 (bn : Int)]) → KeepB (.slice a1 m1 k1) v4 W0.drew w4 → SmO W0.drew w4 →
      w4.frozen? ⟨T, i, none⟩ = false ∧ w4.cell? ⟨T, i, none⟩ = some (.slice a1 m1 k1) ∧ w4.cell? ⟨G, 66, none⟩ = some (.slice (some ⟨T, 0, none⟩) n n) ∧ (w4.setCell ⟨T, i, none⟩ v4).cell? ⟨Q, 0, none⟩ = some (.int .i64 (x : Int)) ∧ (w4.setCell ⟨T, i, none⟩ v4).cell? ⟨Q, 1, none⟩ = some (.int .i64 (y : Int)) ∧ Hid (InV V R (w4.setCell ⟨T, i, none⟩ v4) cl (vs.set i v4) (txA tx i b) st φ) ∧ Hid (Frm V.XF V.G V.T w vs (w4.setCell ⟨T, i, none⟩ v4) (vs.set i v4)) ∧ ∃ a4 m4 c4, v4 = .slice a4 m4 c4) := by
    intro v4 w4 hO hk hso
    have hd0 : Below W0.heap.size W0 W0.drew := below_drewN (Below.refl _ _) 1
    obtain ⟨hI0d, hF0d⟩ := hI0.below hV hR hd0
    have hnT : (Value.slice a1 m1 k1).ownBlock ≠ some T := fun e => by
      have h := hI0.1.tab.rows i hit
      rw [hsh] at h
      have := (h.lt e).1
      have := hI0.1.tab.low
      have := HT.out; omega
    have hnG : (Value.slice a1 m1 k1).ownBlock ≠ some G := fun e => by
      have h := hI0.1.tab.rows i hit
      rw [hsh] at h
      have := (h.lt e).1
      have := hI0.1.glo
      have := HG.out; omega
    have hnQ : (Value.slice a1 m1 k1).ownBlock ≠ some Q := fun e => by
      have h := hI.1.tab.rows i hit
      rw [hsh] at h
      have := (h.lt e).2
      rw [HQ.out] at this; omega
    have hbT : w4.heap[T]? = W0.heap[T]? := hk.block T hTl hnT
    have hbG : w4.heap[G]? = W0.heap[G]? := hk.block G hGl hnG
    have hbQ : w4.heap[Q]? = W0.heap[Q]? := hk.block Q (lt_of_some HQb.out) hnQ
    have hQT : Q ≠ T := by
      have := hI.1.tab.low; have := hI.1.los
      rw [HQ.out, HT.out]; omega
    have hu : OwU w4 V.lo v4 (tx.getD i [] ++ [b]) := by
      unfold OwU
      have e : (tx.getD i [] ++ [b]).map uv = (tx.getD i []).map uv ++ [Value.int .u8 (bn : Int)] := by rw [List.map_append, HBn.out]; rfl
      rw [e]; exact hO
    have hk2 : KeepB (rwU vs i) v4 W0.drew w4 := by rw [hsh]; exact hk
    obtain ⟨hL4, hF4⟩ := hI0d.1.setRow hR hi hu hk2 hso
    rw [← HT.out] at hL4 hF4
    have hQ4 : (w4.setCell ⟨T, i, none⟩ v4).heap[Q]? = some (.cells #[.int .i64 (x : Int), .int .i64 (y : Int)] 29 (0, 0)) := by
      rw [heap_setCell_other _ _ _ _ hQT, hbQ]; exact HQb.out
    refine ⟨?_, ?_, ?_, (HcQ.out _ hQ4).1, (HcQ.out _ hQ4).2, ?_, ?_, ?_⟩
    · have hb := hI0.1.tab.blk
      rw [← HT.out, ← hbT] at hb
      exact frozen_of_row w4 T i _ _ hb
    · rw [cell_same hbT]; exact c1
    · rw [cell_same hbG]; exact c0
    · exact hI0d.of hV (by rw [← HT.out]; exact hL4) (by rw [← HT.out]; exact hF4 V.XF)
    · exact (hF0.trans hF0d).trans (by rw [← HT.out]; exact hF4 V.XF)
    · obtain ⟨a4, c4, e4⟩ := hu.shape
      exact ⟨a4, _, c4, e4⟩
  unfold ptV
  clear hI hI0 hF0 hB0 hlv hi hfu hV hA9 hsh
  go_enter Tryd.func39, Tryd.ntmps39
  go_upto_region 1 with fail
  rw [← HQ.out, ← HW0.out]
  go_upto_region 2 with fail
  go_cut [33] (fun _ wx => wx.cell? ⟨Q, 0, none⟩ = some (.int .i64 (x : Int)) ∧ wx.cell? ⟨Q, 1, none⟩ = some (.int .i64 (y : Int)) ∧ ∃ v4, Hid (InV V R wx cl (vs.set i v4) (txA tx i b) st φ) ∧ Hid (Frm V.XF V.G V.T w vs wx (vs.set i v4)))
  case first =>
    go_region_law (refine step_one elem_byte (w := W0.drew) (N := W0.heap.size) (x := .int .u8 (bn : Int)) rfl (.tmp 30) (.tmp 32) rfl (by first | (simp [Act.eval]; done) | (simp [Act.eval, Act.put]; done)) (by first | (simp [Act.eval]; done) | (simp [Act.eval, Act.put]; done)) rfl HRow.out rfl (by rw [List.length_map, ← HM1.out]; unfold maxLen; omega) (by rw [List.length_map, ← HM1.out]; omega) HLs.out ?_; intro v4 w4 hO4 hb4 hk4; obtain ⟨e1, e2, e3, e4, e5, E6, E7, a4, m4, c4, rfl⟩ := HEnd.out v4 w4 hO4 hk4 (SmO.of hb4); clear hO4 hb4 hk4)
    all_goals (
      go_wp2_with fail
      go_meet
      exact ⟨e4, e5, _, E6, E7⟩)
  obtain ⟨e4, e5, v4, HI4, HF4⟩ := hcut
  clear c0 c1 d0 d1 x0 x1 HRow HEnd HI0 HF0
  have HC : Hid (Calls Tryd.prog 29 #[.pointer (some ⟨G, 0, none⟩), .int .i64 (i : Int), .agg #[.int .i64 (x : Int), .int .i64 (y : Int)]] wc (AnsV V R lv r wc (vs.set i v4) cl (txA tx i b))) := by
    rw [HG.out, HRr.out]
    exact HE.out i (x, y) wc cl (vs.set i v4) (txA tx i b) st φ HI4.out HLv.out HFu.out.1 hp1 hp2 hst HFu.out.2 (fun j => by
      have h := HTl.out j
      by_cases q : j = i
      · subst q
        unfold txA
        rw [getD_setU _ _ _ _ hit, if_pos rfl, List.length_append, List.length_singleton]; omega
      · have e : (txA tx i b).getD j [] = tx.getD j [] := by unfold txA; simp [List.getD, Ne.symm q]
        rw [e]; omega)
  clear HE
  go_wp2_with fail
  refine HC.out.mono ?_
  rintro e w5 ⟨rfl, vs5, HI5, HF5, HL5⟩
  obtain ⟨rb, s5, φ5⟩ := r
  clear HC e4 e5
  have hit5 : i < (txA tx i b).length := by unfold txA; rw [List.length_set]; exact hit
  have hg5 : (txA tx i b).getD i [] = tx.getD i [] ++ [b] := by unfold txA; rw [getD_setU _ _ _ _ hit, if_pos rfl]
  obtain ⟨a5, k5, hsh5⟩ := (HI5.out.1.tab.rows i hit5).shape
  rw [hg5, List.length_append, ← HM1.out] at hsh5
  have hO5 := HI5.out.1.tab.rows i hit5
  rw [hsh5, hg5] at hO5
  have HO5 : Hid (OwU w5 V.lo (.slice a5 m1 k5) (tx.getD i [])) := by
    have h := hO5.take (by rw [List.length_append]; simp) m1 (by rw [List.length_append, ← HM1.out]; omega)
    rw [List.take_append_of_le_length (by rw [HM1.out]; exact Nat.le_refl _), List.take_of_length_le (by rw [HM1.out]; exact Nat.le_refl _)] at h
    exact h
  have hd5 : Below w5.heap.size w5 w5.drew := below_drewN (Below.refl _ _) 1
  obtain ⟨hI5d, hF5d⟩ := HI5.out.below HV.out hR hd5
  have y0 : w5.drew.cell? ⟨G, 66, none⟩ = some (.slice (some ⟨T, 0, none⟩) n n) := by rw [HG.out, hI5d.1.cell 66 (by omega), HT.out, HN.out]; rfl
  have y1 : w5.drew.cell? ⟨T, i, none⟩ = some (.slice a5 (m1 + 1) k5) := by rw [HT.out, hI5d.1.tab.cell hit5, hsh5]; rfl
  have y2 : w5.drew.frozen? ⟨T, i, none⟩ = false := by rw [HT.out]; exact hI5d.1.tab.frozen i
  have hk5 : m1 + 1 ≤ k5 := by
    rcases hO5.2 with ⟨hv, hn⟩ | ⟨g, cap, cur, hv, hg, hh, hn, _⟩
    · simp at hn
    · simp only [Value.slice.injEq] at hv
      obtain ⟨-, -, rfl⟩ := hv
      rw [List.length_map, List.length_append, ← HM1.out] at hn
      exact hn
  obtain ⟨ad5, hsa⟩ : ∃ ad5, a5 = some ad5 := by
    rcases hO5.2 with ⟨hv, hn⟩ | ⟨g, cap, cur, hv, hg, hh, hn, _⟩
    · simp at hn
    · simp only [Value.slice.injEq] at hv
      exact ⟨_, hv.1⟩
  subst hsa
  have hkb : KeepB (rwU vs5 i) (.slice (some ad5) m1 k5) w5.drew w5.drew := ⟨Nat.le_refl _, fun _ _ _ => rfl, fun g e => Or.inl (by rw [hsh5]; exact e)⟩
  have hO6 : OwU w5.drew V.lo (.slice (some ad5) m1 k5) (tx.getD i []) := ownsRow_blocks HO5.out (fun _ _ => rfl)
  obtain ⟨hL6, hF6⟩ := hI5d.1.setRow hR HFu.out.1 hO6 hkb (SmO.refl _)
  obtain ⟨W6, HW6b⟩ : ∃ W6, Hid (W6 = (w5.setCell ⟨T, i, none⟩ (.slice (some ad5) m1 k5)).drew) := ⟨_, rfl⟩
  have HW6 : Hid (W6 = w5.drew.setCell ⟨T, i, none⟩ (.slice (some ad5) m1 k5)) := HW6b.out
  rw [← HT.out, ← HW6.out] at hL6 hF6
  have htx : (txA tx i b).set i (tx.getD i []) = tx := by
    unfold txA
    rw [List.set_set]
    apply List.ext_getElem?
    intro j
    rw [List.getElem?_set]
    by_cases q : i = j
    · subst q; simp [hit, List.getD]
    · rw [if_neg q]
  rw [htx] at hL6
  have HI6 : Hid (InV V R W6 cl (vs5.set i (.slice (some ad5) m1 k5)) tx s5 φ5) := hI5d.of HV.out (by rw [← HT.out]; exact hL6) (by rw [← HT.out]; exact hF6 V.XF)
  have HF6 : Hid (Frm V.XF V.G V.T w vs W6 (vs5.set i (.slice (some ad5) m1 k5))) := ((HF4.out.trans HF5.out).trans hF5d).trans (by rw [← HT.out]; exact hF6 V.XF)
  clear hO6 hd5 hL6 hF6 hI5d hF5d hkb hO5 hsh5 hg5 htx HI5 HF5 HI4 HF4
  go_upto_region 4 with fail
  go_region
  rw [← HW6b.out]
  go_wp2
  go_ret
  exact ⟨rfl, _, HI6, HF6, HL5⟩

end Go.Proofs.YtapchcamjeafmaaDoor
