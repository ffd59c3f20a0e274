/-
  ferlaw.DominoTurns returns true.
-/
import Derived.Test.YtcnmndbckjmliaaDoorNLwa
import Derived.Deep.DeepCutAuto
namespace Go.Proofs.YtcnmndbckjmliaaDoor
open Go.RowKit

set_option maxHeartbeats 8000000 in
set_option maxRecDepth 100000 in
theorem dturns_NN (t : ByteArray) (m : Int) (w : World) (hs : t.size ≤ 4000000000) (hm : w.cell? ⟨0, 0, none⟩ = some (.int .i64 m)) (n : Int) (hn : n < 1 ∨ 4 < n) (x y : Int) (hT : ∀ r c, ¬ Til t.data.toList r c) :
    Calls Tryd.prog 4 #[.string t, .agg #[.int .i64 x, .int .i64 y], .int .i64 n] w fun e w' => e = .returned (.bool true) ∧ Below w.heap.size w w' := by
  obtain ⟨Q, HQ⟩ : ∃ Q, Hid (Q = w.heap.size) := ⟨_, rfl⟩
  obtain ⟨W0, HW0⟩ : ∃ W0, Hid (W0 = w.alloc (.cells #[.int .i64 x, .int .i64 y] 36)) := ⟨_, rfl⟩
  have HB0 : Hid (Below w.heap.size w W0) := by rw [HW0.out]; exact (Below.refl _ _).alloc (Nat.le_refl _) _
  have HQ0 : Hid (W0.heap[Q]? = some (.cells #[.int .i64 x, .int .i64 y] 36 (0, 0))) := by
    show _ = _
    rw [HW0.out, HQ.out]; exact heap_alloc_last _ _
  have HQc : Hid (∀ W, Below W0.heap.size W0 W → W.cell? ⟨Q, 0, none⟩ = some (.int .i64 x) ∧ W.cell? ⟨Q, 1, none⟩ = some (.int .i64 y)) := fun W hW => by
    have h : W.heap[Q]? = some (.cells #[.int .i64 x, .int .i64 y] 36 (0, 0)) := by rw [hW.block Q (lt_someN HQ0.out)]; exact HQ0.out
    exact ⟨by rw [cell_of_row W Q _ _ _ _ h]; rfl, by rw [cell_of_row W Q _ _ _ _ h]; rfl⟩
  have HM : Hid (∀ W, Below W0.heap.size W0 W → W.cell? ⟨0, 0, none⟩ = some (.int .i64 m)) := fun W hW => by
    have h0 : W0.cell? ⟨0, 0, none⟩ = some (.int .i64 m) := by rw [HW0.out, World.cell?_alloc_past _ _ _ (World.block_lt_of_cell? w ⟨0, 0, none⟩ hm)]; exact hm
    exact (hW.cell (p := ⟨0, 0, none⟩) (World.block_lt_of_cell? W0 _ h0)).trans h0
  have HT := hid_w hT
  have HAz := hid_w (Aztec_no n W0 hn)
  have hor : n < 1 ∨ n > 4 := by omega
  have HsT := hid_w hs
  have HFl : Hid (∀ W, Hid (Below W0.heap.size W0 W) → Calls Tryd.prog 20 #[.string t] W fun e w' => e = .returned (.tuple #[.slice none 0 0, .int .i64 1]) ∧ Hid (Below W.heap.size W w')) := fun W hW => Flips_no t m W HsT.out (HM.out W hW.out) HT.out
  have HFp : Hid (∀ W, Hid (Below W0.heap.size W0 W) → Calls Tryd.prog 21 #[.string t, .agg #[.int .i64 x, .int .i64 y]] W fun e w' => e = .returned (.tuple #[.string ⟨#[]⟩, .int .i64 1]) ∧ Hid (Below W.heap.size W w')) := fun W hW => Flip_no t m W HsT.out (HM.out W hW.out) x y HT.out
  have HLd : Hid (∀ W, Hid (Below W0.heap.size W0 W) → Calls Tryd.prog 11 #[.string t] W fun e w' => e = .returned (.bool false) ∧ Hid (Below W.heap.size W w')) := fun W hW => Laid_no t m W HsT.out (HM.out W hW.out) HT.out
  clear hT hm hs
  go_enter Tryd.func4, Tryd.ntmps4
  go_upto_region 1 with fail
  rw [← HQ.out, ← HW0.out]
  go_upto_region 2 with (go_at_call 18; with_reducible (refine HAz.out.mono ?_); rintro e w1 ⟨rfl, rfl⟩)
  go_cut [27] (fun s27 wx => s27 = .bool true ∧ wx = w1)
  case first =>
    rcases hor with g1 | g2
    · go_wp2_with fail
      go_meet
      exact ⟨rfl, rfl⟩
    · have g1 : ¬ (n < 1) := by omega
      go_wp2_with fail
      go_meet
      exact ⟨rfl, rfl⟩
  obtain ⟨rfl, rfl⟩ := hcut
  have HB1 : Hid (Below wc.heap.size wc wc) := Below.refl _ _
  have HFc := hid_w (HFl.out _ HB1)
  go_upto_region 8 with (first | fail | (go_at_call 20; with_reducible (refine HFc.out.mono ?_); rintro e W2 ⟨rfl, HBa⟩))
  have HB2 : Hid (Below wc.heap.size wc W2) := HB1.out.trans (HBa.out.mono HB1.out.size)
  obtain ⟨q0, q1⟩ := HQc.out W2 HB2.out
  have HFd := hid_w (HFp.out W2 HB2)
  go_upto_region 9 with (go_at_call 21; with_reducible (refine HFd.out.mono ?_); rintro e W3 ⟨rfl, HBb⟩)
  clear q0 q1
  have HB3 : Hid (Below wc.heap.size wc W3) := HB2.out.trans (HBb.out.mono HB2.out.size)
  have HLc := hid_w (HLd.out W3 HB3)
  go_wp2_with (go_at_call 11; with_reducible (refine HLc.out.mono ?_); rintro e W4 ⟨rfl, HBc⟩)
  go_ret
  exact ⟨rfl, HB0.out.trans ((HB3.out.trans (HBc.out.mono HB3.out.size)).mono HB0.out.size)⟩

set_option maxHeartbeats 8000000 in
set_option maxRecDepth 100000 in
theorem dturns_NF (t : ByteArray) (m : Int) (w : World) (hs : t.size ≤ 4000000000) (hm : w.cell? ⟨0, 0, none⟩ = some (.int .i64 m)) (n : Int) (hn : n < 1 ∨ 4 < n) (x y : Int) (r c : Nat) (hT : Til t.data.toList (r + 1) (c + 1)) (hf : (x, y) ∉ blP t.data.toList r c) :
    Calls Tryd.prog 4 #[.string t, .agg #[.int .i64 x, .int .i64 y], .int .i64 n] w fun e w' => e = .returned (.bool true) ∧ Below w.heap.size w w' := by
  obtain ⟨Q, HQ⟩ : ∃ Q, Hid (Q = w.heap.size) := ⟨_, rfl⟩
  obtain ⟨W0, HW0⟩ : ∃ W0, Hid (W0 = w.alloc (.cells #[.int .i64 x, .int .i64 y] 36)) := ⟨_, rfl⟩
  have HB0 : Hid (Below w.heap.size w W0) := by rw [HW0.out]; exact (Below.refl _ _).alloc (Nat.le_refl _) _
  have HQ0 : Hid (W0.heap[Q]? = some (.cells #[.int .i64 x, .int .i64 y] 36 (0, 0))) := by
    show _ = _
    rw [HW0.out, HQ.out]; exact heap_alloc_last _ _
  have HQc : Hid (∀ W, Below W0.heap.size W0 W → W.cell? ⟨Q, 0, none⟩ = some (.int .i64 x) ∧ W.cell? ⟨Q, 1, none⟩ = some (.int .i64 y)) := fun W hW => by
    have h : W.heap[Q]? = some (.cells #[.int .i64 x, .int .i64 y] 36 (0, 0)) := by rw [hW.block Q (lt_someN HQ0.out)]; exact HQ0.out
    exact ⟨by rw [cell_of_row W Q _ _ _ _ h]; rfl, by rw [cell_of_row W Q _ _ _ _ h]; rfl⟩
  have HM : Hid (∀ W, Below W0.heap.size W0 W → W.cell? ⟨0, 0, none⟩ = some (.int .i64 m)) := fun W hW => by
    have h0 : W0.cell? ⟨0, 0, none⟩ = some (.int .i64 m) := by rw [HW0.out, World.cell?_alloc_past _ _ _ (World.block_lt_of_cell? w ⟨0, 0, none⟩ hm)]; exact hm
    exact (hW.cell (p := ⟨0, 0, none⟩) (World.block_lt_of_cell? W0 _ h0)).trans h0
  have HT := hid_w hT
  obtain ⟨l, HL⟩ : ∃ l, Hid (l = blP t.data.toList r c) := ⟨_, rfl⟩
  obtain ⟨N, HN⟩ : ∃ N, Hid (N = (blP t.data.toList r c).length) := ⟨_, rfl⟩
  have hN64 : N ≤ 64 := by rw [HN.out]; exact blP_len hT
  have HNl : Hid (N = l.length) := by show _ = _; rw [HN.out, HL.out]
  have HIs : Hid ((x, y) ∉ l) := by show _ ∉ _; rw [HL.out]; exact hf
  have HF := hid_w hf
  have HAz := hid_w (Aztec_no n W0 hn)
  have hor : n < 1 ∨ n > 4 := by omega
  have HsT := hid_w hs
  have HFl : Hid (∀ W, Hid (Below W0.heap.size W0 W) → Calls Tryd.prog 20 #[.string t] W fun e w' => ∃ a cp, e = .returned (.tuple #[.slice a N cp, .int .i64 0]) ∧ Hid (PtI w' a l) ∧ Hid (Below W.heap.size W w')) := fun W hW => by
    rw [HL.out]; exact Flips_ok t m W HsT.out (HM.out W hW.out) r c HT.out N HN.out
  have HFp : Hid (∀ W, Hid (Below W0.heap.size W0 W) → Calls Tryd.prog 21 #[.string t, .agg #[.int .i64 x, .int .i64 y]] W fun e w' => e = .returned (.tuple #[.string ⟨#[]⟩, .int .i64 5]) ∧ Hid (Below W.heap.size W w')) := fun W hW => Flip_off t m W HsT.out (HM.out W hW.out) x y r c HT.out HF.out
  have HLd : Hid (∀ W, Hid (Below W0.heap.size W0 W) → Calls Tryd.prog 11 #[.string t] W fun e w' => e = .returned (.bool true) ∧ Hid (Below W.heap.size W w')) := fun W hW => Laid_ok t m W HsT.out (HM.out W hW.out) (r + 1) (c + 1) HT.out
  have HBk : Hid (∀ W, Hid (Below W0.heap.size W0 W) → Calls Tryd.prog 22 #[.string t] W fun e w' => ∃ a cp, e = .returned (.slice a N cp) ∧ Hid (PtI w' a l) ∧ Hid (Below W.heap.size W w')) := fun W hW => by
    rw [HL.out]; exact Blocks_ok t m W (HM.out W hW.out) r c HT.out N HN.out
  clear hT hm hs hf
  go_enter Tryd.func4, Tryd.ntmps4
  go_upto_region 1 with fail
  rw [← HQ.out, ← HW0.out]
  go_upto_region 2 with (go_at_call 18; with_reducible (refine HAz.out.mono ?_); rintro e w1 ⟨rfl, rfl⟩)
  go_cut [27] (fun s27 wx => s27 = .bool true ∧ wx = w1)
  case first =>
    rcases hor with g1 | g2
    · go_wp2_with fail
      go_meet
      exact ⟨rfl, rfl⟩
    · have g1 : ¬ (n < 1) := by omega
      go_wp2_with fail
      go_meet
      exact ⟨rfl, rfl⟩
  obtain ⟨rfl, rfl⟩ := hcut
  have HB1 : Hid (Below wc.heap.size wc wc) := Below.refl _ _
  have HFc := hid_w (HFl.out _ HB1)
  go_upto_region 8 with (first | fail | (go_at_call 20; with_reducible (refine HFc.out.mono ?_); rintro e W2 ⟨a1, cp1, rfl, HPa, HBa⟩))
  have HB2 : Hid (Below wc.heap.size wc W2) := HB1.out.trans (HBa.out.mono HB1.out.size)
  obtain ⟨q0, q1⟩ := HQc.out W2 HB2.out
  have HFd := hid_w (HFp.out W2 HB2)
  go_upto_region 9 with (go_at_call 21; with_reducible (refine HFd.out.mono ?_); rintro e W3 ⟨rfl, HBb⟩)
  clear q0 q1
  have HB3 : Hid (Below wc.heap.size wc W3) := HB2.out.trans (HBb.out.mono HB2.out.size)
  have HLc := hid_w (HLd.out W3 HB3)
  go_upto_region 11 with (go_at_call 11; with_reducible (refine HLc.out.mono ?_); rintro e W4 ⟨rfl, HBc⟩)
  have HB4 : Hid (Below wc.heap.size wc W4) := HB3.out.trans (HBc.out.mono HB3.out.size)
  have HBkc := hid_w (HBk.out W4 HB4)
  go_upto_region 12 with (go_at_call 22; with_reducible (refine HBkc.out.mono ?_); rintro e W5 ⟨a2, cp2, rfl, HPb, HBd⟩)
  have HB5 : Hid (Below wc.heap.size wc W5) := HB4.out.trans (HBd.out.mono HB4.out.size)
  have HPa5 : Hid (PtI W5 a1 l) := ((HPa.out.below HBb.out).below HBc.out).below HBd.out
  clear HPa HBa HBb HBc HBd HFc HFd HLc HBkc
  go_wp2_with fail
  go_loopw [14, 75] (fun bv v wr => ∃ (k : Nat) (b : Bool), k ≤ N ∧ v = .int .i64 (k : Int) ∧ bv = .bool b ∧ Hid (b = decide ((x, y) ∈ l.take k)) ∧ Hid (Below W5.heap.size W5 wr)) (fun _ v _ => N - (intOf v).toNat)
  case atStart => exact ⟨0, false, Nat.zero_le _, rfl, rfl, by show _ = _; simp, Below.refl _ _⟩
  case round =>
    obtain ⟨k, b, hk, rfl, rfl, Hb, HBr⟩ := hrel
    by_cases hlt : k < N
    · have hlt' : (k : Int) < (N : Int) := by omega
      have hkl : k < l.length := by rw [← HNl.out]; exact hlt
      obtain ⟨px, py, HXY⟩ : ∃ px py, Hid (l.getD k (0, 0) = (px, py)) := ⟨_, _, rfl⟩
      have HTk : Hid (l.take (k + 1) = l.take k ++ [(px, py)]) := by
        show _ = _
        rw [List.take_add_one, ← HXY.out]; simp [List.getD, hkl]
      obtain ⟨b2, o2, rfl, -, k0, k1⟩ := (HPb.out.below HBr.out) k hkl
      rw [HXY.out] at k0 k1
      obtain ⟨q0, q1⟩ := HQc.out wr (HB5.out.trans (HBr.out.mono HB5.out.size))
      cases b with
      | true =>
        have Hb2 : Hid (true = decide ((x, y) ∈ l.take (k + 1))) := by
          show _ = _
          rw [HTk.out]
          exact (decide_eq_true (List.mem_append_left _ (of_decide_eq_true Hb.out.symm))).symm
        go_wp2_with fail
        go_quiet (fail)
        go_wp2
        go_roundw
        case rel => exact ⟨k + 1, true, by omega, by go_num, rfl, Hb2, below_drewN HBr.out _⟩
        case measure => simp [intOf]; omega
      | false =>
        have hno : (x, y) ∉ l.take k := of_decide_eq_false Hb.out.symm
        by_cases hx : px = x
        · by_cases hy : py = y
          · have Hb2 : Hid (true = decide ((x, y) ∈ l.take (k + 1))) := by
              show _ = _
              rw [HTk.out, hx, hy]
              exact (decide_eq_true (List.mem_append_right _ (by simp))).symm
            subst hx
            subst hy
            go_wp2_with fail
            go_quiet (fail)
            go_wp2
            go_roundw
            case rel => exact ⟨k + 1, true, by omega, by go_num, rfl, Hb2, below_drewN HBr.out _⟩
            case measure => simp [intOf]; omega
          · have Hb2 : Hid (false = decide ((x, y) ∈ l.take (k + 1))) := by
              show _ = _
              rw [HTk.out]
              refine (decide_eq_false (fun q => ?_)).symm
              rcases List.mem_append.1 q with q | q
              · exact hno q
              · simp only [List.mem_singleton, Prod.mk.injEq] at q; exact hy q.2.symm
            have hy' : (py == y) = false := by simpa using hy
            subst hx
            go_wp2_with fail
            go_quiet (fail)
            go_wp2
            go_roundw
            case rel => exact ⟨k + 1, false, by omega, by go_num, by first | rfl | simp [hy'], Hb2, below_drewN HBr.out _⟩
            case measure => simp [intOf]; omega
        · have Hb2 : Hid (false = decide ((x, y) ∈ l.take (k + 1))) := by
            show _ = _
            rw [HTk.out]
            refine (decide_eq_false (fun q => ?_)).symm
            rcases List.mem_append.1 q with q | q
            · exact hno q
            · simp only [List.mem_singleton, Prod.mk.injEq] at q; exact hx q.1.symm
          have hx' : (px == x) = false := by simpa using hx
          go_wp2_with fail
          go_quiet (fail)
          go_wp2
          go_roundw
          case rel => exact ⟨k + 1, false, by omega, by go_num, by first | rfl | simp [hx'], Hb2, below_drewN HBr.out _⟩
          case measure => simp [intOf]; omega
    · obtain rfl : k = N := by omega
      have HTa : Hid (l.take k = l) := by show _ = _; rw [HNl.out]; exact List.take_length
      have HB6 : Hid (Below wc.heap.size wc wr) := HB5.out.trans (HBr.out.mono HB5.out.size)
      have HSm := hid_w (SamePt_at a1 a2 k k cp1 cp2 l wr (HPa5.out.below HBr.out) (HPb.out.below HBr.out) HNl.out HNl.out (by rw [← HNl.out]; omega))
      have hb : b = false := by
        rw [Hb.out, HTa.out]; exact decide_eq_false HIs.out
      subst hb
      go_wp2_with (go_at_call 23; with_reducible (refine HSm.out.mono ?_); rintro e W7 ⟨rfl, HBs⟩)
      have HB7 : Hid (Below wc.heap.size wc W7) := HB6.out.trans (HBs.out.mono HB6.out.size)
      go_ret
      exact ⟨rfl, HB0.out.trans (HB7.out.mono HB0.out.size)⟩

set_option maxHeartbeats 8000000 in
set_option maxRecDepth 100000 in
theorem dturns_NL (t : ByteArray) (m : Int) (w : World) (hs : t.size ≤ 4000000000) (hm : w.cell? ⟨0, 0, none⟩ = some (.int .i64 m)) (n : Int) (hn : n < 1 ∨ 4 < n) (i j r c : Nat) (hT : Til t.data.toList (r + 1) (c + 1)) (hi : i < r) (hj : j < c) (hq : qR (cef (pz t.data.toList)) i j = true) (hc : (cef (pz t.data.toList) (i * 8 + j) == 108) = true) :
    Calls Tryd.prog 4 #[.string t, .agg #[.int .i64 (j : Int), .int .i64 (i : Int)], .int .i64 n] w fun e w' => e = .returned (.bool true) ∧ Below w.heap.size w w' := by
  obtain ⟨Q, HQ⟩ : ∃ Q, Hid (Q = w.heap.size) := ⟨_, rfl⟩
  obtain ⟨W0, HW0⟩ : ∃ W0, Hid (W0 = w.alloc (.cells #[.int .i64 (j : Int), .int .i64 (i : Int)] 36)) := ⟨_, rfl⟩
  have HB0 : Hid (Below w.heap.size w W0) := by rw [HW0.out]; exact (Below.refl _ _).alloc (Nat.le_refl _) _
  have HQ0 : Hid (W0.heap[Q]? = some (.cells #[.int .i64 (j : Int), .int .i64 (i : Int)] 36 (0, 0))) := by
    show _ = _
    rw [HW0.out, HQ.out]; exact heap_alloc_last _ _
  have HQc : Hid (∀ W, Below W0.heap.size W0 W → W.cell? ⟨Q, 0, none⟩ = some (.int .i64 (j : Int)) ∧ W.cell? ⟨Q, 1, none⟩ = some (.int .i64 (i : Int))) := fun W hW => by
    have h : W.heap[Q]? = some (.cells #[.int .i64 (j : Int), .int .i64 (i : Int)] 36 (0, 0)) := by rw [hW.block Q (lt_someN HQ0.out)]; exact HQ0.out
    exact ⟨by rw [cell_of_row W Q _ _ _ _ h]; rfl, by rw [cell_of_row W Q _ _ _ _ h]; rfl⟩
  have HM : Hid (∀ W, Below W0.heap.size W0 W → W.cell? ⟨0, 0, none⟩ = some (.int .i64 m)) := fun W hW => by
    have h0 : W0.cell? ⟨0, 0, none⟩ = some (.int .i64 m) := by rw [HW0.out, World.cell?_alloc_past _ _ _ (World.block_lt_of_cell? w ⟨0, 0, none⟩ hm)]; exact hm
    exact (hW.cell (p := ⟨0, 0, none⟩) (World.block_lt_of_cell? W0 _ h0)).trans h0
  have HT := hid_w hT
  obtain ⟨l, HL⟩ : ∃ l, Hid (l = blP t.data.toList r c) := ⟨_, rfl⟩
  obtain ⟨N, HN⟩ : ∃ N, Hid (N = (blP t.data.toList r c).length) := ⟨_, rfl⟩
  have hN64 : N ≤ 64 := by rw [HN.out]; exact blP_len hT
  have HNl : Hid (N = l.length) := by show _ = _; rw [HN.out, HL.out]
  obtain ⟨u, HU⟩ : ∃ u : ByteArray, Hid (u = ⟨(tx (r + 1) (c + 1) (cvF (cef (pz t.data.toList)) i j true)).toArray⟩) := ⟨_, rfl⟩
  obtain ⟨p, HP⟩ : ∃ p : ByteArray, Hid (p = ⟨(tx (r + 1) (c + 1) (cvF (cef (pz t.data.toList)) i j false)).toArray⟩) := ⟨_, rfl⟩
  have hpt := put_stays hT hi hj hq p HP.out
  have HIs : Hid (((j : Int), (i : Int)) ∈ l) := by show _ ∈ _; rw [HL.out]; exact (mem_flp _ _ _ _ _).2 ⟨i, j, hi, hj, hq, rfl, rfl⟩
  have HIJ := hid_w (And.intro hi (And.intro hj (And.intro hq hc)))
  obtain rfl : p = t := hpt.2 hc
  have HAz := hid_w (Aztec_no n W0 hn)
  have hor : n < 1 ∨ n > 4 := by omega
  have HsT := hid_w hs
  have HFl : Hid (∀ W, Hid (Below W0.heap.size W0 W) → Calls Tryd.prog 20 #[.string p] W fun e w' => ∃ a cp, e = .returned (.tuple #[.slice a N cp, .int .i64 0]) ∧ Hid (PtI w' a l) ∧ Hid (Below W.heap.size W w')) := fun W hW => by
    rw [HL.out]; exact Flips_ok p m W HsT.out (HM.out W hW.out) r c HT.out N HN.out
  have HFp : Hid (∀ W, Hid (Below W0.heap.size W0 W) → Calls Tryd.prog 21 #[.string p, .agg #[.int .i64 (j : Int), .int .i64 (i : Int)]] W fun e w' => e = .returned (.tuple #[.string u, .int .i64 0]) ∧ Hid (Below W.heap.size W w')) := fun W hW => Flip_on p m W HsT.out (HM.out W hW.out) i j r c HT.out HIJ.out.1 HIJ.out.2.1 HIJ.out.2.2.1 true HIJ.out.2.2.2.symm u HU.out
  have HP1 : Hid (∀ W, Calls Tryd.prog 24 #[.string p, .int .i64 (j : Int), .int .i64 (i : Int), .string ⟨#[108, 114, 108, 114]⟩] W fun e w' => e = .returned (.string p) ∧ Hid (Below W.heap.size W w')) := fun W => Put_lie p i j r c W HT.out HIJ.out.1 HIJ.out.2.1 p HP.out
  have HP2 : Hid (∀ W, Calls Tryd.prog 24 #[.string p, .int .i64 (j : Int), .int .i64 (i : Int), .string ⟨#[117, 117, 100, 100]⟩] W fun e w' => e = .returned (.string u) ∧ Hid (Below W.heap.size W w')) := fun W => Put_std p i j r c W HT.out HIJ.out.1 HIJ.out.2.1 u HU.out
  have HLd : Hid (∀ W, Hid (Below W0.heap.size W0 W) → Calls Tryd.prog 11 #[.string p] W fun e w' => e = .returned (.bool true) ∧ Hid (Below W.heap.size W w')) := fun W hW => Laid_ok p m W HsT.out (HM.out W hW.out) (r + 1) (c + 1) HT.out
  have HBk : Hid (∀ W, Hid (Below W0.heap.size W0 W) → Calls Tryd.prog 22 #[.string p] W fun e w' => ∃ a cp, e = .returned (.slice a N cp) ∧ Hid (PtI w' a l) ∧ Hid (Below W.heap.size W w')) := fun W hW => by
    rw [HL.out]; exact Blocks_ok p m W (HM.out W hW.out) r c HT.out N HN.out
  clear hT hm hs hq hc hpt hi hj
  go_enter Tryd.func4, Tryd.ntmps4
  go_upto_region 1 with fail
  rw [← HQ.out, ← HW0.out]
  go_upto_region 2 with (go_at_call 18; with_reducible (refine HAz.out.mono ?_); rintro e w1 ⟨rfl, rfl⟩)
  go_cut [27] (fun s27 wx => s27 = .bool true ∧ wx = w1)
  case first =>
    rcases hor with g1 | g2
    · go_wp2_with fail
      go_meet
      exact ⟨rfl, rfl⟩
    · have g1 : ¬ (n < 1) := by omega
      go_wp2_with fail
      go_meet
      exact ⟨rfl, rfl⟩
  obtain ⟨rfl, rfl⟩ := hcut
  have HB1 : Hid (Below wc.heap.size wc wc) := Below.refl _ _
  have HFc := hid_w (HFl.out _ HB1)
  go_upto_region 8 with (first | fail | (go_at_call 20; with_reducible (refine HFc.out.mono ?_); rintro e W2 ⟨a1, cp1, rfl, HPa, HBa⟩))
  have HB2 : Hid (Below wc.heap.size wc W2) := HB1.out.trans (HBa.out.mono HB1.out.size)
  obtain ⟨q0, q1⟩ := HQc.out W2 HB2.out
  have HFd := hid_w (HFp.out W2 HB2)
  go_upto_region 9 with (go_at_call 21; with_reducible (refine HFd.out.mono ?_); rintro e W3 ⟨rfl, HBb⟩)
  clear q0 q1
  have HB3 : Hid (Below wc.heap.size wc W3) := HB2.out.trans (HBb.out.mono HB2.out.size)
  have HLc := hid_w (HLd.out W3 HB3)
  go_upto_region 11 with (go_at_call 11; with_reducible (refine HLc.out.mono ?_); rintro e W4 ⟨rfl, HBc⟩)
  have HB4 : Hid (Below wc.heap.size wc W4) := HB3.out.trans (HBc.out.mono HB3.out.size)
  have HBkc := hid_w (HBk.out W4 HB4)
  go_upto_region 12 with (go_at_call 22; with_reducible (refine HBkc.out.mono ?_); rintro e W5 ⟨a2, cp2, rfl, HPb, HBd⟩)
  have HB5 : Hid (Below wc.heap.size wc W5) := HB4.out.trans (HBd.out.mono HB4.out.size)
  have HPa5 : Hid (PtI W5 a1 l) := ((HPa.out.below HBb.out).below HBc.out).below HBd.out
  clear HPa HBa HBb HBc HBd HFc HFd HLc HBkc
  go_wp2_with fail
  go_loopw [14, 75] (fun bv v wr => ∃ (k : Nat) (b : Bool), k ≤ N ∧ v = .int .i64 (k : Int) ∧ bv = .bool b ∧ Hid (b = decide (((j : Int), (i : Int)) ∈ l.take k)) ∧ Hid (Below W5.heap.size W5 wr)) (fun _ v _ => N - (intOf v).toNat)
  case atStart => exact ⟨0, false, Nat.zero_le _, rfl, rfl, by show _ = _; simp, Below.refl _ _⟩
  case round =>
    obtain ⟨k, b, hk, rfl, rfl, Hb, HBr⟩ := hrel
    by_cases hlt : k < N
    · have hlt' : (k : Int) < (N : Int) := by omega
      have hkl : k < l.length := by rw [← HNl.out]; exact hlt
      obtain ⟨px, py, HXY⟩ : ∃ px py, Hid (l.getD k (0, 0) = (px, py)) := ⟨_, _, rfl⟩
      have HTk : Hid (l.take (k + 1) = l.take k ++ [(px, py)]) := by
        show _ = _
        rw [List.take_add_one, ← HXY.out]; simp [List.getD, hkl]
      obtain ⟨b2, o2, rfl, -, k0, k1⟩ := (HPb.out.below HBr.out) k hkl
      rw [HXY.out] at k0 k1
      obtain ⟨q0, q1⟩ := HQc.out wr (HB5.out.trans (HBr.out.mono HB5.out.size))
      cases b with
      | true =>
        have Hb2 : Hid (true = decide (((j : Int), (i : Int)) ∈ l.take (k + 1))) := by
          show _ = _
          rw [HTk.out]
          exact (decide_eq_true (List.mem_append_left _ (of_decide_eq_true Hb.out.symm))).symm
        go_wp2_with fail
        go_quiet (fail)
        go_wp2
        go_roundw
        case rel => exact ⟨k + 1, true, by omega, by go_num, rfl, Hb2, below_drewN HBr.out _⟩
        case measure => simp [intOf]; omega
      | false =>
        have hno : ((j : Int), (i : Int)) ∉ l.take k := of_decide_eq_false Hb.out.symm
        by_cases hx : px = (j : Int)
        · by_cases hy : py = (i : Int)
          · have Hb2 : Hid (true = decide (((j : Int), (i : Int)) ∈ l.take (k + 1))) := by
              show _ = _
              rw [HTk.out, hx, hy]
              exact (decide_eq_true (List.mem_append_right _ (by simp))).symm
            subst hx
            subst hy
            go_wp2_with fail
            go_quiet (fail)
            go_wp2
            go_roundw
            case rel => exact ⟨k + 1, true, by omega, by go_num, rfl, Hb2, below_drewN HBr.out _⟩
            case measure => simp [intOf]; omega
          · have Hb2 : Hid (false = decide (((j : Int), (i : Int)) ∈ l.take (k + 1))) := by
              show _ = _
              rw [HTk.out]
              refine (decide_eq_false (fun q => ?_)).symm
              rcases List.mem_append.1 q with q | q
              · exact hno q
              · simp only [List.mem_singleton, Prod.mk.injEq] at q; exact hy q.2.symm
            have hy' : (py == (i : Int)) = false := by simpa using hy
            subst hx
            go_wp2_with fail
            go_quiet (fail)
            go_wp2
            go_roundw
            case rel => exact ⟨k + 1, false, by omega, by go_num, by first | rfl | simp [hy'], Hb2, below_drewN HBr.out _⟩
            case measure => simp [intOf]; omega
        · have Hb2 : Hid (false = decide (((j : Int), (i : Int)) ∈ l.take (k + 1))) := by
            show _ = _
            rw [HTk.out]
            refine (decide_eq_false (fun q => ?_)).symm
            rcases List.mem_append.1 q with q | q
            · exact hno q
            · simp only [List.mem_singleton, Prod.mk.injEq] at q; exact hx q.1.symm
          have hx' : (px == (j : Int)) = false := by simpa using hx
          go_wp2_with fail
          go_quiet (fail)
          go_wp2
          go_roundw
          case rel => exact ⟨k + 1, false, by omega, by go_num, by first | rfl | simp [hx'], Hb2, below_drewN HBr.out _⟩
          case measure => simp [intOf]; omega
    · obtain rfl : k = N := by omega
      have HTa : Hid (l.take k = l) := by show _ = _; rw [HNl.out]; exact List.take_length
      have HB6 : Hid (Below wc.heap.size wc wr) := HB5.out.trans (HBr.out.mono HB5.out.size)
      have HSm := hid_w (SamePt_at a1 a2 k k cp1 cp2 l wr (HPa5.out.below HBr.out) (HPb.out.below HBr.out) HNl.out HNl.out (by rw [← HNl.out]; omega))
      have hb : b = true := by
        rw [Hb.out, HTa.out]; exact decide_eq_true HIs.out
      subst hb
      go_upto_region 21 with (go_at_call 23; with_reducible (refine HSm.out.mono ?_); rintro e W7 ⟨rfl, HBs⟩)
      have HB7 : Hid (Below wc.heap.size wc W7) := HB6.out.trans (HBs.out.mono HB6.out.size)
      obtain ⟨q0, q1⟩ := HQc.out W7 HB7.out
      have HP1c := hid_w (HP1.out W7)
      go_upto_region 24 with (go_at_call 24; with_reducible (refine HP1c.out.mono ?_); rintro e W8 ⟨rfl, HBu⟩)
      clear q0 q1
      have HB8 : Hid (Below wc.heap.size wc W8) := HB7.out.trans (HBu.out.mono HB7.out.size)
      obtain ⟨q0, q1⟩ := HQc.out W8 HB8.out
      have HP2c := hid_w (HP2.out W8)
      go_wp2_with (go_at_call 24; with_reducible (refine HP2c.out.mono ?_); rintro e W9 ⟨rfl, HBv⟩)
      have HB9 : Hid (Below wc.heap.size wc W9) := HB8.out.trans (HBv.out.mono HB8.out.size)
      go_ret
      exact ⟨rfl, HB0.out.trans (HB9.out.mono HB0.out.size)⟩

set_option maxHeartbeats 8000000 in
set_option maxRecDepth 100000 in
theorem dturns_NU (t : ByteArray) (m : Int) (w : World) (hs : t.size ≤ 4000000000) (hm : w.cell? ⟨0, 0, none⟩ = some (.int .i64 m)) (n : Int) (hn : n < 1 ∨ 4 < n) (i j r c : Nat) (hT : Til t.data.toList (r + 1) (c + 1)) (hi : i < r) (hj : j < c) (hq : qR (cef (pz t.data.toList)) i j = true) (hc : (cef (pz t.data.toList) (i * 8 + j) == 108) = false) :
    Calls Tryd.prog 4 #[.string t, .agg #[.int .i64 (j : Int), .int .i64 (i : Int)], .int .i64 n] w fun e w' => e = .returned (.bool true) ∧ Below w.heap.size w w' := by
  obtain ⟨Q, HQ⟩ : ∃ Q, Hid (Q = w.heap.size) := ⟨_, rfl⟩
  obtain ⟨W0, HW0⟩ : ∃ W0, Hid (W0 = w.alloc (.cells #[.int .i64 (j : Int), .int .i64 (i : Int)] 36)) := ⟨_, rfl⟩
  have HB0 : Hid (Below w.heap.size w W0) := by rw [HW0.out]; exact (Below.refl _ _).alloc (Nat.le_refl _) _
  have HQ0 : Hid (W0.heap[Q]? = some (.cells #[.int .i64 (j : Int), .int .i64 (i : Int)] 36 (0, 0))) := by
    show _ = _
    rw [HW0.out, HQ.out]; exact heap_alloc_last _ _
  have HQc : Hid (∀ W, Below W0.heap.size W0 W → W.cell? ⟨Q, 0, none⟩ = some (.int .i64 (j : Int)) ∧ W.cell? ⟨Q, 1, none⟩ = some (.int .i64 (i : Int))) := fun W hW => by
    have h : W.heap[Q]? = some (.cells #[.int .i64 (j : Int), .int .i64 (i : Int)] 36 (0, 0)) := by rw [hW.block Q (lt_someN HQ0.out)]; exact HQ0.out
    exact ⟨by rw [cell_of_row W Q _ _ _ _ h]; rfl, by rw [cell_of_row W Q _ _ _ _ h]; rfl⟩
  have HM : Hid (∀ W, Below W0.heap.size W0 W → W.cell? ⟨0, 0, none⟩ = some (.int .i64 m)) := fun W hW => by
    have h0 : W0.cell? ⟨0, 0, none⟩ = some (.int .i64 m) := by rw [HW0.out, World.cell?_alloc_past _ _ _ (World.block_lt_of_cell? w ⟨0, 0, none⟩ hm)]; exact hm
    exact (hW.cell (p := ⟨0, 0, none⟩) (World.block_lt_of_cell? W0 _ h0)).trans h0
  have HT := hid_w hT
  obtain ⟨l, HL⟩ : ∃ l, Hid (l = blP t.data.toList r c) := ⟨_, rfl⟩
  obtain ⟨N, HN⟩ : ∃ N, Hid (N = (blP t.data.toList r c).length) := ⟨_, rfl⟩
  have hN64 : N ≤ 64 := by rw [HN.out]; exact blP_len hT
  have HNl : Hid (N = l.length) := by show _ = _; rw [HN.out, HL.out]
  obtain ⟨u, HU⟩ : ∃ u : ByteArray, Hid (u = ⟨(tx (r + 1) (c + 1) (cvF (cef (pz t.data.toList)) i j false)).toArray⟩) := ⟨_, rfl⟩
  obtain ⟨p, HP⟩ : ∃ p : ByteArray, Hid (p = ⟨(tx (r + 1) (c + 1) (cvF (cef (pz t.data.toList)) i j false)).toArray⟩) := ⟨_, rfl⟩
  have hpt := put_stays hT hi hj hq p HP.out
  have HIs : Hid (((j : Int), (i : Int)) ∈ l) := by show _ ∈ _; rw [HL.out]; exact (mem_flp _ _ _ _ _).2 ⟨i, j, hi, hj, hq, rfl, rfl⟩
  have HIJ := hid_w (And.intro hi (And.intro hj (And.intro hq hc)))
  obtain ⟨hpn1, hpn2⟩ : (p.toList == t.toList) = false ∧ ¬ p.toList = t.toList := by
    have h : ¬ p.data.toList = t.data.toList := fun e => by
      have := hpt.1 (ba_extN e)
      rw [hc] at this; cases this
    have := ba_neql h
    rw [ByteArray.toList_eq t]; exact this
  have hpu : p = u := HP.out.trans HU.out.symm
  subst hpu
  have HAz := hid_w (Aztec_no n W0 hn)
  have hor : n < 1 ∨ n > 4 := by omega
  have HsT := hid_w hs
  have HFl : Hid (∀ W, Hid (Below W0.heap.size W0 W) → Calls Tryd.prog 20 #[.string t] W fun e w' => ∃ a cp, e = .returned (.tuple #[.slice a N cp, .int .i64 0]) ∧ Hid (PtI w' a l) ∧ Hid (Below W.heap.size W w')) := fun W hW => by
    rw [HL.out]; exact Flips_ok t m W HsT.out (HM.out W hW.out) r c HT.out N HN.out
  have HFp : Hid (∀ W, Hid (Below W0.heap.size W0 W) → Calls Tryd.prog 21 #[.string t, .agg #[.int .i64 (j : Int), .int .i64 (i : Int)]] W fun e w' => e = .returned (.tuple #[.string p, .int .i64 0]) ∧ Hid (Below W.heap.size W w')) := fun W hW => Flip_on t m W HsT.out (HM.out W hW.out) i j r c HT.out HIJ.out.1 HIJ.out.2.1 HIJ.out.2.2.1 false HIJ.out.2.2.2.symm p HU.out
  have HP1 : Hid (∀ W, Calls Tryd.prog 24 #[.string t, .int .i64 (j : Int), .int .i64 (i : Int), .string ⟨#[108, 114, 108, 114]⟩] W fun e w' => e = .returned (.string p) ∧ Hid (Below W.heap.size W w')) := fun W => Put_lie t i j r c W HT.out HIJ.out.1 HIJ.out.2.1 p HP.out
  have HLd : Hid (∀ W, Hid (Below W0.heap.size W0 W) → Calls Tryd.prog 11 #[.string t] W fun e w' => e = .returned (.bool true) ∧ Hid (Below W.heap.size W w')) := fun W hW => Laid_ok t m W HsT.out (HM.out W hW.out) (r + 1) (c + 1) HT.out
  have HBk : Hid (∀ W, Hid (Below W0.heap.size W0 W) → Calls Tryd.prog 22 #[.string t] W fun e w' => ∃ a cp, e = .returned (.slice a N cp) ∧ Hid (PtI w' a l) ∧ Hid (Below W.heap.size W w')) := fun W hW => by
    rw [HL.out]; exact Blocks_ok t m W (HM.out W hW.out) r c HT.out N HN.out
  clear hT hm hs hq hc hpt hi hj
  go_enter Tryd.func4, Tryd.ntmps4
  go_upto_region 1 with fail
  rw [← HQ.out, ← HW0.out]
  go_upto_region 2 with (go_at_call 18; with_reducible (refine HAz.out.mono ?_); rintro e w1 ⟨rfl, rfl⟩)
  go_cut [27] (fun s27 wx => s27 = .bool true ∧ wx = w1)
  case first =>
    rcases hor with g1 | g2
    · go_wp2_with fail
      go_meet
      exact ⟨rfl, rfl⟩
    · have g1 : ¬ (n < 1) := by omega
      go_wp2_with fail
      go_meet
      exact ⟨rfl, rfl⟩
  obtain ⟨rfl, rfl⟩ := hcut
  have HB1 : Hid (Below wc.heap.size wc wc) := Below.refl _ _
  have HFc := hid_w (HFl.out _ HB1)
  go_upto_region 8 with (first | fail | (go_at_call 20; with_reducible (refine HFc.out.mono ?_); rintro e W2 ⟨a1, cp1, rfl, HPa, HBa⟩))
  have HB2 : Hid (Below wc.heap.size wc W2) := HB1.out.trans (HBa.out.mono HB1.out.size)
  obtain ⟨q0, q1⟩ := HQc.out W2 HB2.out
  have HFd := hid_w (HFp.out W2 HB2)
  go_upto_region 9 with (go_at_call 21; with_reducible (refine HFd.out.mono ?_); rintro e W3 ⟨rfl, HBb⟩)
  clear q0 q1
  have HB3 : Hid (Below wc.heap.size wc W3) := HB2.out.trans (HBb.out.mono HB2.out.size)
  have HLc := hid_w (HLd.out W3 HB3)
  go_upto_region 11 with (go_at_call 11; with_reducible (refine HLc.out.mono ?_); rintro e W4 ⟨rfl, HBc⟩)
  have HB4 : Hid (Below wc.heap.size wc W4) := HB3.out.trans (HBc.out.mono HB3.out.size)
  have HBkc := hid_w (HBk.out W4 HB4)
  go_upto_region 12 with (go_at_call 22; with_reducible (refine HBkc.out.mono ?_); rintro e W5 ⟨a2, cp2, rfl, HPb, HBd⟩)
  have HB5 : Hid (Below wc.heap.size wc W5) := HB4.out.trans (HBd.out.mono HB4.out.size)
  have HPa5 : Hid (PtI W5 a1 l) := ((HPa.out.below HBb.out).below HBc.out).below HBd.out
  clear HPa HBa HBb HBc HBd HFc HFd HLc HBkc
  go_wp2_with fail
  go_loopw [14, 75] (fun bv v wr => ∃ (k : Nat) (b : Bool), k ≤ N ∧ v = .int .i64 (k : Int) ∧ bv = .bool b ∧ Hid (b = decide (((j : Int), (i : Int)) ∈ l.take k)) ∧ Hid (Below W5.heap.size W5 wr)) (fun _ v _ => N - (intOf v).toNat)
  case atStart => exact ⟨0, false, Nat.zero_le _, rfl, rfl, by show _ = _; simp, Below.refl _ _⟩
  case round =>
    obtain ⟨k, b, hk, rfl, rfl, Hb, HBr⟩ := hrel
    by_cases hlt : k < N
    · have hlt' : (k : Int) < (N : Int) := by omega
      have hkl : k < l.length := by rw [← HNl.out]; exact hlt
      obtain ⟨px, py, HXY⟩ : ∃ px py, Hid (l.getD k (0, 0) = (px, py)) := ⟨_, _, rfl⟩
      have HTk : Hid (l.take (k + 1) = l.take k ++ [(px, py)]) := by
        show _ = _
        rw [List.take_add_one, ← HXY.out]; simp [List.getD, hkl]
      obtain ⟨b2, o2, rfl, -, k0, k1⟩ := (HPb.out.below HBr.out) k hkl
      rw [HXY.out] at k0 k1
      obtain ⟨q0, q1⟩ := HQc.out wr (HB5.out.trans (HBr.out.mono HB5.out.size))
      cases b with
      | true =>
        have Hb2 : Hid (true = decide (((j : Int), (i : Int)) ∈ l.take (k + 1))) := by
          show _ = _
          rw [HTk.out]
          exact (decide_eq_true (List.mem_append_left _ (of_decide_eq_true Hb.out.symm))).symm
        go_wp2_with fail
        go_quiet (fail)
        go_wp2
        go_roundw
        case rel => exact ⟨k + 1, true, by omega, by go_num, rfl, Hb2, below_drewN HBr.out _⟩
        case measure => simp [intOf]; omega
      | false =>
        have hno : ((j : Int), (i : Int)) ∉ l.take k := of_decide_eq_false Hb.out.symm
        by_cases hx : px = (j : Int)
        · by_cases hy : py = (i : Int)
          · have Hb2 : Hid (true = decide (((j : Int), (i : Int)) ∈ l.take (k + 1))) := by
              show _ = _
              rw [HTk.out, hx, hy]
              exact (decide_eq_true (List.mem_append_right _ (by simp))).symm
            subst hx
            subst hy
            go_wp2_with fail
            go_quiet (fail)
            go_wp2
            go_roundw
            case rel => exact ⟨k + 1, true, by omega, by go_num, rfl, Hb2, below_drewN HBr.out _⟩
            case measure => simp [intOf]; omega
          · have Hb2 : Hid (false = decide (((j : Int), (i : Int)) ∈ l.take (k + 1))) := by
              show _ = _
              rw [HTk.out]
              refine (decide_eq_false (fun q => ?_)).symm
              rcases List.mem_append.1 q with q | q
              · exact hno q
              · simp only [List.mem_singleton, Prod.mk.injEq] at q; exact hy q.2.symm
            have hy' : (py == (i : Int)) = false := by simpa using hy
            subst hx
            go_wp2_with fail
            go_quiet (fail)
            go_wp2
            go_roundw
            case rel => exact ⟨k + 1, false, by omega, by go_num, by first | rfl | simp [hy'], Hb2, below_drewN HBr.out _⟩
            case measure => simp [intOf]; omega
        · have Hb2 : Hid (false = decide (((j : Int), (i : Int)) ∈ l.take (k + 1))) := by
            show _ = _
            rw [HTk.out]
            refine (decide_eq_false (fun q => ?_)).symm
            rcases List.mem_append.1 q with q | q
            · exact hno q
            · simp only [List.mem_singleton, Prod.mk.injEq] at q; exact hx q.1.symm
          have hx' : (px == (j : Int)) = false := by simpa using hx
          go_wp2_with fail
          go_quiet (fail)
          go_wp2
          go_roundw
          case rel => exact ⟨k + 1, false, by omega, by go_num, by first | rfl | simp [hx'], Hb2, below_drewN HBr.out _⟩
          case measure => simp [intOf]; omega
    · obtain rfl : k = N := by omega
      have HTa : Hid (l.take k = l) := by show _ = _; rw [HNl.out]; exact List.take_length
      have HB6 : Hid (Below wc.heap.size wc wr) := HB5.out.trans (HBr.out.mono HB5.out.size)
      have HSm := hid_w (SamePt_at a1 a2 k k cp1 cp2 l wr (HPa5.out.below HBr.out) (HPb.out.below HBr.out) HNl.out HNl.out (by rw [← HNl.out]; omega))
      have hb : b = true := by
        rw [Hb.out, HTa.out]; exact decide_eq_true HIs.out
      subst hb
      go_upto_region 21 with (go_at_call 23; with_reducible (refine HSm.out.mono ?_); rintro e W7 ⟨rfl, HBs⟩)
      have HB7 : Hid (Below wc.heap.size wc W7) := HB6.out.trans (HBs.out.mono HB6.out.size)
      obtain ⟨q0, q1⟩ := HQc.out W7 HB7.out
      have HP1c := hid_w (HP1.out W7)
      go_upto_region 24 with (go_at_call 24; with_reducible (refine HP1c.out.mono ?_); rintro e W8 ⟨rfl, HBu⟩)
      clear q0 q1
      have HB8 : Hid (Below wc.heap.size wc W8) := HB7.out.trans (HBu.out.mono HB7.out.size)
      obtain ⟨q0, q1⟩ := HQc.out W8 HB8.out
      have HP2c := hid_w (HP1.out W8)
      go_wp2_with (go_at_call 24; with_reducible (refine HP2c.out.mono ?_); rintro e W9 ⟨rfl, HBv⟩)
      have HB9 : Hid (Below wc.heap.size wc W9) := HB8.out.trans (HBv.out.mono HB8.out.size)
      go_ret
      exact ⟨rfl, HB0.out.trans (HB9.out.mono HB0.out.size)⟩

set_option maxHeartbeats 8000000 in
set_option maxRecDepth 100000 in
theorem dturns_YN (t : ByteArray) (m : Int) (w : World) (hs : t.size ≤ 4000000000) (hm : w.cell? ⟨0, 0, none⟩ = some (.int .i64 m)) (n : Nat) (hn1 : 1 ≤ n) (hn4 : n ≤ 4) (x y : Int) (hT : ∀ r c, ¬ Til t.data.toList r c) :
    Calls Tryd.prog 4 #[.string t, .agg #[.int .i64 x, .int .i64 y], .int .i64 (n : Int)] w fun e w' => e = .returned (.bool true) ∧ Below w.heap.size w w' := by
  obtain ⟨Q, HQ⟩ : ∃ Q, Hid (Q = w.heap.size) := ⟨_, rfl⟩
  obtain ⟨W0, HW0⟩ : ∃ W0, Hid (W0 = w.alloc (.cells #[.int .i64 x, .int .i64 y] 36)) := ⟨_, rfl⟩
  have HB0 : Hid (Below w.heap.size w W0) := by rw [HW0.out]; exact (Below.refl _ _).alloc (Nat.le_refl _) _
  have HQ0 : Hid (W0.heap[Q]? = some (.cells #[.int .i64 x, .int .i64 y] 36 (0, 0))) := by
    show _ = _
    rw [HW0.out, HQ.out]; exact heap_alloc_last _ _
  have HQc : Hid (∀ W, Below W0.heap.size W0 W → W.cell? ⟨Q, 0, none⟩ = some (.int .i64 x) ∧ W.cell? ⟨Q, 1, none⟩ = some (.int .i64 y)) := fun W hW => by
    have h : W.heap[Q]? = some (.cells #[.int .i64 x, .int .i64 y] 36 (0, 0)) := by rw [hW.block Q (lt_someN HQ0.out)]; exact HQ0.out
    exact ⟨by rw [cell_of_row W Q _ _ _ _ h]; rfl, by rw [cell_of_row W Q _ _ _ _ h]; rfl⟩
  have HM : Hid (∀ W, Below W0.heap.size W0 W → W.cell? ⟨0, 0, none⟩ = some (.int .i64 m)) := fun W hW => by
    have h0 : W0.cell? ⟨0, 0, none⟩ = some (.int .i64 m) := by rw [HW0.out, World.cell?_alloc_past _ _ _ (World.block_lt_of_cell? w ⟨0, 0, none⟩ hm)]; exact hm
    exact (hW.cell (p := ⟨0, 0, none⟩) (World.block_lt_of_cell? W0 _ h0)).trans h0
  have HT := hid_w hT
  obtain ⟨D, HD⟩ : ∃ D : ByteArray, Hid (D = ⟨(tx (2 * n) (2 * n) (dmF n)).toArray⟩) := ⟨_, rfl⟩
  have HAz : Hid (Calls Tryd.prog 18 #[.int .i64 (n : Int)] W0 fun e w' => e = .returned (.tuple #[.string D, .int .i64 0]) ∧ Hid (Below W0.heap.size W0 w')) := by rw [HD.out]; exact Aztec_ok n W0 hn1 hn4
  have HDm : Hid (∀ W, Calls Tryd.prog 19 #[.int .i64 (n : Int)] W fun e w' => e = .returned (.string D) ∧ w' = W) := fun W => by rw [HD.out]; exact Diamond_at n W hn1 hn4
  have g1 : ¬ ((n : Int) < 1) := by omega
  have g2 : ¬ ((n : Int) > 4) := by omega
  have HsT := hid_w hs
  have HFl : Hid (∀ W, Hid (Below W0.heap.size W0 W) → Calls Tryd.prog 20 #[.string t] W fun e w' => e = .returned (.tuple #[.slice none 0 0, .int .i64 1]) ∧ Hid (Below W.heap.size W w')) := fun W hW => Flips_no t m W HsT.out (HM.out W hW.out) HT.out
  have HFp : Hid (∀ W, Hid (Below W0.heap.size W0 W) → Calls Tryd.prog 21 #[.string t, .agg #[.int .i64 x, .int .i64 y]] W fun e w' => e = .returned (.tuple #[.string ⟨#[]⟩, .int .i64 1]) ∧ Hid (Below W.heap.size W w')) := fun W hW => Flip_no t m W HsT.out (HM.out W hW.out) x y HT.out
  have HLd : Hid (∀ W, Hid (Below W0.heap.size W0 W) → Calls Tryd.prog 11 #[.string t] W fun e w' => e = .returned (.bool false) ∧ Hid (Below W.heap.size W w')) := fun W hW => Laid_no t m W HsT.out (HM.out W hW.out) HT.out
  clear hT hm hs
  go_enter Tryd.func4, Tryd.ntmps4
  go_upto_region 1 with fail
  rw [← HQ.out, ← HW0.out]
  go_upto_region 2 with (go_at_call 18; with_reducible (refine HAz.out.mono ?_); rintro e W1 ⟨rfl, HB1⟩)
  have HDc := hid_w (HDm.out W1)
  have HFc := hid_w (HFl.out _ HB1)
  go_upto_region 8 with (first | (go_at_call 19; with_reducible (refine HDc.out.mono ?_); rintro e v1 ⟨rfl, rfl⟩) | (go_at_call 20; with_reducible (refine HFc.out.mono ?_); rintro e W2 ⟨rfl, HBa⟩))
  have HB2 : Hid (Below W0.heap.size W0 W2) := HB1.out.trans (HBa.out.mono HB1.out.size)
  obtain ⟨q0, q1⟩ := HQc.out W2 HB2.out
  have HFd := hid_w (HFp.out W2 HB2)
  go_upto_region 9 with (go_at_call 21; with_reducible (refine HFd.out.mono ?_); rintro e W3 ⟨rfl, HBb⟩)
  clear q0 q1
  have HB3 : Hid (Below W0.heap.size W0 W3) := HB2.out.trans (HBb.out.mono HB2.out.size)
  have HLc := hid_w (HLd.out W3 HB3)
  go_wp2_with (go_at_call 11; with_reducible (refine HLc.out.mono ?_); rintro e W4 ⟨rfl, HBc⟩)
  go_ret
  exact ⟨rfl, HB0.out.trans ((HB3.out.trans (HBc.out.mono HB3.out.size)).mono HB0.out.size)⟩

set_option maxHeartbeats 8000000 in
set_option maxRecDepth 100000 in
theorem dturns_YF (t : ByteArray) (m : Int) (w : World) (hs : t.size ≤ 4000000000) (hm : w.cell? ⟨0, 0, none⟩ = some (.int .i64 m)) (n : Nat) (hn1 : 1 ≤ n) (hn4 : n ≤ 4) (x y : Int) (r c : Nat) (hT : Til t.data.toList (r + 1) (c + 1)) (hf : (x, y) ∉ blP t.data.toList r c) :
    Calls Tryd.prog 4 #[.string t, .agg #[.int .i64 x, .int .i64 y], .int .i64 (n : Int)] w fun e w' => e = .returned (.bool true) ∧ Below w.heap.size w w' := by
  obtain ⟨Q, HQ⟩ : ∃ Q, Hid (Q = w.heap.size) := ⟨_, rfl⟩
  obtain ⟨W0, HW0⟩ : ∃ W0, Hid (W0 = w.alloc (.cells #[.int .i64 x, .int .i64 y] 36)) := ⟨_, rfl⟩
  have HB0 : Hid (Below w.heap.size w W0) := by rw [HW0.out]; exact (Below.refl _ _).alloc (Nat.le_refl _) _
  have HQ0 : Hid (W0.heap[Q]? = some (.cells #[.int .i64 x, .int .i64 y] 36 (0, 0))) := by
    show _ = _
    rw [HW0.out, HQ.out]; exact heap_alloc_last _ _
  have HQc : Hid (∀ W, Below W0.heap.size W0 W → W.cell? ⟨Q, 0, none⟩ = some (.int .i64 x) ∧ W.cell? ⟨Q, 1, none⟩ = some (.int .i64 y)) := fun W hW => by
    have h : W.heap[Q]? = some (.cells #[.int .i64 x, .int .i64 y] 36 (0, 0)) := by rw [hW.block Q (lt_someN HQ0.out)]; exact HQ0.out
    exact ⟨by rw [cell_of_row W Q _ _ _ _ h]; rfl, by rw [cell_of_row W Q _ _ _ _ h]; rfl⟩
  have HM : Hid (∀ W, Below W0.heap.size W0 W → W.cell? ⟨0, 0, none⟩ = some (.int .i64 m)) := fun W hW => by
    have h0 : W0.cell? ⟨0, 0, none⟩ = some (.int .i64 m) := by rw [HW0.out, World.cell?_alloc_past _ _ _ (World.block_lt_of_cell? w ⟨0, 0, none⟩ hm)]; exact hm
    exact (hW.cell (p := ⟨0, 0, none⟩) (World.block_lt_of_cell? W0 _ h0)).trans h0
  have HT := hid_w hT
  obtain ⟨l, HL⟩ : ∃ l, Hid (l = blP t.data.toList r c) := ⟨_, rfl⟩
  obtain ⟨N, HN⟩ : ∃ N, Hid (N = (blP t.data.toList r c).length) := ⟨_, rfl⟩
  have hN64 : N ≤ 64 := by rw [HN.out]; exact blP_len hT
  have HNl : Hid (N = l.length) := by show _ = _; rw [HN.out, HL.out]
  have HIs : Hid ((x, y) ∉ l) := by show _ ∉ _; rw [HL.out]; exact hf
  have HF := hid_w hf
  obtain ⟨D, HD⟩ : ∃ D : ByteArray, Hid (D = ⟨(tx (2 * n) (2 * n) (dmF n)).toArray⟩) := ⟨_, rfl⟩
  have HAz : Hid (Calls Tryd.prog 18 #[.int .i64 (n : Int)] W0 fun e w' => e = .returned (.tuple #[.string D, .int .i64 0]) ∧ Hid (Below W0.heap.size W0 w')) := by rw [HD.out]; exact Aztec_ok n W0 hn1 hn4
  have HDm : Hid (∀ W, Calls Tryd.prog 19 #[.int .i64 (n : Int)] W fun e w' => e = .returned (.string D) ∧ w' = W) := fun W => by rw [HD.out]; exact Diamond_at n W hn1 hn4
  have g1 : ¬ ((n : Int) < 1) := by omega
  have g2 : ¬ ((n : Int) > 4) := by omega
  have HsT := hid_w hs
  have HFl : Hid (∀ W, Hid (Below W0.heap.size W0 W) → Calls Tryd.prog 20 #[.string t] W fun e w' => ∃ a cp, e = .returned (.tuple #[.slice a N cp, .int .i64 0]) ∧ Hid (PtI w' a l) ∧ Hid (Below W.heap.size W w')) := fun W hW => by
    rw [HL.out]; exact Flips_ok t m W HsT.out (HM.out W hW.out) r c HT.out N HN.out
  have HFp : Hid (∀ W, Hid (Below W0.heap.size W0 W) → Calls Tryd.prog 21 #[.string t, .agg #[.int .i64 x, .int .i64 y]] W fun e w' => e = .returned (.tuple #[.string ⟨#[]⟩, .int .i64 5]) ∧ Hid (Below W.heap.size W w')) := fun W hW => Flip_off t m W HsT.out (HM.out W hW.out) x y r c HT.out HF.out
  have HLd : Hid (∀ W, Hid (Below W0.heap.size W0 W) → Calls Tryd.prog 11 #[.string t] W fun e w' => e = .returned (.bool true) ∧ Hid (Below W.heap.size W w')) := fun W hW => Laid_ok t m W HsT.out (HM.out W hW.out) (r + 1) (c + 1) HT.out
  have HBk : Hid (∀ W, Hid (Below W0.heap.size W0 W) → Calls Tryd.prog 22 #[.string t] W fun e w' => ∃ a cp, e = .returned (.slice a N cp) ∧ Hid (PtI w' a l) ∧ Hid (Below W.heap.size W w')) := fun W hW => by
    rw [HL.out]; exact Blocks_ok t m W (HM.out W hW.out) r c HT.out N HN.out
  clear hT hm hs hf
  go_enter Tryd.func4, Tryd.ntmps4
  go_upto_region 1 with fail
  rw [← HQ.out, ← HW0.out]
  go_upto_region 2 with (go_at_call 18; with_reducible (refine HAz.out.mono ?_); rintro e W1 ⟨rfl, HB1⟩)
  have HDc := hid_w (HDm.out W1)
  have HFc := hid_w (HFl.out _ HB1)
  go_upto_region 8 with (first | (go_at_call 19; with_reducible (refine HDc.out.mono ?_); rintro e v1 ⟨rfl, rfl⟩) | (go_at_call 20; with_reducible (refine HFc.out.mono ?_); rintro e W2 ⟨a1, cp1, rfl, HPa, HBa⟩))
  have HB2 : Hid (Below W0.heap.size W0 W2) := HB1.out.trans (HBa.out.mono HB1.out.size)
  obtain ⟨q0, q1⟩ := HQc.out W2 HB2.out
  have HFd := hid_w (HFp.out W2 HB2)
  go_upto_region 9 with (go_at_call 21; with_reducible (refine HFd.out.mono ?_); rintro e W3 ⟨rfl, HBb⟩)
  clear q0 q1
  have HB3 : Hid (Below W0.heap.size W0 W3) := HB2.out.trans (HBb.out.mono HB2.out.size)
  have HLc := hid_w (HLd.out W3 HB3)
  go_upto_region 11 with (go_at_call 11; with_reducible (refine HLc.out.mono ?_); rintro e W4 ⟨rfl, HBc⟩)
  have HB4 : Hid (Below W0.heap.size W0 W4) := HB3.out.trans (HBc.out.mono HB3.out.size)
  have HBkc := hid_w (HBk.out W4 HB4)
  go_upto_region 12 with (go_at_call 22; with_reducible (refine HBkc.out.mono ?_); rintro e W5 ⟨a2, cp2, rfl, HPb, HBd⟩)
  have HB5 : Hid (Below W0.heap.size W0 W5) := HB4.out.trans (HBd.out.mono HB4.out.size)
  have HPa5 : Hid (PtI W5 a1 l) := ((HPa.out.below HBb.out).below HBc.out).below HBd.out
  clear HPa HBa HBb HBc HBd HFc HFd HLc HBkc
  go_wp2_with fail
  go_loopw [14, 75] (fun bv v wr => ∃ (k : Nat) (b : Bool), k ≤ N ∧ v = .int .i64 (k : Int) ∧ bv = .bool b ∧ Hid (b = decide ((x, y) ∈ l.take k)) ∧ Hid (Below W5.heap.size W5 wr)) (fun _ v _ => N - (intOf v).toNat)
  case atStart => exact ⟨0, false, Nat.zero_le _, rfl, rfl, by show _ = _; simp, Below.refl _ _⟩
  case round =>
    obtain ⟨k, b, hk, rfl, rfl, Hb, HBr⟩ := hrel
    by_cases hlt : k < N
    · have hlt' : (k : Int) < (N : Int) := by omega
      have hkl : k < l.length := by rw [← HNl.out]; exact hlt
      obtain ⟨px, py, HXY⟩ : ∃ px py, Hid (l.getD k (0, 0) = (px, py)) := ⟨_, _, rfl⟩
      have HTk : Hid (l.take (k + 1) = l.take k ++ [(px, py)]) := by
        show _ = _
        rw [List.take_add_one, ← HXY.out]; simp [List.getD, hkl]
      obtain ⟨b2, o2, rfl, -, k0, k1⟩ := (HPb.out.below HBr.out) k hkl
      rw [HXY.out] at k0 k1
      obtain ⟨q0, q1⟩ := HQc.out wr (HB5.out.trans (HBr.out.mono HB5.out.size))
      cases b with
      | true =>
        have Hb2 : Hid (true = decide ((x, y) ∈ l.take (k + 1))) := by
          show _ = _
          rw [HTk.out]
          exact (decide_eq_true (List.mem_append_left _ (of_decide_eq_true Hb.out.symm))).symm
        go_wp2_with fail
        go_quiet (fail)
        go_wp2
        go_roundw
        case rel => exact ⟨k + 1, true, by omega, by go_num, rfl, Hb2, below_drewN HBr.out _⟩
        case measure => simp [intOf]; omega
      | false =>
        have hno : (x, y) ∉ l.take k := of_decide_eq_false Hb.out.symm
        by_cases hx : px = x
        · by_cases hy : py = y
          · have Hb2 : Hid (true = decide ((x, y) ∈ l.take (k + 1))) := by
              show _ = _
              rw [HTk.out, hx, hy]
              exact (decide_eq_true (List.mem_append_right _ (by simp))).symm
            subst hx
            subst hy
            go_wp2_with fail
            go_quiet (fail)
            go_wp2
            go_roundw
            case rel => exact ⟨k + 1, true, by omega, by go_num, rfl, Hb2, below_drewN HBr.out _⟩
            case measure => simp [intOf]; omega
          · have Hb2 : Hid (false = decide ((x, y) ∈ l.take (k + 1))) := by
              show _ = _
              rw [HTk.out]
              refine (decide_eq_false (fun q => ?_)).symm
              rcases List.mem_append.1 q with q | q
              · exact hno q
              · simp only [List.mem_singleton, Prod.mk.injEq] at q; exact hy q.2.symm
            have hy' : (py == y) = false := by simpa using hy
            subst hx
            go_wp2_with fail
            go_quiet (fail)
            go_wp2
            go_roundw
            case rel => exact ⟨k + 1, false, by omega, by go_num, by first | rfl | simp [hy'], Hb2, below_drewN HBr.out _⟩
            case measure => simp [intOf]; omega
        · have Hb2 : Hid (false = decide ((x, y) ∈ l.take (k + 1))) := by
            show _ = _
            rw [HTk.out]
            refine (decide_eq_false (fun q => ?_)).symm
            rcases List.mem_append.1 q with q | q
            · exact hno q
            · simp only [List.mem_singleton, Prod.mk.injEq] at q; exact hx q.1.symm
          have hx' : (px == x) = false := by simpa using hx
          go_wp2_with fail
          go_quiet (fail)
          go_wp2
          go_roundw
          case rel => exact ⟨k + 1, false, by omega, by go_num, by first | rfl | simp [hx'], Hb2, below_drewN HBr.out _⟩
          case measure => simp [intOf]; omega
    · obtain rfl : k = N := by omega
      have HTa : Hid (l.take k = l) := by show _ = _; rw [HNl.out]; exact List.take_length
      have HB6 : Hid (Below W0.heap.size W0 wr) := HB5.out.trans (HBr.out.mono HB5.out.size)
      have HSm := hid_w (SamePt_at a1 a2 k k cp1 cp2 l wr (HPa5.out.below HBr.out) (HPb.out.below HBr.out) HNl.out HNl.out (by rw [← HNl.out]; omega))
      have hb : b = false := by
        rw [Hb.out, HTa.out]; exact decide_eq_false HIs.out
      subst hb
      go_wp2_with (go_at_call 23; with_reducible (refine HSm.out.mono ?_); rintro e W7 ⟨rfl, HBs⟩)
      have HB7 : Hid (Below W0.heap.size W0 W7) := HB6.out.trans (HBs.out.mono HB6.out.size)
      go_ret
      exact ⟨rfl, HB0.out.trans (HB7.out.mono HB0.out.size)⟩

set_option maxHeartbeats 8000000 in
set_option maxRecDepth 100000 in
theorem dturns_YL (t : ByteArray) (m : Int) (w : World) (hs : t.size ≤ 4000000000) (hm : w.cell? ⟨0, 0, none⟩ = some (.int .i64 m)) (n : Nat) (hn1 : 1 ≤ n) (hn4 : n ≤ 4) (i j r c : Nat) (hT : Til t.data.toList (r + 1) (c + 1)) (hi : i < r) (hj : j < c) (hq : qR (cef (pz t.data.toList)) i j = true) (hc : (cef (pz t.data.toList) (i * 8 + j) == 108) = true) :
    Calls Tryd.prog 4 #[.string t, .agg #[.int .i64 (j : Int), .int .i64 (i : Int)], .int .i64 (n : Int)] w fun e w' => e = .returned (.bool true) ∧ Below w.heap.size w w' := by
  obtain ⟨Q, HQ⟩ : ∃ Q, Hid (Q = w.heap.size) := ⟨_, rfl⟩
  obtain ⟨W0, HW0⟩ : ∃ W0, Hid (W0 = w.alloc (.cells #[.int .i64 (j : Int), .int .i64 (i : Int)] 36)) := ⟨_, rfl⟩
  have HB0 : Hid (Below w.heap.size w W0) := by rw [HW0.out]; exact (Below.refl _ _).alloc (Nat.le_refl _) _
  have HQ0 : Hid (W0.heap[Q]? = some (.cells #[.int .i64 (j : Int), .int .i64 (i : Int)] 36 (0, 0))) := by
    show _ = _
    rw [HW0.out, HQ.out]; exact heap_alloc_last _ _
  have HQc : Hid (∀ W, Below W0.heap.size W0 W → W.cell? ⟨Q, 0, none⟩ = some (.int .i64 (j : Int)) ∧ W.cell? ⟨Q, 1, none⟩ = some (.int .i64 (i : Int))) := fun W hW => by
    have h : W.heap[Q]? = some (.cells #[.int .i64 (j : Int), .int .i64 (i : Int)] 36 (0, 0)) := by rw [hW.block Q (lt_someN HQ0.out)]; exact HQ0.out
    exact ⟨by rw [cell_of_row W Q _ _ _ _ h]; rfl, by rw [cell_of_row W Q _ _ _ _ h]; rfl⟩
  have HM : Hid (∀ W, Below W0.heap.size W0 W → W.cell? ⟨0, 0, none⟩ = some (.int .i64 m)) := fun W hW => by
    have h0 : W0.cell? ⟨0, 0, none⟩ = some (.int .i64 m) := by rw [HW0.out, World.cell?_alloc_past _ _ _ (World.block_lt_of_cell? w ⟨0, 0, none⟩ hm)]; exact hm
    exact (hW.cell (p := ⟨0, 0, none⟩) (World.block_lt_of_cell? W0 _ h0)).trans h0
  have HT := hid_w hT
  obtain ⟨l, HL⟩ : ∃ l, Hid (l = blP t.data.toList r c) := ⟨_, rfl⟩
  obtain ⟨N, HN⟩ : ∃ N, Hid (N = (blP t.data.toList r c).length) := ⟨_, rfl⟩
  have hN64 : N ≤ 64 := by rw [HN.out]; exact blP_len hT
  have HNl : Hid (N = l.length) := by show _ = _; rw [HN.out, HL.out]
  obtain ⟨u, HU⟩ : ∃ u : ByteArray, Hid (u = ⟨(tx (r + 1) (c + 1) (cvF (cef (pz t.data.toList)) i j true)).toArray⟩) := ⟨_, rfl⟩
  obtain ⟨p, HP⟩ : ∃ p : ByteArray, Hid (p = ⟨(tx (r + 1) (c + 1) (cvF (cef (pz t.data.toList)) i j false)).toArray⟩) := ⟨_, rfl⟩
  have hpt := put_stays hT hi hj hq p HP.out
  have HIs : Hid (((j : Int), (i : Int)) ∈ l) := by show _ ∈ _; rw [HL.out]; exact (mem_flp _ _ _ _ _).2 ⟨i, j, hi, hj, hq, rfl, rfl⟩
  have HIJ := hid_w (And.intro hi (And.intro hj (And.intro hq hc)))
  obtain rfl : p = t := hpt.2 hc
  obtain ⟨D, HD⟩ : ∃ D : ByteArray, Hid (D = ⟨(tx (2 * n) (2 * n) (dmF n)).toArray⟩) := ⟨_, rfl⟩
  have HAz : Hid (Calls Tryd.prog 18 #[.int .i64 (n : Int)] W0 fun e w' => e = .returned (.tuple #[.string D, .int .i64 0]) ∧ Hid (Below W0.heap.size W0 w')) := by rw [HD.out]; exact Aztec_ok n W0 hn1 hn4
  have HDm : Hid (∀ W, Calls Tryd.prog 19 #[.int .i64 (n : Int)] W fun e w' => e = .returned (.string D) ∧ w' = W) := fun W => by rw [HD.out]; exact Diamond_at n W hn1 hn4
  have g1 : ¬ ((n : Int) < 1) := by omega
  have g2 : ¬ ((n : Int) > 4) := by omega
  have HsT := hid_w hs
  have HFl : Hid (∀ W, Hid (Below W0.heap.size W0 W) → Calls Tryd.prog 20 #[.string p] W fun e w' => ∃ a cp, e = .returned (.tuple #[.slice a N cp, .int .i64 0]) ∧ Hid (PtI w' a l) ∧ Hid (Below W.heap.size W w')) := fun W hW => by
    rw [HL.out]; exact Flips_ok p m W HsT.out (HM.out W hW.out) r c HT.out N HN.out
  have HFp : Hid (∀ W, Hid (Below W0.heap.size W0 W) → Calls Tryd.prog 21 #[.string p, .agg #[.int .i64 (j : Int), .int .i64 (i : Int)]] W fun e w' => e = .returned (.tuple #[.string u, .int .i64 0]) ∧ Hid (Below W.heap.size W w')) := fun W hW => Flip_on p m W HsT.out (HM.out W hW.out) i j r c HT.out HIJ.out.1 HIJ.out.2.1 HIJ.out.2.2.1 true HIJ.out.2.2.2.symm u HU.out
  have HP1 : Hid (∀ W, Calls Tryd.prog 24 #[.string p, .int .i64 (j : Int), .int .i64 (i : Int), .string ⟨#[108, 114, 108, 114]⟩] W fun e w' => e = .returned (.string p) ∧ Hid (Below W.heap.size W w')) := fun W => Put_lie p i j r c W HT.out HIJ.out.1 HIJ.out.2.1 p HP.out
  have HP2 : Hid (∀ W, Calls Tryd.prog 24 #[.string p, .int .i64 (j : Int), .int .i64 (i : Int), .string ⟨#[117, 117, 100, 100]⟩] W fun e w' => e = .returned (.string u) ∧ Hid (Below W.heap.size W w')) := fun W => Put_std p i j r c W HT.out HIJ.out.1 HIJ.out.2.1 u HU.out
  have HLd : Hid (∀ W, Hid (Below W0.heap.size W0 W) → Calls Tryd.prog 11 #[.string p] W fun e w' => e = .returned (.bool true) ∧ Hid (Below W.heap.size W w')) := fun W hW => Laid_ok p m W HsT.out (HM.out W hW.out) (r + 1) (c + 1) HT.out
  have HBk : Hid (∀ W, Hid (Below W0.heap.size W0 W) → Calls Tryd.prog 22 #[.string p] W fun e w' => ∃ a cp, e = .returned (.slice a N cp) ∧ Hid (PtI w' a l) ∧ Hid (Below W.heap.size W w')) := fun W hW => by
    rw [HL.out]; exact Blocks_ok p m W (HM.out W hW.out) r c HT.out N HN.out
  clear hT hm hs hq hc hpt hi hj
  go_enter Tryd.func4, Tryd.ntmps4
  go_upto_region 1 with fail
  rw [← HQ.out, ← HW0.out]
  go_upto_region 2 with (go_at_call 18; with_reducible (refine HAz.out.mono ?_); rintro e W1 ⟨rfl, HB1⟩)
  have HDc := hid_w (HDm.out W1)
  have HFc := hid_w (HFl.out _ HB1)
  go_upto_region 8 with (first | (go_at_call 19; with_reducible (refine HDc.out.mono ?_); rintro e v1 ⟨rfl, rfl⟩) | (go_at_call 20; with_reducible (refine HFc.out.mono ?_); rintro e W2 ⟨a1, cp1, rfl, HPa, HBa⟩))
  have HB2 : Hid (Below W0.heap.size W0 W2) := HB1.out.trans (HBa.out.mono HB1.out.size)
  obtain ⟨q0, q1⟩ := HQc.out W2 HB2.out
  have HFd := hid_w (HFp.out W2 HB2)
  go_upto_region 9 with (go_at_call 21; with_reducible (refine HFd.out.mono ?_); rintro e W3 ⟨rfl, HBb⟩)
  clear q0 q1
  have HB3 : Hid (Below W0.heap.size W0 W3) := HB2.out.trans (HBb.out.mono HB2.out.size)
  have HLc := hid_w (HLd.out W3 HB3)
  go_upto_region 11 with (go_at_call 11; with_reducible (refine HLc.out.mono ?_); rintro e W4 ⟨rfl, HBc⟩)
  have HB4 : Hid (Below W0.heap.size W0 W4) := HB3.out.trans (HBc.out.mono HB3.out.size)
  have HBkc := hid_w (HBk.out W4 HB4)
  go_upto_region 12 with (go_at_call 22; with_reducible (refine HBkc.out.mono ?_); rintro e W5 ⟨a2, cp2, rfl, HPb, HBd⟩)
  have HB5 : Hid (Below W0.heap.size W0 W5) := HB4.out.trans (HBd.out.mono HB4.out.size)
  have HPa5 : Hid (PtI W5 a1 l) := ((HPa.out.below HBb.out).below HBc.out).below HBd.out
  clear HPa HBa HBb HBc HBd HFc HFd HLc HBkc
  go_wp2_with fail
  go_loopw [14, 75] (fun bv v wr => ∃ (k : Nat) (b : Bool), k ≤ N ∧ v = .int .i64 (k : Int) ∧ bv = .bool b ∧ Hid (b = decide (((j : Int), (i : Int)) ∈ l.take k)) ∧ Hid (Below W5.heap.size W5 wr)) (fun _ v _ => N - (intOf v).toNat)
  case atStart => exact ⟨0, false, Nat.zero_le _, rfl, rfl, by show _ = _; simp, Below.refl _ _⟩
  case round =>
    obtain ⟨k, b, hk, rfl, rfl, Hb, HBr⟩ := hrel
    by_cases hlt : k < N
    · have hlt' : (k : Int) < (N : Int) := by omega
      have hkl : k < l.length := by rw [← HNl.out]; exact hlt
      obtain ⟨px, py, HXY⟩ : ∃ px py, Hid (l.getD k (0, 0) = (px, py)) := ⟨_, _, rfl⟩
      have HTk : Hid (l.take (k + 1) = l.take k ++ [(px, py)]) := by
        show _ = _
        rw [List.take_add_one, ← HXY.out]; simp [List.getD, hkl]
      obtain ⟨b2, o2, rfl, -, k0, k1⟩ := (HPb.out.below HBr.out) k hkl
      rw [HXY.out] at k0 k1
      obtain ⟨q0, q1⟩ := HQc.out wr (HB5.out.trans (HBr.out.mono HB5.out.size))
      cases b with
      | true =>
        have Hb2 : Hid (true = decide (((j : Int), (i : Int)) ∈ l.take (k + 1))) := by
          show _ = _
          rw [HTk.out]
          exact (decide_eq_true (List.mem_append_left _ (of_decide_eq_true Hb.out.symm))).symm
        go_wp2_with fail
        go_quiet (fail)
        go_wp2
        go_roundw
        case rel => exact ⟨k + 1, true, by omega, by go_num, rfl, Hb2, below_drewN HBr.out _⟩
        case measure => simp [intOf]; omega
      | false =>
        have hno : ((j : Int), (i : Int)) ∉ l.take k := of_decide_eq_false Hb.out.symm
        by_cases hx : px = (j : Int)
        · by_cases hy : py = (i : Int)
          · have Hb2 : Hid (true = decide (((j : Int), (i : Int)) ∈ l.take (k + 1))) := by
              show _ = _
              rw [HTk.out, hx, hy]
              exact (decide_eq_true (List.mem_append_right _ (by simp))).symm
            subst hx
            subst hy
            go_wp2_with fail
            go_quiet (fail)
            go_wp2
            go_roundw
            case rel => exact ⟨k + 1, true, by omega, by go_num, rfl, Hb2, below_drewN HBr.out _⟩
            case measure => simp [intOf]; omega
          · have Hb2 : Hid (false = decide (((j : Int), (i : Int)) ∈ l.take (k + 1))) := by
              show _ = _
              rw [HTk.out]
              refine (decide_eq_false (fun q => ?_)).symm
              rcases List.mem_append.1 q with q | q
              · exact hno q
              · simp only [List.mem_singleton, Prod.mk.injEq] at q; exact hy q.2.symm
            have hy' : (py == (i : Int)) = false := by simpa using hy
            subst hx
            go_wp2_with fail
            go_quiet (fail)
            go_wp2
            go_roundw
            case rel => exact ⟨k + 1, false, by omega, by go_num, by first | rfl | simp [hy'], Hb2, below_drewN HBr.out _⟩
            case measure => simp [intOf]; omega
        · have Hb2 : Hid (false = decide (((j : Int), (i : Int)) ∈ l.take (k + 1))) := by
            show _ = _
            rw [HTk.out]
            refine (decide_eq_false (fun q => ?_)).symm
            rcases List.mem_append.1 q with q | q
            · exact hno q
            · simp only [List.mem_singleton, Prod.mk.injEq] at q; exact hx q.1.symm
          have hx' : (px == (j : Int)) = false := by simpa using hx
          go_wp2_with fail
          go_quiet (fail)
          go_wp2
          go_roundw
          case rel => exact ⟨k + 1, false, by omega, by go_num, by first | rfl | simp [hx'], Hb2, below_drewN HBr.out _⟩
          case measure => simp [intOf]; omega
    · obtain rfl : k = N := by omega
      have HTa : Hid (l.take k = l) := by show _ = _; rw [HNl.out]; exact List.take_length
      have HB6 : Hid (Below W0.heap.size W0 wr) := HB5.out.trans (HBr.out.mono HB5.out.size)
      have HSm := hid_w (SamePt_at a1 a2 k k cp1 cp2 l wr (HPa5.out.below HBr.out) (HPb.out.below HBr.out) HNl.out HNl.out (by rw [← HNl.out]; omega))
      have hb : b = true := by
        rw [Hb.out, HTa.out]; exact decide_eq_true HIs.out
      subst hb
      go_upto_region 21 with (go_at_call 23; with_reducible (refine HSm.out.mono ?_); rintro e W7 ⟨rfl, HBs⟩)
      have HB7 : Hid (Below W0.heap.size W0 W7) := HB6.out.trans (HBs.out.mono HB6.out.size)
      obtain ⟨q0, q1⟩ := HQc.out W7 HB7.out
      have HP1c := hid_w (HP1.out W7)
      go_upto_region 24 with (go_at_call 24; with_reducible (refine HP1c.out.mono ?_); rintro e W8 ⟨rfl, HBu⟩)
      clear q0 q1
      have HB8 : Hid (Below W0.heap.size W0 W8) := HB7.out.trans (HBu.out.mono HB7.out.size)
      obtain ⟨q0, q1⟩ := HQc.out W8 HB8.out
      have HP2c := hid_w (HP2.out W8)
      go_wp2_with (go_at_call 24; with_reducible (refine HP2c.out.mono ?_); rintro e W9 ⟨rfl, HBv⟩)
      have HB9 : Hid (Below W0.heap.size W0 W9) := HB8.out.trans (HBv.out.mono HB8.out.size)
      go_ret
      exact ⟨rfl, HB0.out.trans (HB9.out.mono HB0.out.size)⟩

set_option maxHeartbeats 8000000 in
set_option maxRecDepth 100000 in
theorem dturns_YU (t : ByteArray) (m : Int) (w : World) (hs : t.size ≤ 4000000000) (hm : w.cell? ⟨0, 0, none⟩ = some (.int .i64 m)) (n : Nat) (hn1 : 1 ≤ n) (hn4 : n ≤ 4) (i j r c : Nat) (hT : Til t.data.toList (r + 1) (c + 1)) (hi : i < r) (hj : j < c) (hq : qR (cef (pz t.data.toList)) i j = true) (hc : (cef (pz t.data.toList) (i * 8 + j) == 108) = false) :
    Calls Tryd.prog 4 #[.string t, .agg #[.int .i64 (j : Int), .int .i64 (i : Int)], .int .i64 (n : Int)] w fun e w' => e = .returned (.bool true) ∧ Below w.heap.size w w' := by
  obtain ⟨Q, HQ⟩ : ∃ Q, Hid (Q = w.heap.size) := ⟨_, rfl⟩
  obtain ⟨W0, HW0⟩ : ∃ W0, Hid (W0 = w.alloc (.cells #[.int .i64 (j : Int), .int .i64 (i : Int)] 36)) := ⟨_, rfl⟩
  have HB0 : Hid (Below w.heap.size w W0) := by rw [HW0.out]; exact (Below.refl _ _).alloc (Nat.le_refl _) _
  have HQ0 : Hid (W0.heap[Q]? = some (.cells #[.int .i64 (j : Int), .int .i64 (i : Int)] 36 (0, 0))) := by
    show _ = _
    rw [HW0.out, HQ.out]; exact heap_alloc_last _ _
  have HQc : Hid (∀ W, Below W0.heap.size W0 W → W.cell? ⟨Q, 0, none⟩ = some (.int .i64 (j : Int)) ∧ W.cell? ⟨Q, 1, none⟩ = some (.int .i64 (i : Int))) := fun W hW => by
    have h : W.heap[Q]? = some (.cells #[.int .i64 (j : Int), .int .i64 (i : Int)] 36 (0, 0)) := by rw [hW.block Q (lt_someN HQ0.out)]; exact HQ0.out
    exact ⟨by rw [cell_of_row W Q _ _ _ _ h]; rfl, by rw [cell_of_row W Q _ _ _ _ h]; rfl⟩
  have HM : Hid (∀ W, Below W0.heap.size W0 W → W.cell? ⟨0, 0, none⟩ = some (.int .i64 m)) := fun W hW => by
    have h0 : W0.cell? ⟨0, 0, none⟩ = some (.int .i64 m) := by rw [HW0.out, World.cell?_alloc_past _ _ _ (World.block_lt_of_cell? w ⟨0, 0, none⟩ hm)]; exact hm
    exact (hW.cell (p := ⟨0, 0, none⟩) (World.block_lt_of_cell? W0 _ h0)).trans h0
  have HT := hid_w hT
  obtain ⟨l, HL⟩ : ∃ l, Hid (l = blP t.data.toList r c) := ⟨_, rfl⟩
  obtain ⟨N, HN⟩ : ∃ N, Hid (N = (blP t.data.toList r c).length) := ⟨_, rfl⟩
  have hN64 : N ≤ 64 := by rw [HN.out]; exact blP_len hT
  have HNl : Hid (N = l.length) := by show _ = _; rw [HN.out, HL.out]
  obtain ⟨u, HU⟩ : ∃ u : ByteArray, Hid (u = ⟨(tx (r + 1) (c + 1) (cvF (cef (pz t.data.toList)) i j false)).toArray⟩) := ⟨_, rfl⟩
  obtain ⟨p, HP⟩ : ∃ p : ByteArray, Hid (p = ⟨(tx (r + 1) (c + 1) (cvF (cef (pz t.data.toList)) i j false)).toArray⟩) := ⟨_, rfl⟩
  have hpt := put_stays hT hi hj hq p HP.out
  have HIs : Hid (((j : Int), (i : Int)) ∈ l) := by show _ ∈ _; rw [HL.out]; exact (mem_flp _ _ _ _ _).2 ⟨i, j, hi, hj, hq, rfl, rfl⟩
  have HIJ := hid_w (And.intro hi (And.intro hj (And.intro hq hc)))
  obtain ⟨hpn1, hpn2⟩ : (p.toList == t.toList) = false ∧ ¬ p.toList = t.toList := by
    have h : ¬ p.data.toList = t.data.toList := fun e => by
      have := hpt.1 (ba_extN e)
      rw [hc] at this; cases this
    have := ba_neql h
    rw [ByteArray.toList_eq t]; exact this
  have hpu : p = u := HP.out.trans HU.out.symm
  subst hpu
  obtain ⟨D, HD⟩ : ∃ D : ByteArray, Hid (D = ⟨(tx (2 * n) (2 * n) (dmF n)).toArray⟩) := ⟨_, rfl⟩
  have HAz : Hid (Calls Tryd.prog 18 #[.int .i64 (n : Int)] W0 fun e w' => e = .returned (.tuple #[.string D, .int .i64 0]) ∧ Hid (Below W0.heap.size W0 w')) := by rw [HD.out]; exact Aztec_ok n W0 hn1 hn4
  have HDm : Hid (∀ W, Calls Tryd.prog 19 #[.int .i64 (n : Int)] W fun e w' => e = .returned (.string D) ∧ w' = W) := fun W => by rw [HD.out]; exact Diamond_at n W hn1 hn4
  have g1 : ¬ ((n : Int) < 1) := by omega
  have g2 : ¬ ((n : Int) > 4) := by omega
  have HsT := hid_w hs
  have HFl : Hid (∀ W, Hid (Below W0.heap.size W0 W) → Calls Tryd.prog 20 #[.string t] W fun e w' => ∃ a cp, e = .returned (.tuple #[.slice a N cp, .int .i64 0]) ∧ Hid (PtI w' a l) ∧ Hid (Below W.heap.size W w')) := fun W hW => by
    rw [HL.out]; exact Flips_ok t m W HsT.out (HM.out W hW.out) r c HT.out N HN.out
  have HFp : Hid (∀ W, Hid (Below W0.heap.size W0 W) → Calls Tryd.prog 21 #[.string t, .agg #[.int .i64 (j : Int), .int .i64 (i : Int)]] W fun e w' => e = .returned (.tuple #[.string p, .int .i64 0]) ∧ Hid (Below W.heap.size W w')) := fun W hW => Flip_on t m W HsT.out (HM.out W hW.out) i j r c HT.out HIJ.out.1 HIJ.out.2.1 HIJ.out.2.2.1 false HIJ.out.2.2.2.symm p HU.out
  have HP1 : Hid (∀ W, Calls Tryd.prog 24 #[.string t, .int .i64 (j : Int), .int .i64 (i : Int), .string ⟨#[108, 114, 108, 114]⟩] W fun e w' => e = .returned (.string p) ∧ Hid (Below W.heap.size W w')) := fun W => Put_lie t i j r c W HT.out HIJ.out.1 HIJ.out.2.1 p HP.out
  have HLd : Hid (∀ W, Hid (Below W0.heap.size W0 W) → Calls Tryd.prog 11 #[.string t] W fun e w' => e = .returned (.bool true) ∧ Hid (Below W.heap.size W w')) := fun W hW => Laid_ok t m W HsT.out (HM.out W hW.out) (r + 1) (c + 1) HT.out
  have HBk : Hid (∀ W, Hid (Below W0.heap.size W0 W) → Calls Tryd.prog 22 #[.string t] W fun e w' => ∃ a cp, e = .returned (.slice a N cp) ∧ Hid (PtI w' a l) ∧ Hid (Below W.heap.size W w')) := fun W hW => by
    rw [HL.out]; exact Blocks_ok t m W (HM.out W hW.out) r c HT.out N HN.out
  clear hT hm hs hq hc hpt hi hj
  go_enter Tryd.func4, Tryd.ntmps4
  go_upto_region 1 with fail
  rw [← HQ.out, ← HW0.out]
  go_upto_region 2 with (go_at_call 18; with_reducible (refine HAz.out.mono ?_); rintro e W1 ⟨rfl, HB1⟩)
  have HDc := hid_w (HDm.out W1)
  have HFc := hid_w (HFl.out _ HB1)
  go_upto_region 8 with (first | (go_at_call 19; with_reducible (refine HDc.out.mono ?_); rintro e v1 ⟨rfl, rfl⟩) | (go_at_call 20; with_reducible (refine HFc.out.mono ?_); rintro e W2 ⟨a1, cp1, rfl, HPa, HBa⟩))
  have HB2 : Hid (Below W0.heap.size W0 W2) := HB1.out.trans (HBa.out.mono HB1.out.size)
  obtain ⟨q0, q1⟩ := HQc.out W2 HB2.out
  have HFd := hid_w (HFp.out W2 HB2)
  go_upto_region 9 with (go_at_call 21; with_reducible (refine HFd.out.mono ?_); rintro e W3 ⟨rfl, HBb⟩)
  clear q0 q1
  have HB3 : Hid (Below W0.heap.size W0 W3) := HB2.out.trans (HBb.out.mono HB2.out.size)
  have HLc := hid_w (HLd.out W3 HB3)
  go_upto_region 11 with (go_at_call 11; with_reducible (refine HLc.out.mono ?_); rintro e W4 ⟨rfl, HBc⟩)
  have HB4 : Hid (Below W0.heap.size W0 W4) := HB3.out.trans (HBc.out.mono HB3.out.size)
  have HBkc := hid_w (HBk.out W4 HB4)
  go_upto_region 12 with (go_at_call 22; with_reducible (refine HBkc.out.mono ?_); rintro e W5 ⟨a2, cp2, rfl, HPb, HBd⟩)
  have HB5 : Hid (Below W0.heap.size W0 W5) := HB4.out.trans (HBd.out.mono HB4.out.size)
  have HPa5 : Hid (PtI W5 a1 l) := ((HPa.out.below HBb.out).below HBc.out).below HBd.out
  clear HPa HBa HBb HBc HBd HFc HFd HLc HBkc
  go_wp2_with fail
  go_loopw [14, 75] (fun bv v wr => ∃ (k : Nat) (b : Bool), k ≤ N ∧ v = .int .i64 (k : Int) ∧ bv = .bool b ∧ Hid (b = decide (((j : Int), (i : Int)) ∈ l.take k)) ∧ Hid (Below W5.heap.size W5 wr)) (fun _ v _ => N - (intOf v).toNat)
  case atStart => exact ⟨0, false, Nat.zero_le _, rfl, rfl, by show _ = _; simp, Below.refl _ _⟩
  case round =>
    obtain ⟨k, b, hk, rfl, rfl, Hb, HBr⟩ := hrel
    by_cases hlt : k < N
    · have hlt' : (k : Int) < (N : Int) := by omega
      have hkl : k < l.length := by rw [← HNl.out]; exact hlt
      obtain ⟨px, py, HXY⟩ : ∃ px py, Hid (l.getD k (0, 0) = (px, py)) := ⟨_, _, rfl⟩
      have HTk : Hid (l.take (k + 1) = l.take k ++ [(px, py)]) := by
        show _ = _
        rw [List.take_add_one, ← HXY.out]; simp [List.getD, hkl]
      obtain ⟨b2, o2, rfl, -, k0, k1⟩ := (HPb.out.below HBr.out) k hkl
      rw [HXY.out] at k0 k1
      obtain ⟨q0, q1⟩ := HQc.out wr (HB5.out.trans (HBr.out.mono HB5.out.size))
      cases b with
      | true =>
        have Hb2 : Hid (true = decide (((j : Int), (i : Int)) ∈ l.take (k + 1))) := by
          show _ = _
          rw [HTk.out]
          exact (decide_eq_true (List.mem_append_left _ (of_decide_eq_true Hb.out.symm))).symm
        go_wp2_with fail
        go_quiet (fail)
        go_wp2
        go_roundw
        case rel => exact ⟨k + 1, true, by omega, by go_num, rfl, Hb2, below_drewN HBr.out _⟩
        case measure => simp [intOf]; omega
      | false =>
        have hno : ((j : Int), (i : Int)) ∉ l.take k := of_decide_eq_false Hb.out.symm
        by_cases hx : px = (j : Int)
        · by_cases hy : py = (i : Int)
          · have Hb2 : Hid (true = decide (((j : Int), (i : Int)) ∈ l.take (k + 1))) := by
              show _ = _
              rw [HTk.out, hx, hy]
              exact (decide_eq_true (List.mem_append_right _ (by simp))).symm
            subst hx
            subst hy
            go_wp2_with fail
            go_quiet (fail)
            go_wp2
            go_roundw
            case rel => exact ⟨k + 1, true, by omega, by go_num, rfl, Hb2, below_drewN HBr.out _⟩
            case measure => simp [intOf]; omega
          · have Hb2 : Hid (false = decide (((j : Int), (i : Int)) ∈ l.take (k + 1))) := by
              show _ = _
              rw [HTk.out]
              refine (decide_eq_false (fun q => ?_)).symm
              rcases List.mem_append.1 q with q | q
              · exact hno q
              · simp only [List.mem_singleton, Prod.mk.injEq] at q; exact hy q.2.symm
            have hy' : (py == (i : Int)) = false := by simpa using hy
            subst hx
            go_wp2_with fail
            go_quiet (fail)
            go_wp2
            go_roundw
            case rel => exact ⟨k + 1, false, by omega, by go_num, by first | rfl | simp [hy'], Hb2, below_drewN HBr.out _⟩
            case measure => simp [intOf]; omega
        · have Hb2 : Hid (false = decide (((j : Int), (i : Int)) ∈ l.take (k + 1))) := by
            show _ = _
            rw [HTk.out]
            refine (decide_eq_false (fun q => ?_)).symm
            rcases List.mem_append.1 q with q | q
            · exact hno q
            · simp only [List.mem_singleton, Prod.mk.injEq] at q; exact hx q.1.symm
          have hx' : (px == (j : Int)) = false := by simpa using hx
          go_wp2_with fail
          go_quiet (fail)
          go_wp2
          go_roundw
          case rel => exact ⟨k + 1, false, by omega, by go_num, by first | rfl | simp [hx'], Hb2, below_drewN HBr.out _⟩
          case measure => simp [intOf]; omega
    · obtain rfl : k = N := by omega
      have HTa : Hid (l.take k = l) := by show _ = _; rw [HNl.out]; exact List.take_length
      have HB6 : Hid (Below W0.heap.size W0 wr) := HB5.out.trans (HBr.out.mono HB5.out.size)
      have HSm := hid_w (SamePt_at a1 a2 k k cp1 cp2 l wr (HPa5.out.below HBr.out) (HPb.out.below HBr.out) HNl.out HNl.out (by rw [← HNl.out]; omega))
      have hb : b = true := by
        rw [Hb.out, HTa.out]; exact decide_eq_true HIs.out
      subst hb
      go_upto_region 21 with (go_at_call 23; with_reducible (refine HSm.out.mono ?_); rintro e W7 ⟨rfl, HBs⟩)
      have HB7 : Hid (Below W0.heap.size W0 W7) := HB6.out.trans (HBs.out.mono HB6.out.size)
      obtain ⟨q0, q1⟩ := HQc.out W7 HB7.out
      have HP1c := hid_w (HP1.out W7)
      go_upto_region 24 with (go_at_call 24; with_reducible (refine HP1c.out.mono ?_); rintro e W8 ⟨rfl, HBu⟩)
      clear q0 q1
      have HB8 : Hid (Below W0.heap.size W0 W8) := HB7.out.trans (HBu.out.mono HB7.out.size)
      obtain ⟨q0, q1⟩ := HQc.out W8 HB8.out
      have HP2c := hid_w (HP1.out W8)
      go_wp2_with (go_at_call 24; with_reducible (refine HP2c.out.mono ?_); rintro e W9 ⟨rfl, HBv⟩)
      have HB9 : Hid (Below W0.heap.size W0 W9) := HB8.out.trans (HBv.out.mono HB8.out.size)
      go_ret
      exact ⟨rfl, HB0.out.trans (HB9.out.mono HB0.out.size)⟩

theorem dturns_at (t : ByteArray) (x y n m : Int) (w : World) (hs : t.size ≤ 4000000000) (hm : w.cell? ⟨0, 0, none⟩ = some (.int .i64 m)) :
    Calls Tryd.prog 4 #[.string t, .agg #[.int .i64 x, .int .i64 y], .int .i64 n] w fun e w' => e = .returned (.bool true) ∧ Below w.heap.size w w' := by
  have hT : (∀ r c, ¬ Til t.data.toList r c) ∨ ∃ r c, Til t.data.toList (r + 1) (c + 1) := by
    by_cases h : ∃ r c, Til t.data.toList r c
    · obtain ⟨r, c, h⟩ := h
      have h1 := h.1.2.1
      have h2 := h.1.2.2.2.1
      obtain ⟨r', rfl⟩ : ∃ r', r = r' + 1 := ⟨r - 1, by omega⟩
      obtain ⟨c', rfl⟩ : ∃ c', c = c' + 1 := ⟨c - 1, by omega⟩
      exact Or.inr ⟨r', c', h⟩
    · exact Or.inl (fun r c q => h ⟨r, c, q⟩)
  have hn : (n < 1 ∨ 4 < n) ∨ ∃ k : Nat, n = (k : Int) ∧ 1 ≤ k ∧ k ≤ 4 := by
    by_cases h : n < 1 ∨ 4 < n
    · exact Or.inl h
    · exact Or.inr ⟨n.toNat, by omega, by omega, by omega⟩
  rcases hT with hT | ⟨r, c, hT⟩
  · rcases hn with hn | ⟨k, rfl, h1, h4⟩
    · exact dturns_NN t m w hs hm n hn x y hT
    · exact dturns_YN t m w hs hm k h1 h4 x y hT
  · by_cases hf : (x, y) ∈ blP t.data.toList r c
    · obtain ⟨i, j, hi, hj, hq, rfl, rfl⟩ := (mem_flp _ _ _ _ _).1 hf
      cases hc : cef (pz t.data.toList) (i * 8 + j) == 108 with
      | true =>
        rcases hn with hn | ⟨k, rfl, h1, h4⟩
        · exact dturns_NL t m w hs hm n hn i j r c hT hi hj hq hc
        · exact dturns_YL t m w hs hm k h1 h4 i j r c hT hi hj hq hc
      | false =>
        rcases hn with hn | ⟨k, rfl, h1, h4⟩
        · exact dturns_NU t m w hs hm n hn i j r c hT hi hj hq hc
        · exact dturns_YU t m w hs hm k h1 h4 i j r c hT hi hj hq hc
    · rcases hn with hn | ⟨k, rfl, h1, h4⟩
      · exact dturns_NF t m w hs hm n hn x y r c hT hf
      · exact dturns_YF t m w hs hm k h1 h4 x y r c hT hf

end Go.Proofs.YtcnmndbckjmliaaDoor
