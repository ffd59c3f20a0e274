/-
  ferkeep.DominoBack returns true.
-/
import Derived.Test.YtcnmndbckjmliaaDoorNBka
import Derived.Deep.DeepCutAuto
namespace Go.Proofs.YtcnmndbckjmliaaDoor
open Go.RowKit

theorem ba_neqB {a b : ByteArray} (h : ¬ a.data.toList = b.data.toList) : (a.toList == b.toList) = false ∧ ¬ a.toList = b.toList := by
  rw [ByteArray.toList_eq a, ByteArray.toList_eq b]
  exact ⟨beq_false_of_ne h, h⟩
theorem out_ex (r c : Nat) (f : Nat → UInt8) (hr : r ≤ 8) (hc : c ≤ 8) : ∃ x, OutP r c f r 0 x := by
  have hrow : ∀ i, i < r → (∃ x, OutP r c f i 0 x) → ∀ j, j ≤ c → ∃ x, OutP r c f i j x := fun i hi h0 j => by
    induction j with
    | zero => exact fun _ => h0
    | succ j ih =>
      intro hj
      obtain ⟨x, hx⟩ := ih (by omega)
      by_cases hf : f (i * 8 + j) = 35
      · exact ⟨_, out_take hx hi (by omega) hr hc hf⟩
      · exact ⟨_, out_skip hx hf⟩
  have hall : ∀ i, i ≤ r → ∃ x, OutP r c f i 0 x := fun i => by
    induction i with
    | zero => exact fun _ => ⟨_, out_start r c f⟩
    | succ i ih =>
      intro hi
      obtain ⟨x, hx⟩ := hrow i (by omega) (ih (by omega)) c (Nat.le_refl _)
      exact ⟨x, out_row hx hc⟩
  exact hall r (Nat.le_refl _)
theorem blQ_at (s : List UInt8) (r c q : Nat) (hq : q < (blQ s r c).length) : ∃ i j : Nat, i < r ∧ j < c ∧ qR (cef (pz s)) i j = true ∧ (blQ s r c).getD q (0, 0) = ((j : Int), (i : Int)) := by
  have hm : (blQ s r c).getD q (0, 0) ∈ blQ s r c := by rw [List.getD_eq_getElem?_getD, List.getElem?_eq_getElem hq, Option.getD_some]; exact List.getElem_mem _
  obtain ⟨x, hx⟩ : ∃ x, x = (blQ s r c).getD q (0, 0) := ⟨_, rfl⟩
  rw [← hx] at hm ⊢
  obtain ⟨i, j, h1, h2, h3, h4, h5⟩ := (mem_flp _ _ _ x.1 x.2).1 hm
  exact ⟨i, j, h1, h2, h3, Prod.ext h4 h5⟩

set_option maxHeartbeats 8000000 in
set_option maxRecDepth 100000 in
theorem dback_NN (s t : ByteArray) (k m : Int) (w : World) (_hk : -9223372036854775808 ≤ k ∧ k ≤ 9223372036854775807) (hm : w.cell? ⟨0, 0, none⟩ = some (.int .i64 m)) (hB : TabAt 1 Lib.deBruijn64tab w) (hz : ∀ r c, ¬ Shz bdL r c (pz s.data.toList)) (hT : ∀ r c, ¬ Til t.data.toList r c) :
    Calls Tryd.prog 6 #[.string s, .string t, .int .i64 k] w fun e w' => e = .returned (.bool true) ∧ Below w.heap.size w w' := by
  have HM : Hid (∀ W, Below w.heap.size w W → W.cell? ⟨0, 0, none⟩ = some (.int .i64 m)) := fun W hW => (hW.cell (p := ⟨0, 0, none⟩) (World.block_lt_of_cell? w _ hm)).trans hm
  have HTb : Hid (∀ W, Below w.heap.size w W → TabAt 1 Lib.deBruijn64tab W) := tab_all hB (by decide)
  have HZ := hid_w hz
  have HT := hid_w hT
  have HF2 := hid_w (BFirst_two m w hm hB)
  have HCo : Hid (∀ W, Hid (Below w.heap.size w W) → Calls Tryd.prog 8 #[.string s] W fun e w' => e = .returned (.tuple #[.int .i64 0, .int .i64 1]) ∧ Hid (Below W.heap.size W w')) := fun W hW => BCount_no s m W (HM.out W hW.out) (HTb.out W hW.out) HZ.out
  have HFi : Hid (∀ W, Hid (Below w.heap.size w W) → Calls Tryd.prog 9 #[.string s] W fun e w' => e = .returned (.tuple #[.string ⟨#[]⟩, .int .i64 1]) ∧ Hid (Below W.heap.size W w')) := fun W hW => BFirst_no s m W (HM.out W hW.out) (HTb.out W hW.out) HZ.out
  have HFl : Hid (∀ W, Hid (Below w.heap.size w W) → Calls Tryd.prog 20 #[.string t] W fun e w' => e = .returned (.tuple #[.slice none 0 0, .int .i64 1]) ∧ Hid (Below W.heap.size W w')) := fun W hW => BFlips_no t m W (HM.out W hW.out) HT.out
  clear hm hB hz hT _hk
  go_enter Tryd.func6, Tryd.ntmps6
  go_upto_region 2 with (go_at_call 9; with_reducible (refine HF2.out.mono ?_); rintro e w1 ⟨rfl, HB1⟩)
  have HC1 := hid_w (HCo.out _ HB1)
  go_upto_region 5 with (go_at_call 8; with_reducible (refine HC1.out.mono ?_); rintro e w2 ⟨rfl, HB2'⟩)
  have HB2 : Hid (Below w.heap.size w w2) := HB1.out.trans (HB2'.out.mono HB1.out.size)
  have HC2 := hid_w (HFi.out _ HB2)
  go_upto_region 6 with (go_at_call 9; with_reducible (refine HC2.out.mono ?_); rintro e w3 ⟨rfl, HB3'⟩)
  have HB3 : Hid (Below w.heap.size w w3) := HB2.out.trans (HB3'.out.mono HB2.out.size)
  clear HB1 HB2 HB2' HB3' HC1 HC2
  have HC5 := hid_w (HFl.out _ HB3)
  go_wp2_with (go_at_call 20; with_reducible (refine HC5.out.mono ?_); rintro e w5 ⟨rfl, HB5'⟩)
  go_ret
  exact ⟨rfl, HB3.out.trans (HB5'.out.mono HB3.out.size)⟩

set_option maxHeartbeats 8000000 in
set_option maxRecDepth 100000 in
theorem dback_NE (s t : ByteArray) (k m : Int) (w : World) (_hk : -9223372036854775808 ≤ k ∧ k ≤ 9223372036854775807) (hm : w.cell? ⟨0, 0, none⟩ = some (.int .i64 m)) (hB : TabAt 1 Lib.deBruijn64tab w) (hz : ∀ r c, ¬ Shz bdL r c (pz s.data.toList)) (r c : Nat) (hT : Til t.data.toList (r + 1) (c + 1)) (hl : (blQ t.data.toList r c).length = 0) :
    Calls Tryd.prog 6 #[.string s, .string t, .int .i64 k] w fun e w' => e = .returned (.bool true) ∧ Below w.heap.size w w' := by
  have HM : Hid (∀ W, Below w.heap.size w W → W.cell? ⟨0, 0, none⟩ = some (.int .i64 m)) := fun W hW => (hW.cell (p := ⟨0, 0, none⟩) (World.block_lt_of_cell? w _ hm)).trans hm
  have HTb : Hid (∀ W, Below w.heap.size w W → TabAt 1 Lib.deBruijn64tab W) := tab_all hB (by decide)
  have HZ := hid_w hz
  have HT := hid_w hT
  have HF2 := hid_w (BFirst_two m w hm hB)
  have HCo : Hid (∀ W, Hid (Below w.heap.size w W) → Calls Tryd.prog 8 #[.string s] W fun e w' => e = .returned (.tuple #[.int .i64 0, .int .i64 1]) ∧ Hid (Below W.heap.size W w')) := fun W hW => BCount_no s m W (HM.out W hW.out) (HTb.out W hW.out) HZ.out
  have HFi : Hid (∀ W, Hid (Below w.heap.size w W) → Calls Tryd.prog 9 #[.string s] W fun e w' => e = .returned (.tuple #[.string ⟨#[]⟩, .int .i64 1]) ∧ Hid (Below W.heap.size W w')) := fun W hW => BFirst_no s m W (HM.out W hW.out) (HTb.out W hW.out) HZ.out
  obtain ⟨l, HL⟩ : ∃ l, Hid (l = blQ t.data.toList r c) := ⟨_, rfl⟩
  obtain ⟨N, HN⟩ : ∃ N, Hid (N = (blQ t.data.toList r c).length) := ⟨_, rfl⟩
  have HFl : Hid (∀ W, Hid (Below w.heap.size w W) → Calls Tryd.prog 20 #[.string t] W fun e w' => ∃ a cp, e = .returned (.tuple #[.slice a N cp, .int .i64 0]) ∧ Hid (PtI w' a l) ∧ Hid (Below W.heap.size W w')) := fun W hW => by
    rw [HL.out]; exact BFlips_ok t m W (HM.out W hW.out) r c HT.out N HN.out
  obtain rfl : N = 0 := by rw [HN.out]; exact hl
  clear hm hB hz hT _hk hl
  go_enter Tryd.func6, Tryd.ntmps6
  go_upto_region 2 with (go_at_call 9; with_reducible (refine HF2.out.mono ?_); rintro e w1 ⟨rfl, HB1⟩)
  have HC1 := hid_w (HCo.out _ HB1)
  go_upto_region 5 with (go_at_call 8; with_reducible (refine HC1.out.mono ?_); rintro e w2 ⟨rfl, HB2'⟩)
  have HB2 : Hid (Below w.heap.size w w2) := HB1.out.trans (HB2'.out.mono HB1.out.size)
  have HC2 := hid_w (HFi.out _ HB2)
  go_upto_region 6 with (go_at_call 9; with_reducible (refine HC2.out.mono ?_); rintro e w3 ⟨rfl, HB3'⟩)
  have HB3 : Hid (Below w.heap.size w w3) := HB2.out.trans (HB3'.out.mono HB2.out.size)
  clear HB1 HB2 HB2' HB3' HC1 HC2
  have HC5 := hid_w (HFl.out _ HB3)
  go_wp2_with (go_at_call 20; with_reducible (refine HC5.out.mono ?_); rintro e w5 ⟨a1, cp1, rfl, HP, HB5'⟩)
  go_ret
  exact ⟨rfl, HB3.out.trans (HB5'.out.mono HB3.out.size)⟩

set_option maxHeartbeats 8000000 in
set_option maxRecDepth 100000 in
theorem dback_NB (s t : ByteArray) (k m : Int) (w : World) (hk : -9223372036854775808 ≤ k ∧ k ≤ 9223372036854775807) (hm : w.cell? ⟨0, 0, none⟩ = some (.int .i64 m)) (hB : TabAt 1 Lib.deBruijn64tab w) (hz : ∀ r c, ¬ Shz bdL r c (pz s.data.toList)) (r c : Nat) (hT : Til t.data.toList (r + 1) (c + 1)) (hl : 0 < (blQ t.data.toList r c).length) :
    Calls Tryd.prog 6 #[.string s, .string t, .int .i64 k] w fun e w' => e = .returned (.bool true) ∧ Below w.heap.size w w' := by
  have HM : Hid (∀ W, Below w.heap.size w W → W.cell? ⟨0, 0, none⟩ = some (.int .i64 m)) := fun W hW => (hW.cell (p := ⟨0, 0, none⟩) (World.block_lt_of_cell? w _ hm)).trans hm
  have HTb : Hid (∀ W, Below w.heap.size w W → TabAt 1 Lib.deBruijn64tab W) := tab_all hB (by decide)
  have HZ := hid_w hz
  have HT := hid_w hT
  have HF2 := hid_w (BFirst_two m w hm hB)
  have HCo : Hid (∀ W, Hid (Below w.heap.size w W) → Calls Tryd.prog 8 #[.string s] W fun e w' => e = .returned (.tuple #[.int .i64 0, .int .i64 1]) ∧ Hid (Below W.heap.size W w')) := fun W hW => BCount_no s m W (HM.out W hW.out) (HTb.out W hW.out) HZ.out
  have HFi : Hid (∀ W, Hid (Below w.heap.size w W) → Calls Tryd.prog 9 #[.string s] W fun e w' => e = .returned (.tuple #[.string ⟨#[]⟩, .int .i64 1]) ∧ Hid (Below W.heap.size W w')) := fun W hW => BFirst_no s m W (HM.out W hW.out) (HTb.out W hW.out) HZ.out
  obtain ⟨l, HL⟩ : ∃ l, Hid (l = blQ t.data.toList r c) := ⟨_, rfl⟩
  obtain ⟨N, HN⟩ : ∃ N, Hid (N = (blQ t.data.toList r c).length) := ⟨_, rfl⟩
  have HFl : Hid (∀ W, Hid (Below w.heap.size w W) → Calls Tryd.prog 20 #[.string t] W fun e w' => ∃ a cp, e = .returned (.tuple #[.slice a N cp, .int .i64 0]) ∧ Hid (PtI w' a l) ∧ Hid (Below W.heap.size W w')) := fun W hW => by
    rw [HL.out]; exact BFlips_ok t m W (HM.out W hW.out) r c HT.out N HN.out
  have HNl : Hid (N = l.length) := by show _ = _; rw [HN.out, HL.out]
  have hN0 : 0 < N := by rw [HN.out]; exact hl
  have hN64 : N ≤ 64 := by rw [HN.out]; exact blQ_len hT
  have HPk : Hid (∀ W, Calls Tryd.prog 30 #[.int .i64 k, .int .i64 N] W fun e w' => ∃ q : Nat, e = .returned (.int .i64 q) ∧ q < N ∧ w' = W) := fun W => Pick_n k N W hk hN0 (by omega)
  have hN1 : ¬ (N : Int) = 0 := by omega
  have HPi : Hid (∀ (W : World) (a : Option Addr), Hid (PtI W a l) → ∀ q, q < N → ∃ i j : Nat, Hid (i < r ∧ j < c ∧ qR (cef (pz t.data.toList)) i j = true) ∧ ∃ b o, a = some ⟨b, o, none⟩ ∧ W.cell? ⟨b, o + q * 2, none⟩ = some (.int .i64 (j : Int)) ∧ W.cell? ⟨b, o + q * 2 + 1, none⟩ = some (.int .i64 (i : Int))) := fun W a hP q hq => by
    rw [HNl.out] at hq
    obtain ⟨i, j, h1, h2, h3, h4⟩ := blQ_at _ r c q (by rw [← HL.out]; exact hq)
    rw [← HL.out] at h4
    obtain ⟨b, o, h5, -, h6, h7⟩ := hP.out q hq
    rw [h4] at h6 h7
    exact ⟨i, j, ⟨h1, h2, h3⟩, b, o, h5, h6, h7⟩
  clear hm hB hz hT hk hl
  go_enter Tryd.func6, Tryd.ntmps6
  go_upto_region 2 with (go_at_call 9; with_reducible (refine HF2.out.mono ?_); rintro e w1 ⟨rfl, HB1⟩)
  have HC1 := hid_w (HCo.out _ HB1)
  go_upto_region 5 with (go_at_call 8; with_reducible (refine HC1.out.mono ?_); rintro e w2 ⟨rfl, HB2'⟩)
  have HB2 : Hid (Below w.heap.size w w2) := HB1.out.trans (HB2'.out.mono HB1.out.size)
  have HC2 := hid_w (HFi.out _ HB2)
  go_upto_region 6 with (go_at_call 9; with_reducible (refine HC2.out.mono ?_); rintro e w3 ⟨rfl, HB3'⟩)
  have HB3 : Hid (Below w.heap.size w w3) := HB2.out.trans (HB3'.out.mono HB2.out.size)
  clear HB1 HB2 HB2' HB3' HC1 HC2
  have HC5 := hid_w (HFl.out _ HB3)
  go_upto_region 13 with (go_at_call 20; with_reducible (refine HC5.out.mono ?_); rintro e w5 ⟨a1, cp1, rfl, HP, HB5'⟩)
  have HB5 : Hid (Below w.heap.size w w5) := HB3.out.trans (HB5'.out.mono HB3.out.size)
  have HPk5 := hid_w (HPk.out w5)
  clear HB3 HB5' HC5 HF2 HCo HFi
  go_upto_region 16 with (go_at_call 30; with_reducible (refine HPk5.out.mono ?_); rintro e v5 ⟨q, rfl, hq, rfl⟩; obtain ⟨i, j, HIJ, b2, o2, rfl, k0, k1⟩ := HPi.out v5 a1 HP q hq)
  obtain ⟨Q, HQ⟩ : ∃ Q, Hid (Q = v5.heap.size) := ⟨_, rfl⟩
  obtain ⟨W0, HW0⟩ : ∃ W0, Hid (W0 = v5.alloc (.cells #[.int .i64 (j : Int), .int .i64 (i : Int)] 36)) := ⟨_, rfl⟩
  have HB0 : Hid (Below w.heap.size w W0) := by rw [HW0.out]; exact HB5.out.alloc HB5.out.size _
  have HQ0 : Hid (W0.heap[Q]? = some (.cells #[.int .i64 (j : Int), .int .i64 (i : Int)] 36 (0, 0))) := by
    show _ = _
    rw [HW0.out, HQ.out]; exact heap_alloc_last _ _
  have HQc : Hid (∀ W, Below W0.heap.size W0 W → W.cell? ⟨Q, 0, none⟩ = some (.int .i64 (j : Int)) ∧ W.cell? ⟨Q, 1, none⟩ = some (.int .i64 (i : Int))) := fun W hW => by
    have h : W.heap[Q]? = some (.cells #[.int .i64 (j : Int), .int .i64 (i : Int)] 36 (0, 0)) := by rw [hW.block Q (lt_someN HQ0.out)]; exact HQ0.out
    exact ⟨by rw [cell_of_row W Q _ _ _ _ h]; rfl, by rw [cell_of_row W Q _ _ _ _ h]; rfl⟩
  have HBW : Hid (∀ W, Below W0.heap.size W0 W → Below w.heap.size w W) := fun W hW => HB0.out.trans (hW.mono HB0.out.size)
  rw [← HQ.out, ← HW0.out]
  obtain ⟨u, HU⟩ : ∃ u : ByteArray, Hid (u = ⟨(turned t.data.toList r c i j).toArray⟩) := ⟨_, rfl⟩
  obtain ⟨b, HBr⟩ : ∃ b : ByteArray, Hid (b = ⟨(brdT t.data.toList (r + 1) (c + 1)).toArray⟩) := ⟨_, rfl⟩
  have HUT : Hid (Til u.data.toList (r + 1) (c + 1)) := by rw [HU.out]; exact (turned_til HT.out HIJ.out.1 HIJ.out.2.1 HIJ.out.2.2).1
  have HUq : Hid (qR (cef (pz u.data.toList)) i j = true) := by show _ = _; rw [HU.out]; exact turned_qR HT.out HIJ.out.1 HIJ.out.2.1 HIJ.out.2.2
  have HUb : Hid (t = ⟨(turned u.data.toList r c i j).toArray⟩) := by
    show _ = _
    rw [HU.out]
    exact ba_extN (turned_back HT.out HIJ.out.1 HIJ.out.2.1 HIJ.out.2.2).symm
  obtain ⟨hne1, hne2⟩ : (u.toList == t.toList) = false ∧ ¬ u.toList = t.toList := by
    have h : ¬ u.data.toList = t.data.toList := by rw [HU.out]; exact turned_ne HT.out HIJ.out.1 HIJ.out.2.1 HIJ.out.2.2
    exact ba_neqB h
  have HP1 : Hid (∀ W, Below W0.heap.size W0 W → Calls Tryd.prog 21 #[.string t, .agg #[.int .i64 (j : Int), .int .i64 (i : Int)]] W fun e w' => e = .returned (.tuple #[.string u, .int .i64 0]) ∧ Hid (Below W.heap.size W w')) := fun W hW => BFlip_on t m W (HM.out W (HBW.out W hW)) i j r c HT.out HIJ.out.1 HIJ.out.2.1 HIJ.out.2.2 u HU.out
  have HP2 : Hid (∀ W, Below W0.heap.size W0 W → Calls Tryd.prog 21 #[.string u, .agg #[.int .i64 (j : Int), .int .i64 (i : Int)]] W fun e w' => e = .returned (.tuple #[.string t, .int .i64 0]) ∧ Hid (Below W.heap.size W w')) := fun W hW => BFlip_on u m W (HM.out W (HBW.out W hW)) i j r c HUT.out HIJ.out.1 HIJ.out.2.1 HUq.out t HUb.out
  have HD1 : Hid (∀ W, Below W0.heap.size W0 W → Calls Tryd.prog 10 #[.string t] W fun e w' => e = .returned (.tuple #[.string b, .int .i64 0]) ∧ Hid (Below W.heap.size W w')) := fun W hW => BBoard_ok t m W (HM.out W (HBW.out W hW)) (r + 1) (c + 1) HT.out b HBr.out
  have HD2 : Hid (∀ W, Below W0.heap.size W0 W → Calls Tryd.prog 10 #[.string u] W fun e w' => e = .returned (.tuple #[.string b, .int .i64 0]) ∧ Hid (Below W.heap.size W w')) := fun W hW => BBoard_ok u m W (HM.out W (HBW.out W hW)) (r + 1) (c + 1) HUT.out b (by rw [HBr.out, HU.out]; exact congrArg (fun x => (⟨List.toArray x⟩ : ByteArray)) (turned_brd HT.out HIJ.out.1 HIJ.out.2.1 HIJ.out.2.2).symm)
  clear k0 k1
  obtain ⟨q0, q1⟩ := HQc.out W0 (Below.refl _ _)
  have HC6 := hid_w (HP1.out W0 (Below.refl _ _))
  go_upto_region 17 with (go_at_call 21; with_reducible (refine HC6.out.mono ?_); rintro e w6 ⟨rfl, HB6⟩)
  clear q0 q1
  obtain ⟨q0, q1⟩ := HQc.out w6 HB6.out
  have HC7 := hid_w (HP2.out w6 HB6.out)
  go_upto_region 18 with (go_at_call 21; with_reducible (refine HC7.out.mono ?_); rintro e w7 ⟨rfl, HB7'⟩)
  clear q0 q1
  have HB7 : Hid (Below W0.heap.size W0 w7) := HB6.out.trans (HB7'.out.mono HB6.out.size)
  have HC8 := hid_w (HD1.out w7 HB7.out)
  go_upto_region 19 with (go_at_call 10; with_reducible (refine HC8.out.mono ?_); rintro e w8 ⟨rfl, HB8'⟩)
  have HB8 : Hid (Below W0.heap.size W0 w8) := HB7.out.trans (HB8'.out.mono HB7.out.size)
  have HC9 := hid_w (HD2.out w8 HB8.out)
  go_wp2_with (go_at_call 10; with_reducible (refine HC9.out.mono ?_); rintro e w9 ⟨rfl, HB9⟩)
  go_ret
  exact ⟨rfl, HBW.out _ (HB8.out.trans (HB9.out.mono HB8.out.size))⟩

set_option maxHeartbeats 8000000 in
set_option maxRecDepth 100000 in
theorem dback_PN (s t : ByteArray) (k m : Int) (w : World) (_hk : -9223372036854775808 ≤ k ∧ k ≤ 9223372036854775807) (hm : w.cell? ⟨0, 0, none⟩ = some (.int .i64 m)) (hB : TabAt 1 Lib.deBruijn64tab w) (r0 c0 n : Nat) (hz : BdN s.data.toList r0 c0 n) (hn : 0 < n) (hT : ∀ r c, ¬ Til t.data.toList r c) :
    Calls Tryd.prog 6 #[.string s, .string t, .int .i64 k] w fun e w' => e = .returned (.bool true) ∧ Below w.heap.size w w' := by
  have HM : Hid (∀ W, Below w.heap.size w W → W.cell? ⟨0, 0, none⟩ = some (.int .i64 m)) := fun W hW => (hW.cell (p := ⟨0, 0, none⟩) (World.block_lt_of_cell? w _ hm)).trans hm
  have HTb : Hid (∀ W, Below w.heap.size w W → TabAt 1 Lib.deBruijn64tab W) := tab_all hB (by decide)
  have HZ := hid_w hz
  have HT := hid_w hT
  have HF2 := hid_w (BFirst_two m w hm hB)
  have HCo : Hid (∀ W, Hid (Below w.heap.size w W) → Calls Tryd.prog 8 #[.string s] W fun e w' => e = .returned (.tuple #[.int .i64 (n : Int), .int .i64 0]) ∧ Hid (Below W.heap.size W w')) := fun W hW => BCount_ok s m W (HM.out W hW.out) (HTb.out W hW.out) r0 c0 n HZ.out
  have HN0 := hid_w hn
  have HFi : Hid (∀ W, Hid (Below w.heap.size w W) → Calls Tryd.prog 9 #[.string s] W fun e w' => ∃ u : ByteArray, e = .returned (.tuple #[.string u, .int .i64 0]) ∧ Hid (Til u.data.toList r0 c0 ∧ brdT u.data.toList r0 c0 = s.data.toList) ∧ Hid (Below W.heap.size W w')) := fun W hW => BFirst_ok s m W (HM.out W hW.out) (HTb.out W hW.out) r0 c0 n HZ.out HN0.out
  have HBo : Hid (∀ (u : ByteArray), Hid (Til u.data.toList r0 c0 ∧ brdT u.data.toList r0 c0 = s.data.toList) → ∀ W, Hid (Below w.heap.size w W) → Calls Tryd.prog 10 #[.string u] W fun e w' => e = .returned (.tuple #[.string s, .int .i64 0]) ∧ Hid (Below W.heap.size W w')) := fun u hu W hW => BBoard_ok u m W (HM.out W hW.out) r0 c0 hu.out.1 s (by rw [hu.out.2])
  have g1 : 0 < n := HN0.out
  have g2 : (!decide (0 < n)) = false := by simp [g1]
  have HFl : Hid (∀ W, Hid (Below w.heap.size w W) → Calls Tryd.prog 20 #[.string t] W fun e w' => e = .returned (.tuple #[.slice none 0 0, .int .i64 1]) ∧ Hid (Below W.heap.size W w')) := fun W hW => BFlips_no t m W (HM.out W hW.out) HT.out
  clear hm hB hz hT _hk hn
  go_enter Tryd.func6, Tryd.ntmps6
  go_upto_region 2 with (go_at_call 9; with_reducible (refine HF2.out.mono ?_); rintro e w1 ⟨rfl, HB1⟩)
  have HC1 := hid_w (HCo.out _ HB1)
  go_upto_region 5 with (go_at_call 8; with_reducible (refine HC1.out.mono ?_); rintro e w2 ⟨rfl, HB2'⟩)
  have HB2 : Hid (Below w.heap.size w w2) := HB1.out.trans (HB2'.out.mono HB1.out.size)
  have HC2 := hid_w (HFi.out _ HB2)
  go_upto_region 6 with (go_at_call 9; with_reducible (refine HC2.out.mono ?_); rintro e w3 ⟨u0, rfl, HU0, HB3'⟩)
  have HB3 : Hid (Below w.heap.size w w3) := HB2.out.trans (HB3'.out.mono HB2.out.size)
  clear HB1 HB2 HB2' HB3' HC1 HC2
  have HC4 := hid_w (HBo.out u0 HU0 _ HB3)
  go_upto_region 10 with (go_at_call 10; with_reducible (refine HC4.out.mono ?_); rintro e w4 ⟨rfl, HB4'⟩)
  have HB4 : Hid (Below w.heap.size w w4) := HB3.out.trans (HB4'.out.mono HB3.out.size)
  have HC5 := hid_w (HFl.out _ HB4)
  clear HB3 HB4' HC4
  go_wp2_with (go_at_call 20; with_reducible (refine HC5.out.mono ?_); rintro e w5 ⟨rfl, HB5'⟩)
  go_ret
  exact ⟨rfl, HB4.out.trans (HB5'.out.mono HB4.out.size)⟩

set_option maxHeartbeats 8000000 in
set_option maxRecDepth 100000 in
theorem dback_PE (s t : ByteArray) (k m : Int) (w : World) (_hk : -9223372036854775808 ≤ k ∧ k ≤ 9223372036854775807) (hm : w.cell? ⟨0, 0, none⟩ = some (.int .i64 m)) (hB : TabAt 1 Lib.deBruijn64tab w) (r0 c0 n : Nat) (hz : BdN s.data.toList r0 c0 n) (hn : 0 < n) (r c : Nat) (hT : Til t.data.toList (r + 1) (c + 1)) (hl : (blQ t.data.toList r c).length = 0) :
    Calls Tryd.prog 6 #[.string s, .string t, .int .i64 k] w fun e w' => e = .returned (.bool true) ∧ Below w.heap.size w w' := by
  have HM : Hid (∀ W, Below w.heap.size w W → W.cell? ⟨0, 0, none⟩ = some (.int .i64 m)) := fun W hW => (hW.cell (p := ⟨0, 0, none⟩) (World.block_lt_of_cell? w _ hm)).trans hm
  have HTb : Hid (∀ W, Below w.heap.size w W → TabAt 1 Lib.deBruijn64tab W) := tab_all hB (by decide)
  have HZ := hid_w hz
  have HT := hid_w hT
  have HF2 := hid_w (BFirst_two m w hm hB)
  have HCo : Hid (∀ W, Hid (Below w.heap.size w W) → Calls Tryd.prog 8 #[.string s] W fun e w' => e = .returned (.tuple #[.int .i64 (n : Int), .int .i64 0]) ∧ Hid (Below W.heap.size W w')) := fun W hW => BCount_ok s m W (HM.out W hW.out) (HTb.out W hW.out) r0 c0 n HZ.out
  have HN0 := hid_w hn
  have HFi : Hid (∀ W, Hid (Below w.heap.size w W) → Calls Tryd.prog 9 #[.string s] W fun e w' => ∃ u : ByteArray, e = .returned (.tuple #[.string u, .int .i64 0]) ∧ Hid (Til u.data.toList r0 c0 ∧ brdT u.data.toList r0 c0 = s.data.toList) ∧ Hid (Below W.heap.size W w')) := fun W hW => BFirst_ok s m W (HM.out W hW.out) (HTb.out W hW.out) r0 c0 n HZ.out HN0.out
  have HBo : Hid (∀ (u : ByteArray), Hid (Til u.data.toList r0 c0 ∧ brdT u.data.toList r0 c0 = s.data.toList) → ∀ W, Hid (Below w.heap.size w W) → Calls Tryd.prog 10 #[.string u] W fun e w' => e = .returned (.tuple #[.string s, .int .i64 0]) ∧ Hid (Below W.heap.size W w')) := fun u hu W hW => BBoard_ok u m W (HM.out W hW.out) r0 c0 hu.out.1 s (by rw [hu.out.2])
  have g1 : 0 < n := HN0.out
  have g2 : (!decide (0 < n)) = false := by simp [g1]
  obtain ⟨l, HL⟩ : ∃ l, Hid (l = blQ t.data.toList r c) := ⟨_, rfl⟩
  obtain ⟨N, HN⟩ : ∃ N, Hid (N = (blQ t.data.toList r c).length) := ⟨_, rfl⟩
  have HFl : Hid (∀ W, Hid (Below w.heap.size w W) → Calls Tryd.prog 20 #[.string t] W fun e w' => ∃ a cp, e = .returned (.tuple #[.slice a N cp, .int .i64 0]) ∧ Hid (PtI w' a l) ∧ Hid (Below W.heap.size W w')) := fun W hW => by
    rw [HL.out]; exact BFlips_ok t m W (HM.out W hW.out) r c HT.out N HN.out
  obtain rfl : N = 0 := by rw [HN.out]; exact hl
  clear hm hB hz hT _hk hl hn
  go_enter Tryd.func6, Tryd.ntmps6
  go_upto_region 2 with (go_at_call 9; with_reducible (refine HF2.out.mono ?_); rintro e w1 ⟨rfl, HB1⟩)
  have HC1 := hid_w (HCo.out _ HB1)
  go_upto_region 5 with (go_at_call 8; with_reducible (refine HC1.out.mono ?_); rintro e w2 ⟨rfl, HB2'⟩)
  have HB2 : Hid (Below w.heap.size w w2) := HB1.out.trans (HB2'.out.mono HB1.out.size)
  have HC2 := hid_w (HFi.out _ HB2)
  go_upto_region 6 with (go_at_call 9; with_reducible (refine HC2.out.mono ?_); rintro e w3 ⟨u0, rfl, HU0, HB3'⟩)
  have HB3 : Hid (Below w.heap.size w w3) := HB2.out.trans (HB3'.out.mono HB2.out.size)
  clear HB1 HB2 HB2' HB3' HC1 HC2
  have HC4 := hid_w (HBo.out u0 HU0 _ HB3)
  go_upto_region 10 with (go_at_call 10; with_reducible (refine HC4.out.mono ?_); rintro e w4 ⟨rfl, HB4'⟩)
  have HB4 : Hid (Below w.heap.size w w4) := HB3.out.trans (HB4'.out.mono HB3.out.size)
  have HC5 := hid_w (HFl.out _ HB4)
  clear HB3 HB4' HC4
  go_wp2_with (go_at_call 20; with_reducible (refine HC5.out.mono ?_); rintro e w5 ⟨a1, cp1, rfl, HP, HB5'⟩)
  go_ret
  exact ⟨rfl, HB4.out.trans (HB5'.out.mono HB4.out.size)⟩

set_option maxHeartbeats 8000000 in
set_option maxRecDepth 100000 in
theorem dback_PB (s t : ByteArray) (k m : Int) (w : World) (hk : -9223372036854775808 ≤ k ∧ k ≤ 9223372036854775807) (hm : w.cell? ⟨0, 0, none⟩ = some (.int .i64 m)) (hB : TabAt 1 Lib.deBruijn64tab w) (r0 c0 n : Nat) (hz : BdN s.data.toList r0 c0 n) (hn : 0 < n) (r c : Nat) (hT : Til t.data.toList (r + 1) (c + 1)) (hl : 0 < (blQ t.data.toList r c).length) :
    Calls Tryd.prog 6 #[.string s, .string t, .int .i64 k] w fun e w' => e = .returned (.bool true) ∧ Below w.heap.size w w' := by
  have HM : Hid (∀ W, Below w.heap.size w W → W.cell? ⟨0, 0, none⟩ = some (.int .i64 m)) := fun W hW => (hW.cell (p := ⟨0, 0, none⟩) (World.block_lt_of_cell? w _ hm)).trans hm
  have HTb : Hid (∀ W, Below w.heap.size w W → TabAt 1 Lib.deBruijn64tab W) := tab_all hB (by decide)
  have HZ := hid_w hz
  have HT := hid_w hT
  have HF2 := hid_w (BFirst_two m w hm hB)
  have HCo : Hid (∀ W, Hid (Below w.heap.size w W) → Calls Tryd.prog 8 #[.string s] W fun e w' => e = .returned (.tuple #[.int .i64 (n : Int), .int .i64 0]) ∧ Hid (Below W.heap.size W w')) := fun W hW => BCount_ok s m W (HM.out W hW.out) (HTb.out W hW.out) r0 c0 n HZ.out
  have HN0 := hid_w hn
  have HFi : Hid (∀ W, Hid (Below w.heap.size w W) → Calls Tryd.prog 9 #[.string s] W fun e w' => ∃ u : ByteArray, e = .returned (.tuple #[.string u, .int .i64 0]) ∧ Hid (Til u.data.toList r0 c0 ∧ brdT u.data.toList r0 c0 = s.data.toList) ∧ Hid (Below W.heap.size W w')) := fun W hW => BFirst_ok s m W (HM.out W hW.out) (HTb.out W hW.out) r0 c0 n HZ.out HN0.out
  have HBo : Hid (∀ (u : ByteArray), Hid (Til u.data.toList r0 c0 ∧ brdT u.data.toList r0 c0 = s.data.toList) → ∀ W, Hid (Below w.heap.size w W) → Calls Tryd.prog 10 #[.string u] W fun e w' => e = .returned (.tuple #[.string s, .int .i64 0]) ∧ Hid (Below W.heap.size W w')) := fun u hu W hW => BBoard_ok u m W (HM.out W hW.out) r0 c0 hu.out.1 s (by rw [hu.out.2])
  have g1 : 0 < n := HN0.out
  have g2 : (!decide (0 < n)) = false := by simp [g1]
  obtain ⟨l, HL⟩ : ∃ l, Hid (l = blQ t.data.toList r c) := ⟨_, rfl⟩
  obtain ⟨N, HN⟩ : ∃ N, Hid (N = (blQ t.data.toList r c).length) := ⟨_, rfl⟩
  have HFl : Hid (∀ W, Hid (Below w.heap.size w W) → Calls Tryd.prog 20 #[.string t] W fun e w' => ∃ a cp, e = .returned (.tuple #[.slice a N cp, .int .i64 0]) ∧ Hid (PtI w' a l) ∧ Hid (Below W.heap.size W w')) := fun W hW => by
    rw [HL.out]; exact BFlips_ok t m W (HM.out W hW.out) r c HT.out N HN.out
  have HNl : Hid (N = l.length) := by show _ = _; rw [HN.out, HL.out]
  have hN0 : 0 < N := by rw [HN.out]; exact hl
  have hN64 : N ≤ 64 := by rw [HN.out]; exact blQ_len hT
  have HPk : Hid (∀ W, Calls Tryd.prog 30 #[.int .i64 k, .int .i64 N] W fun e w' => ∃ q : Nat, e = .returned (.int .i64 q) ∧ q < N ∧ w' = W) := fun W => Pick_n k N W hk hN0 (by omega)
  have hN1 : ¬ (N : Int) = 0 := by omega
  have HPi : Hid (∀ (W : World) (a : Option Addr), Hid (PtI W a l) → ∀ q, q < N → ∃ i j : Nat, Hid (i < r ∧ j < c ∧ qR (cef (pz t.data.toList)) i j = true) ∧ ∃ b o, a = some ⟨b, o, none⟩ ∧ W.cell? ⟨b, o + q * 2, none⟩ = some (.int .i64 (j : Int)) ∧ W.cell? ⟨b, o + q * 2 + 1, none⟩ = some (.int .i64 (i : Int))) := fun W a hP q hq => by
    rw [HNl.out] at hq
    obtain ⟨i, j, h1, h2, h3, h4⟩ := blQ_at _ r c q (by rw [← HL.out]; exact hq)
    rw [← HL.out] at h4
    obtain ⟨b, o, h5, -, h6, h7⟩ := hP.out q hq
    rw [h4] at h6 h7
    exact ⟨i, j, ⟨h1, h2, h3⟩, b, o, h5, h6, h7⟩
  clear hm hB hz hT hk hl hn
  go_enter Tryd.func6, Tryd.ntmps6
  go_upto_region 2 with (go_at_call 9; with_reducible (refine HF2.out.mono ?_); rintro e w1 ⟨rfl, HB1⟩)
  have HC1 := hid_w (HCo.out _ HB1)
  go_upto_region 5 with (go_at_call 8; with_reducible (refine HC1.out.mono ?_); rintro e w2 ⟨rfl, HB2'⟩)
  have HB2 : Hid (Below w.heap.size w w2) := HB1.out.trans (HB2'.out.mono HB1.out.size)
  have HC2 := hid_w (HFi.out _ HB2)
  go_upto_region 6 with (go_at_call 9; with_reducible (refine HC2.out.mono ?_); rintro e w3 ⟨u0, rfl, HU0, HB3'⟩)
  have HB3 : Hid (Below w.heap.size w w3) := HB2.out.trans (HB3'.out.mono HB2.out.size)
  clear HB1 HB2 HB2' HB3' HC1 HC2
  have HC4 := hid_w (HBo.out u0 HU0 _ HB3)
  go_upto_region 10 with (go_at_call 10; with_reducible (refine HC4.out.mono ?_); rintro e w4 ⟨rfl, HB4'⟩)
  have HB4 : Hid (Below w.heap.size w w4) := HB3.out.trans (HB4'.out.mono HB3.out.size)
  have HC5 := hid_w (HFl.out _ HB4)
  clear HB3 HB4' HC4
  go_upto_region 13 with (go_at_call 20; with_reducible (refine HC5.out.mono ?_); rintro e w5 ⟨a1, cp1, rfl, HP, HB5'⟩)
  have HB5 : Hid (Below w.heap.size w w5) := HB4.out.trans (HB5'.out.mono HB4.out.size)
  have HPk5 := hid_w (HPk.out w5)
  clear HB4 HB5' HC5 HF2 HCo HFi
  go_upto_region 16 with (go_at_call 30; with_reducible (refine HPk5.out.mono ?_); rintro e v5 ⟨q, rfl, hq, rfl⟩; obtain ⟨i, j, HIJ, b2, o2, rfl, k0, k1⟩ := HPi.out v5 a1 HP q hq)
  obtain ⟨Q, HQ⟩ : ∃ Q, Hid (Q = v5.heap.size) := ⟨_, rfl⟩
  obtain ⟨W0, HW0⟩ : ∃ W0, Hid (W0 = v5.alloc (.cells #[.int .i64 (j : Int), .int .i64 (i : Int)] 36)) := ⟨_, rfl⟩
  have HB0 : Hid (Below w.heap.size w W0) := by rw [HW0.out]; exact HB5.out.alloc HB5.out.size _
  have HQ0 : Hid (W0.heap[Q]? = some (.cells #[.int .i64 (j : Int), .int .i64 (i : Int)] 36 (0, 0))) := by
    show _ = _
    rw [HW0.out, HQ.out]; exact heap_alloc_last _ _
  have HQc : Hid (∀ W, Below W0.heap.size W0 W → W.cell? ⟨Q, 0, none⟩ = some (.int .i64 (j : Int)) ∧ W.cell? ⟨Q, 1, none⟩ = some (.int .i64 (i : Int))) := fun W hW => by
    have h : W.heap[Q]? = some (.cells #[.int .i64 (j : Int), .int .i64 (i : Int)] 36 (0, 0)) := by rw [hW.block Q (lt_someN HQ0.out)]; exact HQ0.out
    exact ⟨by rw [cell_of_row W Q _ _ _ _ h]; rfl, by rw [cell_of_row W Q _ _ _ _ h]; rfl⟩
  have HBW : Hid (∀ W, Below W0.heap.size W0 W → Below w.heap.size w W) := fun W hW => HB0.out.trans (hW.mono HB0.out.size)
  rw [← HQ.out, ← HW0.out]
  obtain ⟨u, HU⟩ : ∃ u : ByteArray, Hid (u = ⟨(turned t.data.toList r c i j).toArray⟩) := ⟨_, rfl⟩
  obtain ⟨b, HBr⟩ : ∃ b : ByteArray, Hid (b = ⟨(brdT t.data.toList (r + 1) (c + 1)).toArray⟩) := ⟨_, rfl⟩
  have HUT : Hid (Til u.data.toList (r + 1) (c + 1)) := by rw [HU.out]; exact (turned_til HT.out HIJ.out.1 HIJ.out.2.1 HIJ.out.2.2).1
  have HUq : Hid (qR (cef (pz u.data.toList)) i j = true) := by show _ = _; rw [HU.out]; exact turned_qR HT.out HIJ.out.1 HIJ.out.2.1 HIJ.out.2.2
  have HUb : Hid (t = ⟨(turned u.data.toList r c i j).toArray⟩) := by
    show _ = _
    rw [HU.out]
    exact ba_extN (turned_back HT.out HIJ.out.1 HIJ.out.2.1 HIJ.out.2.2).symm
  obtain ⟨hne1, hne2⟩ : (u.toList == t.toList) = false ∧ ¬ u.toList = t.toList := by
    have h : ¬ u.data.toList = t.data.toList := by rw [HU.out]; exact turned_ne HT.out HIJ.out.1 HIJ.out.2.1 HIJ.out.2.2
    exact ba_neqB h
  have HP1 : Hid (∀ W, Below W0.heap.size W0 W → Calls Tryd.prog 21 #[.string t, .agg #[.int .i64 (j : Int), .int .i64 (i : Int)]] W fun e w' => e = .returned (.tuple #[.string u, .int .i64 0]) ∧ Hid (Below W.heap.size W w')) := fun W hW => BFlip_on t m W (HM.out W (HBW.out W hW)) i j r c HT.out HIJ.out.1 HIJ.out.2.1 HIJ.out.2.2 u HU.out
  have HP2 : Hid (∀ W, Below W0.heap.size W0 W → Calls Tryd.prog 21 #[.string u, .agg #[.int .i64 (j : Int), .int .i64 (i : Int)]] W fun e w' => e = .returned (.tuple #[.string t, .int .i64 0]) ∧ Hid (Below W.heap.size W w')) := fun W hW => BFlip_on u m W (HM.out W (HBW.out W hW)) i j r c HUT.out HIJ.out.1 HIJ.out.2.1 HUq.out t HUb.out
  have HD1 : Hid (∀ W, Below W0.heap.size W0 W → Calls Tryd.prog 10 #[.string t] W fun e w' => e = .returned (.tuple #[.string b, .int .i64 0]) ∧ Hid (Below W.heap.size W w')) := fun W hW => BBoard_ok t m W (HM.out W (HBW.out W hW)) (r + 1) (c + 1) HT.out b HBr.out
  have HD2 : Hid (∀ W, Below W0.heap.size W0 W → Calls Tryd.prog 10 #[.string u] W fun e w' => e = .returned (.tuple #[.string b, .int .i64 0]) ∧ Hid (Below W.heap.size W w')) := fun W hW => BBoard_ok u m W (HM.out W (HBW.out W hW)) (r + 1) (c + 1) HUT.out b (by rw [HBr.out, HU.out]; exact congrArg (fun x => (⟨List.toArray x⟩ : ByteArray)) (turned_brd HT.out HIJ.out.1 HIJ.out.2.1 HIJ.out.2.2).symm)
  clear k0 k1
  obtain ⟨q0, q1⟩ := HQc.out W0 (Below.refl _ _)
  have HC6 := hid_w (HP1.out W0 (Below.refl _ _))
  go_upto_region 17 with (go_at_call 21; with_reducible (refine HC6.out.mono ?_); rintro e w6 ⟨rfl, HB6⟩)
  clear q0 q1
  obtain ⟨q0, q1⟩ := HQc.out w6 HB6.out
  have HC7 := hid_w (HP2.out w6 HB6.out)
  go_upto_region 18 with (go_at_call 21; with_reducible (refine HC7.out.mono ?_); rintro e w7 ⟨rfl, HB7'⟩)
  clear q0 q1
  have HB7 : Hid (Below W0.heap.size W0 w7) := HB6.out.trans (HB7'.out.mono HB6.out.size)
  have HC8 := hid_w (HD1.out w7 HB7.out)
  go_upto_region 19 with (go_at_call 10; with_reducible (refine HC8.out.mono ?_); rintro e w8 ⟨rfl, HB8'⟩)
  have HB8 : Hid (Below W0.heap.size W0 w8) := HB7.out.trans (HB8'.out.mono HB7.out.size)
  have HC9 := hid_w (HD2.out w8 HB8.out)
  go_wp2_with (go_at_call 10; with_reducible (refine HC9.out.mono ?_); rintro e w9 ⟨rfl, HB9⟩)
  go_ret
  exact ⟨rfl, HBW.out _ (HB8.out.trans (HB9.out.mono HB8.out.size))⟩

set_option maxHeartbeats 8000000 in
set_option maxRecDepth 100000 in
theorem dback_ZN (s t : ByteArray) (k m : Int) (w : World) (_hk : -9223372036854775808 ≤ k ∧ k ≤ 9223372036854775807) (hm : w.cell? ⟨0, 0, none⟩ = some (.int .i64 m)) (hB : TabAt 1 Lib.deBruijn64tab w) (r0 c0 : Nat) (hz : BdN s.data.toList r0 c0 0) (hT : ∀ r c, ¬ Til t.data.toList r c) :
    Calls Tryd.prog 6 #[.string s, .string t, .int .i64 k] w fun e w' => e = .returned (.bool true) ∧ Below w.heap.size w w' := by
  have HM : Hid (∀ W, Below w.heap.size w W → W.cell? ⟨0, 0, none⟩ = some (.int .i64 m)) := fun W hW => (hW.cell (p := ⟨0, 0, none⟩) (World.block_lt_of_cell? w _ hm)).trans hm
  have HTb : Hid (∀ W, Below w.heap.size w W → TabAt 1 Lib.deBruijn64tab W) := tab_all hB (by decide)
  have HZ := hid_w hz
  have HT := hid_w hT
  have HF2 := hid_w (BFirst_two m w hm hB)
  have HCo : Hid (∀ W, Hid (Below w.heap.size w W) → Calls Tryd.prog 8 #[.string s] W fun e w' => e = .returned (.tuple #[.int .i64 ((0 : Nat) : Int), .int .i64 0]) ∧ Hid (Below W.heap.size W w')) := fun W hW => BCount_ok s m W (HM.out W hW.out) (HTb.out W hW.out) r0 c0 0 HZ.out
  have HFi : Hid (∀ W, Hid (Below w.heap.size w W) → Calls Tryd.prog 9 #[.string s] W fun e w' => e = .returned (.tuple #[.string ⟨#[]⟩, .int .i64 5]) ∧ Hid (Below W.heap.size W w')) := fun W hW => BFirst_none s m W (HM.out W hW.out) (HTb.out W hW.out) r0 c0 HZ.out
  have HBo : Hid (∀ W, Hid (Below w.heap.size w W) → Calls Tryd.prog 10 #[.string ⟨#[]⟩] W fun e w' => ∃ v er, e = .returned (.tuple #[.string v, .int .i64 er]) ∧ Hid (Below W.heap.size W w')) := fun W hW => BBoard_any ⟨#[]⟩ m W (HM.out W hW.out)
  have HFl : Hid (∀ W, Hid (Below w.heap.size w W) → Calls Tryd.prog 20 #[.string t] W fun e w' => e = .returned (.tuple #[.slice none 0 0, .int .i64 1]) ∧ Hid (Below W.heap.size W w')) := fun W hW => BFlips_no t m W (HM.out W hW.out) HT.out
  clear hm hB hz hT _hk
  go_enter Tryd.func6, Tryd.ntmps6
  go_upto_region 2 with (go_at_call 9; with_reducible (refine HF2.out.mono ?_); rintro e w1 ⟨rfl, HB1⟩)
  have HC1 := hid_w (HCo.out _ HB1)
  go_upto_region 5 with (go_at_call 8; with_reducible (refine HC1.out.mono ?_); rintro e w2 ⟨rfl, HB2'⟩)
  have HB2 : Hid (Below w.heap.size w w2) := HB1.out.trans (HB2'.out.mono HB1.out.size)
  have HC2 := hid_w (HFi.out _ HB2)
  go_upto_region 6 with (go_at_call 9; with_reducible (refine HC2.out.mono ?_); rintro e w3 ⟨rfl, HB3'⟩)
  have HB3 : Hid (Below w.heap.size w w3) := HB2.out.trans (HB3'.out.mono HB2.out.size)
  clear HB1 HB2 HB2' HB3' HC1 HC2
  have HC4 := hid_w (HBo.out _ HB3)
  go_upto_region 10 with (go_at_call 10; with_reducible (refine HC4.out.mono ?_); rintro e w4 ⟨v4, er4, rfl, HB4'⟩)
  have HB4 : Hid (Below w.heap.size w w4) := HB3.out.trans (HB4'.out.mono HB3.out.size)
  have HC5 := hid_w (HFl.out _ HB4)
  clear HB3 HB4' HC4
  go_wp2_with (go_at_call 20; with_reducible (refine HC5.out.mono ?_); rintro e w5 ⟨rfl, HB5'⟩)
  go_ret
  exact ⟨rfl, HB4.out.trans (HB5'.out.mono HB4.out.size)⟩

set_option maxHeartbeats 8000000 in
set_option maxRecDepth 100000 in
theorem dback_ZE (s t : ByteArray) (k m : Int) (w : World) (_hk : -9223372036854775808 ≤ k ∧ k ≤ 9223372036854775807) (hm : w.cell? ⟨0, 0, none⟩ = some (.int .i64 m)) (hB : TabAt 1 Lib.deBruijn64tab w) (r0 c0 : Nat) (hz : BdN s.data.toList r0 c0 0) (r c : Nat) (hT : Til t.data.toList (r + 1) (c + 1)) (hl : (blQ t.data.toList r c).length = 0) :
    Calls Tryd.prog 6 #[.string s, .string t, .int .i64 k] w fun e w' => e = .returned (.bool true) ∧ Below w.heap.size w w' := by
  have HM : Hid (∀ W, Below w.heap.size w W → W.cell? ⟨0, 0, none⟩ = some (.int .i64 m)) := fun W hW => (hW.cell (p := ⟨0, 0, none⟩) (World.block_lt_of_cell? w _ hm)).trans hm
  have HTb : Hid (∀ W, Below w.heap.size w W → TabAt 1 Lib.deBruijn64tab W) := tab_all hB (by decide)
  have HZ := hid_w hz
  have HT := hid_w hT
  have HF2 := hid_w (BFirst_two m w hm hB)
  have HCo : Hid (∀ W, Hid (Below w.heap.size w W) → Calls Tryd.prog 8 #[.string s] W fun e w' => e = .returned (.tuple #[.int .i64 ((0 : Nat) : Int), .int .i64 0]) ∧ Hid (Below W.heap.size W w')) := fun W hW => BCount_ok s m W (HM.out W hW.out) (HTb.out W hW.out) r0 c0 0 HZ.out
  have HFi : Hid (∀ W, Hid (Below w.heap.size w W) → Calls Tryd.prog 9 #[.string s] W fun e w' => e = .returned (.tuple #[.string ⟨#[]⟩, .int .i64 5]) ∧ Hid (Below W.heap.size W w')) := fun W hW => BFirst_none s m W (HM.out W hW.out) (HTb.out W hW.out) r0 c0 HZ.out
  have HBo : Hid (∀ W, Hid (Below w.heap.size w W) → Calls Tryd.prog 10 #[.string ⟨#[]⟩] W fun e w' => ∃ v er, e = .returned (.tuple #[.string v, .int .i64 er]) ∧ Hid (Below W.heap.size W w')) := fun W hW => BBoard_any ⟨#[]⟩ m W (HM.out W hW.out)
  obtain ⟨l, HL⟩ : ∃ l, Hid (l = blQ t.data.toList r c) := ⟨_, rfl⟩
  obtain ⟨N, HN⟩ : ∃ N, Hid (N = (blQ t.data.toList r c).length) := ⟨_, rfl⟩
  have HFl : Hid (∀ W, Hid (Below w.heap.size w W) → Calls Tryd.prog 20 #[.string t] W fun e w' => ∃ a cp, e = .returned (.tuple #[.slice a N cp, .int .i64 0]) ∧ Hid (PtI w' a l) ∧ Hid (Below W.heap.size W w')) := fun W hW => by
    rw [HL.out]; exact BFlips_ok t m W (HM.out W hW.out) r c HT.out N HN.out
  obtain rfl : N = 0 := by rw [HN.out]; exact hl
  clear hm hB hz hT _hk hl
  go_enter Tryd.func6, Tryd.ntmps6
  go_upto_region 2 with (go_at_call 9; with_reducible (refine HF2.out.mono ?_); rintro e w1 ⟨rfl, HB1⟩)
  have HC1 := hid_w (HCo.out _ HB1)
  go_upto_region 5 with (go_at_call 8; with_reducible (refine HC1.out.mono ?_); rintro e w2 ⟨rfl, HB2'⟩)
  have HB2 : Hid (Below w.heap.size w w2) := HB1.out.trans (HB2'.out.mono HB1.out.size)
  have HC2 := hid_w (HFi.out _ HB2)
  go_upto_region 6 with (go_at_call 9; with_reducible (refine HC2.out.mono ?_); rintro e w3 ⟨rfl, HB3'⟩)
  have HB3 : Hid (Below w.heap.size w w3) := HB2.out.trans (HB3'.out.mono HB2.out.size)
  clear HB1 HB2 HB2' HB3' HC1 HC2
  have HC4 := hid_w (HBo.out _ HB3)
  go_upto_region 10 with (go_at_call 10; with_reducible (refine HC4.out.mono ?_); rintro e w4 ⟨v4, er4, rfl, HB4'⟩)
  have HB4 : Hid (Below w.heap.size w w4) := HB3.out.trans (HB4'.out.mono HB3.out.size)
  have HC5 := hid_w (HFl.out _ HB4)
  clear HB3 HB4' HC4
  go_wp2_with (go_at_call 20; with_reducible (refine HC5.out.mono ?_); rintro e w5 ⟨a1, cp1, rfl, HP, HB5'⟩)
  go_ret
  exact ⟨rfl, HB4.out.trans (HB5'.out.mono HB4.out.size)⟩

set_option maxHeartbeats 8000000 in
set_option maxRecDepth 100000 in
theorem dback_ZB (s t : ByteArray) (k m : Int) (w : World) (hk : -9223372036854775808 ≤ k ∧ k ≤ 9223372036854775807) (hm : w.cell? ⟨0, 0, none⟩ = some (.int .i64 m)) (hB : TabAt 1 Lib.deBruijn64tab w) (r0 c0 : Nat) (hz : BdN s.data.toList r0 c0 0) (r c : Nat) (hT : Til t.data.toList (r + 1) (c + 1)) (hl : 0 < (blQ t.data.toList r c).length) :
    Calls Tryd.prog 6 #[.string s, .string t, .int .i64 k] w fun e w' => e = .returned (.bool true) ∧ Below w.heap.size w w' := by
  have HM : Hid (∀ W, Below w.heap.size w W → W.cell? ⟨0, 0, none⟩ = some (.int .i64 m)) := fun W hW => (hW.cell (p := ⟨0, 0, none⟩) (World.block_lt_of_cell? w _ hm)).trans hm
  have HTb : Hid (∀ W, Below w.heap.size w W → TabAt 1 Lib.deBruijn64tab W) := tab_all hB (by decide)
  have HZ := hid_w hz
  have HT := hid_w hT
  have HF2 := hid_w (BFirst_two m w hm hB)
  have HCo : Hid (∀ W, Hid (Below w.heap.size w W) → Calls Tryd.prog 8 #[.string s] W fun e w' => e = .returned (.tuple #[.int .i64 ((0 : Nat) : Int), .int .i64 0]) ∧ Hid (Below W.heap.size W w')) := fun W hW => BCount_ok s m W (HM.out W hW.out) (HTb.out W hW.out) r0 c0 0 HZ.out
  have HFi : Hid (∀ W, Hid (Below w.heap.size w W) → Calls Tryd.prog 9 #[.string s] W fun e w' => e = .returned (.tuple #[.string ⟨#[]⟩, .int .i64 5]) ∧ Hid (Below W.heap.size W w')) := fun W hW => BFirst_none s m W (HM.out W hW.out) (HTb.out W hW.out) r0 c0 HZ.out
  have HBo : Hid (∀ W, Hid (Below w.heap.size w W) → Calls Tryd.prog 10 #[.string ⟨#[]⟩] W fun e w' => ∃ v er, e = .returned (.tuple #[.string v, .int .i64 er]) ∧ Hid (Below W.heap.size W w')) := fun W hW => BBoard_any ⟨#[]⟩ m W (HM.out W hW.out)
  obtain ⟨l, HL⟩ : ∃ l, Hid (l = blQ t.data.toList r c) := ⟨_, rfl⟩
  obtain ⟨N, HN⟩ : ∃ N, Hid (N = (blQ t.data.toList r c).length) := ⟨_, rfl⟩
  have HFl : Hid (∀ W, Hid (Below w.heap.size w W) → Calls Tryd.prog 20 #[.string t] W fun e w' => ∃ a cp, e = .returned (.tuple #[.slice a N cp, .int .i64 0]) ∧ Hid (PtI w' a l) ∧ Hid (Below W.heap.size W w')) := fun W hW => by
    rw [HL.out]; exact BFlips_ok t m W (HM.out W hW.out) r c HT.out N HN.out
  have HNl : Hid (N = l.length) := by show _ = _; rw [HN.out, HL.out]
  have hN0 : 0 < N := by rw [HN.out]; exact hl
  have hN64 : N ≤ 64 := by rw [HN.out]; exact blQ_len hT
  have HPk : Hid (∀ W, Calls Tryd.prog 30 #[.int .i64 k, .int .i64 N] W fun e w' => ∃ q : Nat, e = .returned (.int .i64 q) ∧ q < N ∧ w' = W) := fun W => Pick_n k N W hk hN0 (by omega)
  have hN1 : ¬ (N : Int) = 0 := by omega
  have HPi : Hid (∀ (W : World) (a : Option Addr), Hid (PtI W a l) → ∀ q, q < N → ∃ i j : Nat, Hid (i < r ∧ j < c ∧ qR (cef (pz t.data.toList)) i j = true) ∧ ∃ b o, a = some ⟨b, o, none⟩ ∧ W.cell? ⟨b, o + q * 2, none⟩ = some (.int .i64 (j : Int)) ∧ W.cell? ⟨b, o + q * 2 + 1, none⟩ = some (.int .i64 (i : Int))) := fun W a hP q hq => by
    rw [HNl.out] at hq
    obtain ⟨i, j, h1, h2, h3, h4⟩ := blQ_at _ r c q (by rw [← HL.out]; exact hq)
    rw [← HL.out] at h4
    obtain ⟨b, o, h5, -, h6, h7⟩ := hP.out q hq
    rw [h4] at h6 h7
    exact ⟨i, j, ⟨h1, h2, h3⟩, b, o, h5, h6, h7⟩
  clear hm hB hz hT hk hl
  go_enter Tryd.func6, Tryd.ntmps6
  go_upto_region 2 with (go_at_call 9; with_reducible (refine HF2.out.mono ?_); rintro e w1 ⟨rfl, HB1⟩)
  have HC1 := hid_w (HCo.out _ HB1)
  go_upto_region 5 with (go_at_call 8; with_reducible (refine HC1.out.mono ?_); rintro e w2 ⟨rfl, HB2'⟩)
  have HB2 : Hid (Below w.heap.size w w2) := HB1.out.trans (HB2'.out.mono HB1.out.size)
  have HC2 := hid_w (HFi.out _ HB2)
  go_upto_region 6 with (go_at_call 9; with_reducible (refine HC2.out.mono ?_); rintro e w3 ⟨rfl, HB3'⟩)
  have HB3 : Hid (Below w.heap.size w w3) := HB2.out.trans (HB3'.out.mono HB2.out.size)
  clear HB1 HB2 HB2' HB3' HC1 HC2
  have HC4 := hid_w (HBo.out _ HB3)
  go_upto_region 10 with (go_at_call 10; with_reducible (refine HC4.out.mono ?_); rintro e w4 ⟨v4, er4, rfl, HB4'⟩)
  have HB4 : Hid (Below w.heap.size w w4) := HB3.out.trans (HB4'.out.mono HB3.out.size)
  have HC5 := hid_w (HFl.out _ HB4)
  clear HB3 HB4' HC4
  go_upto_region 13 with (go_at_call 20; with_reducible (refine HC5.out.mono ?_); rintro e w5 ⟨a1, cp1, rfl, HP, HB5'⟩)
  have HB5 : Hid (Below w.heap.size w w5) := HB4.out.trans (HB5'.out.mono HB4.out.size)
  have HPk5 := hid_w (HPk.out w5)
  clear HB4 HB5' HC5 HF2 HCo HFi
  go_upto_region 16 with (go_at_call 30; with_reducible (refine HPk5.out.mono ?_); rintro e v5 ⟨q, rfl, hq, rfl⟩; obtain ⟨i, j, HIJ, b2, o2, rfl, k0, k1⟩ := HPi.out v5 a1 HP q hq)
  obtain ⟨Q, HQ⟩ : ∃ Q, Hid (Q = v5.heap.size) := ⟨_, rfl⟩
  obtain ⟨W0, HW0⟩ : ∃ W0, Hid (W0 = v5.alloc (.cells #[.int .i64 (j : Int), .int .i64 (i : Int)] 36)) := ⟨_, rfl⟩
  have HB0 : Hid (Below w.heap.size w W0) := by rw [HW0.out]; exact HB5.out.alloc HB5.out.size _
  have HQ0 : Hid (W0.heap[Q]? = some (.cells #[.int .i64 (j : Int), .int .i64 (i : Int)] 36 (0, 0))) := by
    show _ = _
    rw [HW0.out, HQ.out]; exact heap_alloc_last _ _
  have HQc : Hid (∀ W, Below W0.heap.size W0 W → W.cell? ⟨Q, 0, none⟩ = some (.int .i64 (j : Int)) ∧ W.cell? ⟨Q, 1, none⟩ = some (.int .i64 (i : Int))) := fun W hW => by
    have h : W.heap[Q]? = some (.cells #[.int .i64 (j : Int), .int .i64 (i : Int)] 36 (0, 0)) := by rw [hW.block Q (lt_someN HQ0.out)]; exact HQ0.out
    exact ⟨by rw [cell_of_row W Q _ _ _ _ h]; rfl, by rw [cell_of_row W Q _ _ _ _ h]; rfl⟩
  have HBW : Hid (∀ W, Below W0.heap.size W0 W → Below w.heap.size w W) := fun W hW => HB0.out.trans (hW.mono HB0.out.size)
  rw [← HQ.out, ← HW0.out]
  obtain ⟨u, HU⟩ : ∃ u : ByteArray, Hid (u = ⟨(turned t.data.toList r c i j).toArray⟩) := ⟨_, rfl⟩
  obtain ⟨b, HBr⟩ : ∃ b : ByteArray, Hid (b = ⟨(brdT t.data.toList (r + 1) (c + 1)).toArray⟩) := ⟨_, rfl⟩
  have HUT : Hid (Til u.data.toList (r + 1) (c + 1)) := by rw [HU.out]; exact (turned_til HT.out HIJ.out.1 HIJ.out.2.1 HIJ.out.2.2).1
  have HUq : Hid (qR (cef (pz u.data.toList)) i j = true) := by show _ = _; rw [HU.out]; exact turned_qR HT.out HIJ.out.1 HIJ.out.2.1 HIJ.out.2.2
  have HUb : Hid (t = ⟨(turned u.data.toList r c i j).toArray⟩) := by
    show _ = _
    rw [HU.out]
    exact ba_extN (turned_back HT.out HIJ.out.1 HIJ.out.2.1 HIJ.out.2.2).symm
  obtain ⟨hne1, hne2⟩ : (u.toList == t.toList) = false ∧ ¬ u.toList = t.toList := by
    have h : ¬ u.data.toList = t.data.toList := by rw [HU.out]; exact turned_ne HT.out HIJ.out.1 HIJ.out.2.1 HIJ.out.2.2
    exact ba_neqB h
  have HP1 : Hid (∀ W, Below W0.heap.size W0 W → Calls Tryd.prog 21 #[.string t, .agg #[.int .i64 (j : Int), .int .i64 (i : Int)]] W fun e w' => e = .returned (.tuple #[.string u, .int .i64 0]) ∧ Hid (Below W.heap.size W w')) := fun W hW => BFlip_on t m W (HM.out W (HBW.out W hW)) i j r c HT.out HIJ.out.1 HIJ.out.2.1 HIJ.out.2.2 u HU.out
  have HP2 : Hid (∀ W, Below W0.heap.size W0 W → Calls Tryd.prog 21 #[.string u, .agg #[.int .i64 (j : Int), .int .i64 (i : Int)]] W fun e w' => e = .returned (.tuple #[.string t, .int .i64 0]) ∧ Hid (Below W.heap.size W w')) := fun W hW => BFlip_on u m W (HM.out W (HBW.out W hW)) i j r c HUT.out HIJ.out.1 HIJ.out.2.1 HUq.out t HUb.out
  have HD1 : Hid (∀ W, Below W0.heap.size W0 W → Calls Tryd.prog 10 #[.string t] W fun e w' => e = .returned (.tuple #[.string b, .int .i64 0]) ∧ Hid (Below W.heap.size W w')) := fun W hW => BBoard_ok t m W (HM.out W (HBW.out W hW)) (r + 1) (c + 1) HT.out b HBr.out
  have HD2 : Hid (∀ W, Below W0.heap.size W0 W → Calls Tryd.prog 10 #[.string u] W fun e w' => e = .returned (.tuple #[.string b, .int .i64 0]) ∧ Hid (Below W.heap.size W w')) := fun W hW => BBoard_ok u m W (HM.out W (HBW.out W hW)) (r + 1) (c + 1) HUT.out b (by rw [HBr.out, HU.out]; exact congrArg (fun x => (⟨List.toArray x⟩ : ByteArray)) (turned_brd HT.out HIJ.out.1 HIJ.out.2.1 HIJ.out.2.2).symm)
  clear k0 k1
  obtain ⟨q0, q1⟩ := HQc.out W0 (Below.refl _ _)
  have HC6 := hid_w (HP1.out W0 (Below.refl _ _))
  go_upto_region 17 with (go_at_call 21; with_reducible (refine HC6.out.mono ?_); rintro e w6 ⟨rfl, HB6⟩)
  clear q0 q1
  obtain ⟨q0, q1⟩ := HQc.out w6 HB6.out
  have HC7 := hid_w (HP2.out w6 HB6.out)
  go_upto_region 18 with (go_at_call 21; with_reducible (refine HC7.out.mono ?_); rintro e w7 ⟨rfl, HB7'⟩)
  clear q0 q1
  have HB7 : Hid (Below W0.heap.size W0 w7) := HB6.out.trans (HB7'.out.mono HB6.out.size)
  have HC8 := hid_w (HD1.out w7 HB7.out)
  go_upto_region 19 with (go_at_call 10; with_reducible (refine HC8.out.mono ?_); rintro e w8 ⟨rfl, HB8'⟩)
  have HB8 : Hid (Below W0.heap.size W0 w8) := HB7.out.trans (HB8'.out.mono HB7.out.size)
  have HC9 := hid_w (HD2.out w8 HB8.out)
  go_wp2_with (go_at_call 10; with_reducible (refine HC9.out.mono ?_); rintro e w9 ⟨rfl, HB9⟩)
  go_ret
  exact ⟨rfl, HBW.out _ (HB8.out.trans (HB9.out.mono HB8.out.size))⟩

theorem dback_at (s t : ByteArray) (k m : Int) (w : World) (hk : -9223372036854775808 ≤ k ∧ k ≤ 9223372036854775807) (hm : w.cell? ⟨0, 0, none⟩ = some (.int .i64 m)) (hB : TabAt 1 Lib.deBruijn64tab w) :
    Calls Tryd.prog 6 #[.string s, .string t, .int .i64 k] w fun e w' => e = .returned (.bool true) ∧ Below w.heap.size w w' := by
  have hA : (∀ r c, ¬ Shz bdL r c (pz s.data.toList)) ∨ (∃ r c n, BdN s.data.toList r c n ∧ 0 < n) ∨ ∃ r c, BdN s.data.toList r c 0 := by
    by_cases h : ∃ r c, Shz bdL r c (pz s.data.toList)
    · obtain ⟨r, c, h⟩ := h
      obtain ⟨x, hx⟩ := out_ex r c (cef (pz s.data.toList)) h.2.2.1 h.2.2.2.2.1
      rcases Nat.eq_zero_or_pos (cntC x) with h0 | h0
      · exact Or.inr (Or.inr ⟨r, c, h, x, hx, h0.symm⟩)
      · exact Or.inr (Or.inl ⟨r, c, cntC x, ⟨h, x, hx, rfl⟩, h0⟩)
    · exact Or.inl (fun r c q => h ⟨r, c, q⟩)
  have hR : (∀ r c, ¬ Til t.data.toList r c) ∨ (∃ r c, Til t.data.toList (r + 1) (c + 1) ∧ (blQ t.data.toList r c).length = 0) ∨ ∃ r c, Til t.data.toList (r + 1) (c + 1) ∧ 0 < (blQ t.data.toList r c).length := by
    by_cases h : ∃ r c, Til t.data.toList r c
    · obtain ⟨r, c, h⟩ := h
      have h1 := h.1.2.1
      have h2 := h.1.2.2.2.1
      obtain ⟨r', rfl⟩ : ∃ r', r = r' + 1 := ⟨r - 1, by omega⟩
      obtain ⟨c', rfl⟩ : ∃ c', c = c' + 1 := ⟨c - 1, by omega⟩
      rcases Nat.eq_zero_or_pos (blQ t.data.toList r' c').length with h0 | h0
      · exact Or.inr (Or.inl ⟨r', c', h, h0⟩)
      · exact Or.inr (Or.inr ⟨r', c', h, h0⟩)
    · exact Or.inl (fun r c q => h ⟨r, c, q⟩)
  rcases hA with hA | ⟨r, c, n, hA, hn⟩ | ⟨r, c, hA⟩
  · rcases hR with hR | ⟨r', c', hR, h0⟩ | ⟨r', c', hR, h0⟩
    · exact dback_NN s t k m w hk hm hB hA hR
    · exact dback_NE s t k m w hk hm hB hA r' c' hR h0
    · exact dback_NB s t k m w hk hm hB hA r' c' hR h0
  · rcases hR with hR | ⟨r', c', hR, h0⟩ | ⟨r', c', hR, h0⟩
    · exact dback_PN s t k m w hk hm hB r c n hA hn hR
    · exact dback_PE s t k m w hk hm hB r c n hA hn r' c' hR h0
    · exact dback_PB s t k m w hk hm hB r c n hA hn r' c' hR h0
  · rcases hR with hR | ⟨r', c', hR, h0⟩ | ⟨r', c', hR, h0⟩
    · exact dback_ZN s t k m w hk hm hB r c hA hR
    · exact dback_ZE s t k m w hk hm hB r c hA r' c' hR h0
    · exact dback_ZB s t k m w hk hm hB r c hA r' c' hR h0

end Go.Proofs.YtcnmndbckjmliaaDoor
