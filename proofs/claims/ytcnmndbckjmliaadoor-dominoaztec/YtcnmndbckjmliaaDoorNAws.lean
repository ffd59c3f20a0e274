/-
  ferkeep.DominoAztec returns true: the diamonds of order 1 to 3.
-/
import Derived.Test.YtcnmndbckjmliaaDoorNAwl
import Derived.Laws.CopyOwn
import Derived.Test.YtcnmndbckjmliaaDoorNBkl
import Derived.Test.YtcnmndbckjmliaaDoorNAz
namespace Go.Proofs.YtcnmndbckjmliaaDoor
open Go.RowKit

/-- A list of choices that came in. -/
def BoA (w : World) (a : Option Addr) (n : Nat) (bs : List Bool) : Prop := bs.length = n ∧ (0 < n → ∃ b off, a = some ⟨b, off, none⟩ ∧ b < w.heap.size ∧ ∀ j, j < n → w.cell? ⟨b, off + j, none⟩ = some (.bool (bs.getD j false)))

theorem run_copy_bools {w0 w : World} {ua : Option Addr} {un uc cap G B : Nat} {cu cs : List Value} (hrow : w.heap[G]? = some (.cells cu.toArray 4 (0, 0))) (hn : cs.length = Nat.min un cap)
    (hpos : 0 < cs.length → (some (⟨G, 0, none⟩ : Addr)) = some ⟨G, 0, none⟩ ∧ ∃ ad, ua = some ad ∧ ∀ j v, cs[j]? = some v → w.cell? (ad.add j) = some v)
    (hfit : 0 + cs.length ≤ cu.length) (h1 : ∀ v ∈ cs, v.oneCell' = true) (hb : Below B w0 w) (hB : B ≤ G) :
    ∃ w2, Sem.run Tryd.prog (Builtin.copy_ #[47, 47] 3 #[.slice (some ⟨G, 0, none⟩) cap cap, .slice ua un uc]) w = .ok (.int .i64 cs.length) w2 ∧
      Hid (w2.heap[G]? = some (.cells (splice cu 0 cs).toArray 4 (0, 0))) ∧ Below B w0 w2 := by
  have hsz : (Tryd.prog.info? 4).map (·.size) = some 1 := by kernel_rfl
  by_cases h0 : cs.length = 0
  · obtain rfl : cs = [] := List.eq_nil_of_length_eq_zero h0
    exact ⟨w, run_copy_none (P := Tryd.prog) w 47 47 3 4 _ _ _ _ _ _ Tryd.underlying47 hsz (by simpa using hn.symm), by simpa [Hid, splice] using hrow, hb⟩
  · obtain ⟨-, ad, rfl, hsrc⟩ := hpos (by omega)
    have hrun := run_copy_row (P := Tryd.prog) w 47 47 3 4 G 0 cap cap ad un uc cu.toArray 4 cs Tryd.underlying47 hsz hrow hn hsrc (by simpa using hfit) h1
    refine ⟨_, hrun, ?_, below_setRow hb hB _⟩
    show _ = _
    rw [setRow_heap w G _ _ 4 _ hrow]
    simp [splice]

set_option maxHeartbeats 8000000 in
set_option maxRecDepth 100000 in
theorem daz_1 (k : Int) (ta ua : Option Addr) (tn tc un uc : Nat) (zs : List Int) (m : Int) (w : World) (hm : w.cell? ⟨0, 0, none⟩ = some (.int .i64 m)) (hB : TabAt 1 Lib.deBruijn64tab w) (hz : Shows w ta zs) (hzn : tn = zs.length) (hzb : ∀ z ∈ zs, -9223372036854775808 ≤ z ∧ z ≤ 9223372036854775807)
    (bs : List Bool) (hba : BoA w ua un bs) (hk : -9223372036854775808 ≤ k ∧ k ≤ 9223372036854775807) (c : Nat) (hc : c = 0) (hPk : ∀ w : World, Calls Tryd.prog 30 #[.int .i64 k, .int .i64 4] w fun e w' => e = .returned (.int .i64 (c : Int)) ∧ w' = w) :
    Calls Tryd.prog 7 #[.int .i64 k, .slice ta tn tc, .slice ua un uc] w fun e w' => e = .returned (.bool true) ∧ Below w.heap.size w w' := by
  have HM : Hid (∀ W, Below w.heap.size w W → W.cell? ⟨0, 0, none⟩ = some (.int .i64 m)) := fun W hW => (hW.cell (p := ⟨0, 0, none⟩) (World.block_lt_of_cell? w _ hm)).trans hm
  have HTb : Hid (∀ W, Below w.heap.size w W → TabAt 1 Lib.deBruijn64tab W) := tab_all hB (by decide)
  have HZ := hid_w hz
  have HZn := hid_w hzn
  have HZb := hid_w hzb
  obtain ⟨n, HN⟩ : ∃ n, Hid (n = c + 1) := ⟨_, rfl⟩
  have HN4 : Hid (n = 1) := by show _ = _; rw [HN.out, hc]
  obtain ⟨D, HD⟩ : ∃ D : ByteArray, Hid (D = ⟨(dmT n).toArray⟩) := ⟨_, rfl⟩
  have HPk : Hid (Calls Tryd.prog 30 #[.int .i64 k, .int .i64 4] w fun e w' => e = .returned (.int .i64 0) ∧ w' = w) := by have h := hPk w; rw [hc] at h; exact h
  have HAz : Hid (Calls Tryd.prog 18 #[.int .i64 1] w fun e w' => e = .returned (.tuple #[.string D, .int .i64 0]) ∧ Hid (Below w.heap.size w w')) := by
    have h := Aztec_ok n w (by rw [HN4.out]; omega) (by rw [HN4.out]; omega)
    rw [HD.out]; unfold dmT
    rw [HN4.out] at h ⊢; exact h
  have HBn : Hid (BdN D.data.toList (2 * n) (2 * n) 2) := by
    have h := dmT_bdn n (by rw [HN4.out]; omega) (by rw [HN4.out]; omega)
    rw [show 2 ^ (n * (n + 1) / 2) = 2 by rw [HN4.out]] at h
    rw [HD.out]; exact h
  have HCo : Hid (∀ W, Hid (Below w.heap.size w W) → Calls Tryd.prog 8 #[.string D] W fun e w' => e = .returned (.tuple #[.int .i64 2, .int .i64 0]) ∧ Hid (Below W.heap.size W w')) := fun W hW => BCount_ok D m W (HM.out W hW.out) (HTb.out W hW.out) _ _ _ HBn.out
  have HFi : Hid (∀ W, Hid (Below w.heap.size w W) → Calls Tryd.prog 9 #[.string D] W fun e w' => ∃ u : ByteArray, e = .returned (.tuple #[.string u, .int .i64 0]) ∧ Hid (AzT n u.data.toList) ∧ Hid (Below W.heap.size W w')) := fun W hW => by
    refine (BFirst_ok D m W (HM.out W hW.out) (HTb.out W hW.out) _ _ _ HBn.out (by omega)).mono ?_
    rintro e w' ⟨u, rfl, hu, hB⟩
    exact ⟨u, rfl, ⟨hu.out.1, by rw [hu.out.2, HD.out]⟩, hB⟩
  have HBa := hid_w hba
  have HK := hid_w hk
  clear hm hB hz hzn hzb hPk hc hba hk
  go_enter Tryd.func7, Tryd.ntmps7
  go_upto_region 2 with (go_at_call 30; with_reducible (refine HPk.out.mono ?_); rintro e v0 ⟨rfl, rfl⟩)
  go_upto_region 3 with (go_at_call 18; with_reducible (refine HAz.out.mono ?_); rintro e w1 ⟨rfl, HB1⟩)
  have HC1 := hid_w (HCo.out _ HB1)
  go_upto_region 4 with (go_at_call 8; with_reducible (refine HC1.out.mono ?_); rintro e w2 ⟨rfl, HB2'⟩)
  have HB2 : Hid (Below v0.heap.size v0 w2) := HB1.out.trans (HB2'.out.mono HB1.out.size)
  have HC2 := hid_w (HFi.out _ HB2)
  go_upto_region 7 with (go_at_call 9; with_reducible (refine HC2.out.mono ?_); rintro e w3 ⟨t0, rfl, HT0, HB3'⟩)
  have HB3 : Hid (Below v0.heap.size v0 w3) := HB2.out.trans (HB3'.out.mono HB2.out.size)
  obtain ⟨r, HR⟩ : ∃ r, Hid (r = 2 * n - 1) := ⟨_, rfl⟩
  have HFl : Hid (∀ (t : ByteArray) W, Hid (AzT n t.data.toList) → Hid (Below v0.heap.size v0 W) → ∃ N, 0 < N ∧ N ≤ 64 ∧ Hid (N = (blQ t.data.toList r r).length) ∧ Hid (Calls Tryd.prog 20 #[.string t] W fun e w' => ∃ a cp, e = .returned (.tuple #[.slice a N cp, .int .i64 0]) ∧ Hid (PtI w' a (blQ t.data.toList r r)) ∧ Hid (Below W.heap.size W w'))) := fun t W hT hW => by
    have h1 : 1 ≤ n := by rw [HN4.out]; omega
    have h4 : n ≤ 4 := by rw [HN4.out]; omega
    have hTr : Til t.data.toList (r + 1) (r + 1) := by rw [HR.out, show 2 * n - 1 + 1 = 2 * n by omega]; exact hT.out.1
    exact ⟨_, by rw [HR.out]; exact AzT.flips hT.out h1 h4, blQ_len hTr, rfl, BFlips_ok t m W (HM.out W hW.out) r r hTr _ rfl⟩
  have HFp : Hid (∀ (t : ByteArray) W (i j : Nat), Hid (AzT n t.data.toList) → Hid (Below v0.heap.size v0 W) → Hid (i < r ∧ j < r ∧ qR (cef (pz t.data.toList)) i j = true) → Calls Tryd.prog 21 #[.string t, .agg #[.int .i64 (j : Int), .int .i64 (i : Int)]] W fun e w' => ∃ u : ByteArray, e = .returned (.tuple #[.string u, .int .i64 0]) ∧ Hid (AzT n u.data.toList) ∧ Hid (Below W.heap.size W w')) := fun t W i j hT hW hij => by
    have h1 : 1 ≤ n := by rw [HN4.out]; omega
    have hTr : Til t.data.toList (r + 1) (r + 1) := by rw [HR.out, show 2 * n - 1 + 1 = 2 * n by omega]; exact hT.out.1
    refine (BFlip_on t m W (HM.out W hW.out) i j r r hTr hij.out.1 hij.out.2.1 hij.out.2.2 _ rfl).mono ?_
    rintro e w' ⟨rfl, hB⟩
    have hu := AzT.turn hT.out h1 (by rw [← HR.out]; exact hij.out.1) (by rw [← HR.out]; exact hij.out.2.1) hij.out.2.2
    rw [← HR.out] at hu
    exact ⟨_, rfl, hu, hB⟩
  clear HC1 HC2 HAz HPk HCo HFi HB1 HB2' HB2 HB3'
  go_upto_region 8 with fail
  go_loopw [9, 12, 13] (fun e9 s12 v wr => ∃ (i : Nat) (t : ByteArray), i ≤ tn ∧ v = .int .i64 (i : Int) ∧ s12 = .string t ∧ e9 = .int .i64 0 ∧ Hid (AzT n t.data.toList) ∧ Hid (Below v0.heap.size v0 wr)) (fun _ _ v _ => tn - (intOf v).toNat)
  case atStart => exact ⟨0, t0, Nat.zero_le _, rfl, rfl, rfl, HT0, HB3⟩
  case round =>
    clear HT0 HB3
    obtain ⟨i, t, hi, rfl, rfl, rfl, HT, HB⟩ := hrel
    by_cases hgo : i < tn ∧ i < 40
    · obtain ⟨hlt, h40⟩ := hgo
      have hlt' : (i : Int) < (tn : Int) := by omega
      have h40' : (i : Int) < 40 := by omega
      obtain ⟨N, hN0, hN64, HNb, HCf⟩ := HFl.out t wr HT HB
      have hN1 : ¬ (N : Int) = 0 := by omega
      go_upto_region 11 with (go_at_call 20; with_reducible (refine HCf.out.mono ?_); rintro e w5 ⟨a1, cp1, rfl, HP, HB5'⟩)
      have HB5 : Hid (Below v0.heap.size v0 w5) := HB.out.trans (HB5'.out.mono HB.out.size)
      obtain ⟨b3, o3, z, rfl, -, hz1, hz2, hz0⟩ := (HZ.out.below HB5.out).elem (k := i) (by rw [← HZn.out]; exact hlt)
      obtain ⟨q, hq, hPq⟩ := Pick_val z N ⟨hz1, hz2⟩ hN0 (by omega)
      have HPq := hid_w hPq
      have HPi : Hid (∀ (W : World) (a : Option Addr), Hid (PtI W a (blQ t.data.toList r r)) → ∀ q, q < N → ∃ i j : Nat, Hid (i < r ∧ j < r ∧ qR (cef (pz t.data.toList)) i j = true) ∧ ∃ b o, a = some ⟨b, o, none⟩ ∧ W.cell? ⟨b, o + q * 2, none⟩ = some (.int .i64 (j : Int)) ∧ W.cell? ⟨b, o + q * 2 + 1, none⟩ = some (.int .i64 (i : Int))) := fun W a hP q hq => by
        rw [HNb.out] at hq
        obtain ⟨i, j, h1, h2, h3, h4⟩ := blQ_at _ r r q hq
        obtain ⟨b, o, h5, -, h6, h7⟩ := hP.out q hq
        rw [h4] at h6 h7
        exact ⟨i, j, ⟨h1, h2, h3⟩, b, o, h5, h6, h7⟩
      clear hPq hz1 hz2
      go_wp2_with (first | (go_at_call 30; with_reducible (refine (HPq.out _).mono ?_); rintro e w6 ⟨rfl, rfl⟩; obtain ⟨i1, j1, HIJ, b2, o2, rfl, k0, k1⟩ := HPi.out _ a1 HP q hq) | (go_at_call 21; with_reducible (refine (HFp.out _ _ _ _ HT HB5 HIJ).mono ?_); rintro e w7 ⟨u, rfl, HTu, HB6'⟩))
      have HB6 : Hid (Below v0.heap.size v0 w7) := HB5.out.trans (HB6'.out.mono HB5.out.size)
      go_roundw
      case rel => exact ⟨i + 1, u, by omega, by go_num, rfl, rfl, HTu, HB6⟩
      case measure => simp [intOf]; omega
    · have hg : ¬ ((i : Int) < (tn : Int)) ∨ ((i : Int) < (tn : Int) ∧ ¬ (i : Int) < 40) := by omega
      have h1 : 1 ≤ n := by rw [HN4.out]; omega
      have h3 : n ≤ 3 := by rw [HN4.out]; omega
      obtain ⟨N0, l, N1, hH, hR⟩ := dm_shuf h1 h3 HT.out.1 (by rw [HT.out.2]; rfl)
      have HH := hid_w hH
      have HRr := hid_w hR
      obtain ⟨L, HL⟩ : ∃ L, Hid (L = l.length) := ⟨_, rfl⟩
      have hL64 : L ≤ 64 := by rw [HL.out]; exact hR.few
      have hLn : 2 ≤ L := by have h := hR.many; rw [HN4.out] at h; rw [HL.out]; exact h
      have HNd : Hid (Calls Tryd.prog 25 #[.string t] wr fun e w' => e = .returned (.tuple #[.int .i64 (L : Int), .int .i64 0]) ∧ Hid (Below wr.heap.size wr w')) := Needs_at hH m wr (HM.out wr HB.out) L HL.out
      have hg1 : ¬ ((L : Int) < 2) := by omega
      clear h1 h3 hH hR
      have HS1 : Hid (∀ (us : List Bool), us.length = L → ∃ x : ByteArray, Hid (x = ⟨(tx (2 * (n + 1)) (2 * (n + 1)) (cvK l us N1 L)).toArray⟩) ∧ ∀ (ga : Option Addr) (gc : Nat) W, Hid (Below v0.heap.size v0 W) → Hid (BoI W ga us) → Calls Tryd.prog 26 #[.string t, .slice ga L gc] W fun e w' => e = .returned (.tuple #[.string x, .int .i64 0]) ∧ Hid (Below W.heap.size W w')) := fun us hus => by
        refine ⟨_, rfl, fun ga gc W hW hb => ?_⟩
        have h := Shuffle_at HH.out m W (HM.out W hW.out) us L HL.out hus hL64 ga gc hb.out HRr.out.pts ⟨(tx (2 * (n + 1)) (2 * (n + 1)) (cvK l us N1 L)).toArray⟩ _ rfl (by rw [HL.out, HRr.out.same us]) rfl
        exact h
      obtain ⟨us, HUs⟩ : ∃ us, Hid (us = bs.take (min un L) ++ List.replicate (L - min un L) false) := ⟨_, rfl⟩
      have HUl : Hid (us.length = L) := by show _ = _; rw [HUs.out, List.length_append, List.length_take, List.length_replicate, HBa.out.1]; omega
      obtain ⟨cs, HCs⟩ : ∃ cs, Hid (cs = (bs.take (min un L)).map Value.bool) := ⟨_, rfl⟩
      obtain ⟨cu, HCu⟩ : ∃ cu, Hid (cu = List.replicate L (Value.bool false)) := ⟨_, rfl⟩
      have HSp : Hid (splice cu 0 cs = us.map Value.bool) := by
        show _ = _
        rw [HUs.out, HCs.out, HCu.out]; unfold splice
        rw [List.length_map, List.length_take, HBa.out.1]
        simp [List.drop_replicate, Nat.min_assoc]
        try omega
      obtain ⟨x, HX, HS2⟩ := HS1.out us HUl.out
      obtain ⟨i0, hi, hz0, hz1, hz2⟩ := info_parts (show (Tryd.prog.info? 4).map (fun i => (i.zero, i.size, i.bytes)) = some (some (.bool false), 1, 1) by kernel_rfl)
      have hsz1 : (Tryd.prog.info? 4).map (·.size) = some 1 := by kernel_rfl
      have HPk2 : Hid (∃ q : Nat, q < L ∧ ∀ w : World, Calls Tryd.prog 30 #[.int .i64 k, .int .i64 (L : Int)] w fun e w' => e = .returned (.int .i64 (q : Int)) ∧ w' = w) := Pick_val k L HK.out (by omega) (by omega)
      obtain ⟨q, hqL, hPq⟩ := HPk2.out
      have HPq := hid_w hPq
      obtain ⟨bq, HBq⟩ : ∃ bq, Hid (bq = us.getD q false) := ⟨_, rfl⟩
      obtain ⟨vs, HVs⟩ : ∃ vs, Hid (vs = us.set q (!bq)) := ⟨_, rfl⟩
      have HVl : Hid (vs.length = L) := by show _ = _; rw [HVs.out, List.length_set, HUl.out]
      obtain ⟨y, HY, HS3⟩ := HS1.out vs HVl.out
      have HXY : Hid ((y.toList == x.toList) = false ∧ ¬ y.toList = x.toList) := by
        refine ba_neqB fun e => ?_
        have hd : vs.getD q false ≠ us.getD q false := by
          rw [HVs.out, HBq.out]
          have hl : q < us.length := by rw [HUl.out]; exact hqL
          simp [List.getD, hl]
        refine HRr.out.two vs us q (by rw [← HL.out]; exact hqL) hd ?_
        rw [HX.out, HY.out] at e
        rw [← HL.out]
        simpa using e
      clear HPk2 hPq HS1
      have hqi : (q : Int) < (L : Int) := by omega
      rcases hg with hg | ⟨hg1, hg2⟩
      · go_upto_region 21 with (go_at_call 25; with_reducible (refine HNd.out.mono ?_); rintro e w8 ⟨rfl, HB8⟩)
        go_upto_region 57 with (at_make; refine wpList_make_full _ rfl _ _ 47 rfl w8.heap.size 4 i0 (.bool false) 1 Tryd.underlying47 hi hz0 hz1 _ _ _ _ L rfl rfl rfl rfl ?b1 ?b2 ?b3 ?_)
        case b1 => rw [hz2]; omega
        case b2 => unfold maxLen; omega
        case b3 => exact Nat.le_refl _
        intro w9 hown hgrow
        obtain ⟨G, HGq⟩ : ∃ G, Hid (G = w8.heap.size) := ⟨_, rfl⟩
        have HB89 : Hid (Below w8.heap.size w8 w9) := (Below.refl _ _).grown hgrow (Nat.le_refl _) (fun k h => by cases h)
        have HG9 : Hid (w9.heap[G]? = some (.cells cu.toArray 4 (0, 0))) := by
          show _ = _
          rw [HGq.out, HCu.out]
          rcases hown.2 with ⟨h2, _⟩ | ⟨g', cap', cur, hv, hg, hh, h4, h5, h6, h7⟩
          · cases h2
          · simp only [Value.slice.injEq, Option.some.injEq, Addr.mk.injEq, and_true, true_and] at hv
            obtain ⟨rfl, rfl⟩ := hv
            rw [hh]
            have e0 : cur.toList = List.replicate L (Value.bool false) := by
              rw [List.take_of_length_le (by rw [Array.length_toList, h6, Nat.mul_one]; exact Nat.le_refl _)] at h7
              rw [h7, toList_madeCells_one]
            rw [← e0]
        have HB08 : Hid (Below v0.heap.size v0 w8) := HB.out.trans (HB8.out.mono HB.out.size)
        have HB09 : Hid (Below v0.heap.size v0 w9) := HB08.out.trans (HB89.out.mono HB08.out.size)
        have hcl : cs.length = Nat.min un L := by rw [HCs.out, List.length_map, List.length_take, HBa.out.1]; show min (min un L) un = min un L; omega
        have hpos : 0 < cs.length → (some (⟨G, 0, none⟩ : Addr)) = some ⟨G, 0, none⟩ ∧ ∃ ad, ua = some ad ∧ ∀ j v, cs[j]? = some v → w9.cell? (ad.add j) = some v := fun h => by
          have hcu : cs.length = min un L := hcl
          obtain ⟨b, off, e, hb, hc⟩ := HBa.out.2 (by omega)
          refine ⟨rfl, _, e, fun j v hj => ?_⟩
          have hjl : j < cs.length := by
            rcases Nat.lt_or_ge j cs.length with z | z
            · exact z
            · rw [List.getElem?_eq_none z] at hj; cases hj
          have hbl : bs.length = un := HBa.out.1
          rw [Addr.add_lit, HB09.out.cell (p := ⟨b, off + j, none⟩) hb, hc j (by omega)]
          rw [HCs.out, List.getElem?_map, List.getElem?_take_of_lt (by omega), List.getElem?_eq_getElem (by omega)] at hj
          rw [List.getD_eq_getElem?_getD, List.getElem?_eq_getElem (by omega), Option.getD_some]
          simpa using hj
        have hfit : 0 + cs.length ≤ cu.length := by rw [HCu.out, List.length_replicate, hcl]; show 0 + min un L ≤ L; omega
        have hone : ∀ v ∈ cs, v.oneCell' = true := fun v hv => by
          rw [HCs.out] at hv
          obtain ⟨x, _, rfl⟩ := List.mem_map.1 hv; rfl
        have HKc := hid_w hcl
        have HKp := hid_w hpos
        have HKf := hid_w hfit
        have HKo := hid_w hone
        have HBG : Hid (v0.heap.size ≤ G) := by rw [HGq.out]; exact HB08.out.size
        rw [← HGq.out]
        obtain ⟨w10, hrun, HG10, hB10⟩ := run_copy_bools (ua := ua) (un := un) (uc := uc) HG9.out HKc.out HKp.out HKf.out HKo.out HB09.out HBG.out (cap := L)
        clear hcl hpos hfit hone hown hgrow
        have HBx : Hid (Below v0.heap.size v0 w10) := hB10
        have HGx : Hid (w10.heap[G]? = some (.cells (us.map Value.bool).toArray 4 (0, 0))) := by
          show _ = _
          rw [← HSp.out]; exact HG10.out
        have HBo : Hid (BoI w10 (some ⟨G, 0, none⟩) us) := fun j hj => ⟨G, rfl, lt_someN HGx.out, by
          rw [cell_of_row w10 G _ _ _ _ HGx.out]
          simp [List.getD, hj]⟩
        have HSa := hid_w (HS2 (some ⟨G, 0, none⟩) L w10 HBx HBo)
        obtain ⟨D1, HD1⟩ : ∃ D1 : ByteArray, Hid (D1 = ⟨(dmT (n + 1)).toArray⟩) := ⟨_, rfl⟩
        have HBd : Hid (∀ W, Hid (Below v0.heap.size v0 W) → Calls Tryd.prog 10 #[.string x] W fun e w' => e = .returned (.tuple #[.string D1, .int .i64 0]) ∧ Hid (Below W.heap.size W w')) := fun W hW => by
          have h := HRr.out.til us
          rw [← HL.out] at h
          refine BBoard_ok x m W (HM.out W hW.out) (2 * (n + 1)) (2 * (n + 1)) (by rw [HX.out]; exact h.1) D1 ?_
          rw [HD1.out, HX.out, h.2]; rfl
        have HAd : Hid (∀ W, Calls Tryd.prog 18 #[.int .i64 2] W fun e w' => e = .returned (.tuple #[.string D1, .int .i64 0]) ∧ Hid (Below W.heap.size W w')) := fun W => by
          have h := Aztec_ok (n + 1) W (by omega) (by rw [HN4.out]; omega)
          rw [HD1.out]; unfold dmT
          rw [HN4.out] at h ⊢; exact h
        clear HB8 HB89 HB08 HB09 hB10 HG9 HG10
        go_upto_region 24 with (go_at_call 26; with_reducible (refine HSa.out.mono ?_); rintro e w11 ⟨rfl, HB11'⟩)
        have HB11 : Hid (Below v0.heap.size v0 w11) := HBx.out.trans (HB11'.out.mono HBx.out.size)
        have HBc := hid_w (HBd.out w11 HB11)
        go_upto_region 25 with (go_at_call 10; with_reducible (refine HBc.out.mono ?_); rintro e w12 ⟨rfl, HB12'⟩)
        have HB12 : Hid (Below v0.heap.size v0 w12) := HB11.out.trans (HB12'.out.mono HB11.out.size)
        have HAc := hid_w (HAd.out w12)
        go_upto_region 28 with (go_at_call 18; with_reducible (refine HAc.out.mono ?_); rintro e w13 ⟨rfl, HB13'⟩)
        have HB13 : Hid (Below v0.heap.size v0 w13) := HB12.out.trans (HB13'.out.mono HB12.out.size)
        have HGd : Hid (w13.heap[G]? = some (.cells (us.map Value.bool).toArray 4 (0, 0))) := by
          have g0 : G < w10.heap.size := lt_someN HGx.out
          have g1 : G < w11.heap.size := Nat.lt_of_lt_of_le g0 HB11'.out.size
          have g2 : G < w12.heap.size := Nat.lt_of_lt_of_le g1 HB12'.out.size
          exact (((HB13'.out.block G g2).trans (HB12'.out.block G g1)).trans (HB11'.out.block G g0)).trans HGx.out
        have hfr : w13.frozen? ⟨G, q, none⟩ = false := frozen_of_row w13 _ q _ _ HGd.out
        have hce : w13.cell? ⟨G, q, none⟩ = some (.bool bq) := by
          rw [cell_of_row w13 G _ _ _ _ HGd.out, HBq.out]
          have hl : q < us.length := by rw [HUl.out]; exact hqL
          simp [List.getD, hl]
        obtain ⟨w14, HW14⟩ : ∃ w14, Hid (w14 = w13.setCell ⟨G, q, none⟩ (.bool (!bq))) := ⟨_, rfl⟩
        have HB14 : Hid (Below v0.heap.size v0 w14) := by rw [HW14.out]; exact HB13.out.setCell (p := ⟨G, q, none⟩) HBG.out _
        have HG14 : Hid (w14.heap[G]? = some (.cells (vs.map Value.bool).toArray 4 (0, 0))) := by
          show _ = _
          rw [HW14.out, heap_setCell_same w13 G q _ _ _ HGd.out, HVs.out]
          simp
        have HBv : Hid (BoI w14 (some ⟨G, 0, none⟩) vs) := fun j hj => ⟨G, rfl, lt_someN HG14.out, by
          rw [cell_of_row w14 G _ _ _ _ HG14.out]
          simp [List.getD, hj]⟩
        have HSc := hid_w (HS3 (some ⟨G, 0, none⟩) L w14 HB14 HBv)
        clear HSa HBc HAc HB11 HB12 HGx HBo HBx
        go_upto_region 29 with (go_at_call 30; with_reducible (refine (HPq.out _).mono ?_); rintro e w' ⟨rfl, rfl⟩)
        rw [← HW14.out]
        go_upto_region 30 with (go_at_call 26; with_reducible (refine HSc.out.mono ?_); rintro e w15 ⟨rfl, HB15⟩)
        obtain ⟨hxy1, hxy2⟩ := HXY.out
        go_wp2
        go_ret
        exact ⟨rfl, HB14.out.trans (HB15.out.mono HB14.out.size)⟩
      · go_upto_region 21 with (go_at_call 25; with_reducible (refine HNd.out.mono ?_); rintro e w8 ⟨rfl, HB8⟩)
        go_upto_region 57 with (at_make; refine wpList_make_full _ rfl _ _ 47 rfl w8.heap.size 4 i0 (.bool false) 1 Tryd.underlying47 hi hz0 hz1 _ _ _ _ L rfl rfl rfl rfl ?b1 ?b2 ?b3 ?_)
        case b1 => rw [hz2]; omega
        case b2 => unfold maxLen; omega
        case b3 => exact Nat.le_refl _
        intro w9 hown hgrow
        obtain ⟨G, HGq⟩ : ∃ G, Hid (G = w8.heap.size) := ⟨_, rfl⟩
        have HB89 : Hid (Below w8.heap.size w8 w9) := (Below.refl _ _).grown hgrow (Nat.le_refl _) (fun k h => by cases h)
        have HG9 : Hid (w9.heap[G]? = some (.cells cu.toArray 4 (0, 0))) := by
          show _ = _
          rw [HGq.out, HCu.out]
          rcases hown.2 with ⟨h2, _⟩ | ⟨g', cap', cur, hv, hg, hh, h4, h5, h6, h7⟩
          · cases h2
          · simp only [Value.slice.injEq, Option.some.injEq, Addr.mk.injEq, and_true, true_and] at hv
            obtain ⟨rfl, rfl⟩ := hv
            rw [hh]
            have e0 : cur.toList = List.replicate L (Value.bool false) := by
              rw [List.take_of_length_le (by rw [Array.length_toList, h6, Nat.mul_one]; exact Nat.le_refl _)] at h7
              rw [h7, toList_madeCells_one]
            rw [← e0]
        have HB08 : Hid (Below v0.heap.size v0 w8) := HB.out.trans (HB8.out.mono HB.out.size)
        have HB09 : Hid (Below v0.heap.size v0 w9) := HB08.out.trans (HB89.out.mono HB08.out.size)
        have hcl : cs.length = Nat.min un L := by rw [HCs.out, List.length_map, List.length_take, HBa.out.1]; show min (min un L) un = min un L; omega
        have hpos : 0 < cs.length → (some (⟨G, 0, none⟩ : Addr)) = some ⟨G, 0, none⟩ ∧ ∃ ad, ua = some ad ∧ ∀ j v, cs[j]? = some v → w9.cell? (ad.add j) = some v := fun h => by
          have hcu : cs.length = min un L := hcl
          obtain ⟨b, off, e, hb, hc⟩ := HBa.out.2 (by omega)
          refine ⟨rfl, _, e, fun j v hj => ?_⟩
          have hjl : j < cs.length := by
            rcases Nat.lt_or_ge j cs.length with z | z
            · exact z
            · rw [List.getElem?_eq_none z] at hj; cases hj
          have hbl : bs.length = un := HBa.out.1
          rw [Addr.add_lit, HB09.out.cell (p := ⟨b, off + j, none⟩) hb, hc j (by omega)]
          rw [HCs.out, List.getElem?_map, List.getElem?_take_of_lt (by omega), List.getElem?_eq_getElem (by omega)] at hj
          rw [List.getD_eq_getElem?_getD, List.getElem?_eq_getElem (by omega), Option.getD_some]
          simpa using hj
        have hfit : 0 + cs.length ≤ cu.length := by rw [HCu.out, List.length_replicate, hcl]; show 0 + min un L ≤ L; omega
        have hone : ∀ v ∈ cs, v.oneCell' = true := fun v hv => by
          rw [HCs.out] at hv
          obtain ⟨x, _, rfl⟩ := List.mem_map.1 hv; rfl
        have HKc := hid_w hcl
        have HKp := hid_w hpos
        have HKf := hid_w hfit
        have HKo := hid_w hone
        have HBG : Hid (v0.heap.size ≤ G) := by rw [HGq.out]; exact HB08.out.size
        rw [← HGq.out]
        obtain ⟨w10, hrun, HG10, hB10⟩ := run_copy_bools (ua := ua) (un := un) (uc := uc) HG9.out HKc.out HKp.out HKf.out HKo.out HB09.out HBG.out (cap := L)
        clear hcl hpos hfit hone hown hgrow
        have HBx : Hid (Below v0.heap.size v0 w10) := hB10
        have HGx : Hid (w10.heap[G]? = some (.cells (us.map Value.bool).toArray 4 (0, 0))) := by
          show _ = _
          rw [← HSp.out]; exact HG10.out
        have HBo : Hid (BoI w10 (some ⟨G, 0, none⟩) us) := fun j hj => ⟨G, rfl, lt_someN HGx.out, by
          rw [cell_of_row w10 G _ _ _ _ HGx.out]
          simp [List.getD, hj]⟩
        have HSa := hid_w (HS2 (some ⟨G, 0, none⟩) L w10 HBx HBo)
        obtain ⟨D1, HD1⟩ : ∃ D1 : ByteArray, Hid (D1 = ⟨(dmT (n + 1)).toArray⟩) := ⟨_, rfl⟩
        have HBd : Hid (∀ W, Hid (Below v0.heap.size v0 W) → Calls Tryd.prog 10 #[.string x] W fun e w' => e = .returned (.tuple #[.string D1, .int .i64 0]) ∧ Hid (Below W.heap.size W w')) := fun W hW => by
          have h := HRr.out.til us
          rw [← HL.out] at h
          refine BBoard_ok x m W (HM.out W hW.out) (2 * (n + 1)) (2 * (n + 1)) (by rw [HX.out]; exact h.1) D1 ?_
          rw [HD1.out, HX.out, h.2]; rfl
        have HAd : Hid (∀ W, Calls Tryd.prog 18 #[.int .i64 2] W fun e w' => e = .returned (.tuple #[.string D1, .int .i64 0]) ∧ Hid (Below W.heap.size W w')) := fun W => by
          have h := Aztec_ok (n + 1) W (by omega) (by rw [HN4.out]; omega)
          rw [HD1.out]; unfold dmT
          rw [HN4.out] at h ⊢; exact h
        clear HB8 HB89 HB08 HB09 hB10 HG9 HG10
        go_upto_region 24 with (go_at_call 26; with_reducible (refine HSa.out.mono ?_); rintro e w11 ⟨rfl, HB11'⟩)
        have HB11 : Hid (Below v0.heap.size v0 w11) := HBx.out.trans (HB11'.out.mono HBx.out.size)
        have HBc := hid_w (HBd.out w11 HB11)
        go_upto_region 25 with (go_at_call 10; with_reducible (refine HBc.out.mono ?_); rintro e w12 ⟨rfl, HB12'⟩)
        have HB12 : Hid (Below v0.heap.size v0 w12) := HB11.out.trans (HB12'.out.mono HB11.out.size)
        have HAc := hid_w (HAd.out w12)
        go_upto_region 28 with (go_at_call 18; with_reducible (refine HAc.out.mono ?_); rintro e w13 ⟨rfl, HB13'⟩)
        have HB13 : Hid (Below v0.heap.size v0 w13) := HB12.out.trans (HB13'.out.mono HB12.out.size)
        have HGd : Hid (w13.heap[G]? = some (.cells (us.map Value.bool).toArray 4 (0, 0))) := by
          have g0 : G < w10.heap.size := lt_someN HGx.out
          have g1 : G < w11.heap.size := Nat.lt_of_lt_of_le g0 HB11'.out.size
          have g2 : G < w12.heap.size := Nat.lt_of_lt_of_le g1 HB12'.out.size
          exact (((HB13'.out.block G g2).trans (HB12'.out.block G g1)).trans (HB11'.out.block G g0)).trans HGx.out
        have hfr : w13.frozen? ⟨G, q, none⟩ = false := frozen_of_row w13 _ q _ _ HGd.out
        have hce : w13.cell? ⟨G, q, none⟩ = some (.bool bq) := by
          rw [cell_of_row w13 G _ _ _ _ HGd.out, HBq.out]
          have hl : q < us.length := by rw [HUl.out]; exact hqL
          simp [List.getD, hl]
        obtain ⟨w14, HW14⟩ : ∃ w14, Hid (w14 = w13.setCell ⟨G, q, none⟩ (.bool (!bq))) := ⟨_, rfl⟩
        have HB14 : Hid (Below v0.heap.size v0 w14) := by rw [HW14.out]; exact HB13.out.setCell (p := ⟨G, q, none⟩) HBG.out _
        have HG14 : Hid (w14.heap[G]? = some (.cells (vs.map Value.bool).toArray 4 (0, 0))) := by
          show _ = _
          rw [HW14.out, heap_setCell_same w13 G q _ _ _ HGd.out, HVs.out]
          simp
        have HBv : Hid (BoI w14 (some ⟨G, 0, none⟩) vs) := fun j hj => ⟨G, rfl, lt_someN HG14.out, by
          rw [cell_of_row w14 G _ _ _ _ HG14.out]
          simp [List.getD, hj]⟩
        have HSc := hid_w (HS3 (some ⟨G, 0, none⟩) L w14 HB14 HBv)
        clear HSa HBc HAc HB11 HB12 HGx HBo HBx
        go_upto_region 29 with (go_at_call 30; with_reducible (refine (HPq.out _).mono ?_); rintro e w' ⟨rfl, rfl⟩)
        rw [← HW14.out]
        go_upto_region 30 with (go_at_call 26; with_reducible (refine HSc.out.mono ?_); rintro e w15 ⟨rfl, HB15⟩)
        obtain ⟨hxy1, hxy2⟩ := HXY.out
        go_wp2
        go_ret
        exact ⟨rfl, HB14.out.trans (HB15.out.mono HB14.out.size)⟩

set_option maxHeartbeats 8000000 in
set_option maxRecDepth 100000 in
theorem daz_2 (k : Int) (ta ua : Option Addr) (tn tc un uc : Nat) (zs : List Int) (m : Int) (w : World) (hm : w.cell? ⟨0, 0, none⟩ = some (.int .i64 m)) (hB : TabAt 1 Lib.deBruijn64tab w) (hz : Shows w ta zs) (hzn : tn = zs.length) (hzb : ∀ z ∈ zs, -9223372036854775808 ≤ z ∧ z ≤ 9223372036854775807)
    (bs : List Bool) (hba : BoA w ua un bs) (hk : -9223372036854775808 ≤ k ∧ k ≤ 9223372036854775807) (c : Nat) (hc : c = 1) (hPk : ∀ w : World, Calls Tryd.prog 30 #[.int .i64 k, .int .i64 4] w fun e w' => e = .returned (.int .i64 (c : Int)) ∧ w' = w) :
    Calls Tryd.prog 7 #[.int .i64 k, .slice ta tn tc, .slice ua un uc] w fun e w' => e = .returned (.bool true) ∧ Below w.heap.size w w' := by
  have HM : Hid (∀ W, Below w.heap.size w W → W.cell? ⟨0, 0, none⟩ = some (.int .i64 m)) := fun W hW => (hW.cell (p := ⟨0, 0, none⟩) (World.block_lt_of_cell? w _ hm)).trans hm
  have HTb : Hid (∀ W, Below w.heap.size w W → TabAt 1 Lib.deBruijn64tab W) := tab_all hB (by decide)
  have HZ := hid_w hz
  have HZn := hid_w hzn
  have HZb := hid_w hzb
  obtain ⟨n, HN⟩ : ∃ n, Hid (n = c + 1) := ⟨_, rfl⟩
  have HN4 : Hid (n = 2) := by show _ = _; rw [HN.out, hc]
  obtain ⟨D, HD⟩ : ∃ D : ByteArray, Hid (D = ⟨(dmT n).toArray⟩) := ⟨_, rfl⟩
  have HPk : Hid (Calls Tryd.prog 30 #[.int .i64 k, .int .i64 4] w fun e w' => e = .returned (.int .i64 1) ∧ w' = w) := by have h := hPk w; rw [hc] at h; exact h
  have HAz : Hid (Calls Tryd.prog 18 #[.int .i64 2] w fun e w' => e = .returned (.tuple #[.string D, .int .i64 0]) ∧ Hid (Below w.heap.size w w')) := by
    have h := Aztec_ok n w (by rw [HN4.out]; omega) (by rw [HN4.out]; omega)
    rw [HD.out]; unfold dmT
    rw [HN4.out] at h ⊢; exact h
  have HBn : Hid (BdN D.data.toList (2 * n) (2 * n) 8) := by
    have h := dmT_bdn n (by rw [HN4.out]; omega) (by rw [HN4.out]; omega)
    rw [show 2 ^ (n * (n + 1) / 2) = 8 by rw [HN4.out]] at h
    rw [HD.out]; exact h
  have HCo : Hid (∀ W, Hid (Below w.heap.size w W) → Calls Tryd.prog 8 #[.string D] W fun e w' => e = .returned (.tuple #[.int .i64 8, .int .i64 0]) ∧ Hid (Below W.heap.size W w')) := fun W hW => BCount_ok D m W (HM.out W hW.out) (HTb.out W hW.out) _ _ _ HBn.out
  have HFi : Hid (∀ W, Hid (Below w.heap.size w W) → Calls Tryd.prog 9 #[.string D] W fun e w' => ∃ u : ByteArray, e = .returned (.tuple #[.string u, .int .i64 0]) ∧ Hid (AzT n u.data.toList) ∧ Hid (Below W.heap.size W w')) := fun W hW => by
    refine (BFirst_ok D m W (HM.out W hW.out) (HTb.out W hW.out) _ _ _ HBn.out (by omega)).mono ?_
    rintro e w' ⟨u, rfl, hu, hB⟩
    exact ⟨u, rfl, ⟨hu.out.1, by rw [hu.out.2, HD.out]⟩, hB⟩
  have HBa := hid_w hba
  have HK := hid_w hk
  clear hm hB hz hzn hzb hPk hc hba hk
  go_enter Tryd.func7, Tryd.ntmps7
  go_upto_region 2 with (go_at_call 30; with_reducible (refine HPk.out.mono ?_); rintro e v0 ⟨rfl, rfl⟩)
  go_upto_region 3 with (go_at_call 18; with_reducible (refine HAz.out.mono ?_); rintro e w1 ⟨rfl, HB1⟩)
  have HC1 := hid_w (HCo.out _ HB1)
  go_upto_region 4 with (go_at_call 8; with_reducible (refine HC1.out.mono ?_); rintro e w2 ⟨rfl, HB2'⟩)
  have HB2 : Hid (Below v0.heap.size v0 w2) := HB1.out.trans (HB2'.out.mono HB1.out.size)
  have HC2 := hid_w (HFi.out _ HB2)
  go_upto_region 7 with (go_at_call 9; with_reducible (refine HC2.out.mono ?_); rintro e w3 ⟨t0, rfl, HT0, HB3'⟩)
  have HB3 : Hid (Below v0.heap.size v0 w3) := HB2.out.trans (HB3'.out.mono HB2.out.size)
  obtain ⟨r, HR⟩ : ∃ r, Hid (r = 2 * n - 1) := ⟨_, rfl⟩
  have HFl : Hid (∀ (t : ByteArray) W, Hid (AzT n t.data.toList) → Hid (Below v0.heap.size v0 W) → ∃ N, 0 < N ∧ N ≤ 64 ∧ Hid (N = (blQ t.data.toList r r).length) ∧ Hid (Calls Tryd.prog 20 #[.string t] W fun e w' => ∃ a cp, e = .returned (.tuple #[.slice a N cp, .int .i64 0]) ∧ Hid (PtI w' a (blQ t.data.toList r r)) ∧ Hid (Below W.heap.size W w'))) := fun t W hT hW => by
    have h1 : 1 ≤ n := by rw [HN4.out]; omega
    have h4 : n ≤ 4 := by rw [HN4.out]; omega
    have hTr : Til t.data.toList (r + 1) (r + 1) := by rw [HR.out, show 2 * n - 1 + 1 = 2 * n by omega]; exact hT.out.1
    exact ⟨_, by rw [HR.out]; exact AzT.flips hT.out h1 h4, blQ_len hTr, rfl, BFlips_ok t m W (HM.out W hW.out) r r hTr _ rfl⟩
  have HFp : Hid (∀ (t : ByteArray) W (i j : Nat), Hid (AzT n t.data.toList) → Hid (Below v0.heap.size v0 W) → Hid (i < r ∧ j < r ∧ qR (cef (pz t.data.toList)) i j = true) → Calls Tryd.prog 21 #[.string t, .agg #[.int .i64 (j : Int), .int .i64 (i : Int)]] W fun e w' => ∃ u : ByteArray, e = .returned (.tuple #[.string u, .int .i64 0]) ∧ Hid (AzT n u.data.toList) ∧ Hid (Below W.heap.size W w')) := fun t W i j hT hW hij => by
    have h1 : 1 ≤ n := by rw [HN4.out]; omega
    have hTr : Til t.data.toList (r + 1) (r + 1) := by rw [HR.out, show 2 * n - 1 + 1 = 2 * n by omega]; exact hT.out.1
    refine (BFlip_on t m W (HM.out W hW.out) i j r r hTr hij.out.1 hij.out.2.1 hij.out.2.2 _ rfl).mono ?_
    rintro e w' ⟨rfl, hB⟩
    have hu := AzT.turn hT.out h1 (by rw [← HR.out]; exact hij.out.1) (by rw [← HR.out]; exact hij.out.2.1) hij.out.2.2
    rw [← HR.out] at hu
    exact ⟨_, rfl, hu, hB⟩
  clear HC1 HC2 HAz HPk HCo HFi HB1 HB2' HB2 HB3'
  go_upto_region 8 with fail
  go_loopw [9, 12, 13] (fun e9 s12 v wr => ∃ (i : Nat) (t : ByteArray), i ≤ tn ∧ v = .int .i64 (i : Int) ∧ s12 = .string t ∧ e9 = .int .i64 0 ∧ Hid (AzT n t.data.toList) ∧ Hid (Below v0.heap.size v0 wr)) (fun _ _ v _ => tn - (intOf v).toNat)
  case atStart => exact ⟨0, t0, Nat.zero_le _, rfl, rfl, rfl, HT0, HB3⟩
  case round =>
    clear HT0 HB3
    obtain ⟨i, t, hi, rfl, rfl, rfl, HT, HB⟩ := hrel
    by_cases hgo : i < tn ∧ i < 40
    · obtain ⟨hlt, h40⟩ := hgo
      have hlt' : (i : Int) < (tn : Int) := by omega
      have h40' : (i : Int) < 40 := by omega
      obtain ⟨N, hN0, hN64, HNb, HCf⟩ := HFl.out t wr HT HB
      have hN1 : ¬ (N : Int) = 0 := by omega
      go_upto_region 11 with (go_at_call 20; with_reducible (refine HCf.out.mono ?_); rintro e w5 ⟨a1, cp1, rfl, HP, HB5'⟩)
      have HB5 : Hid (Below v0.heap.size v0 w5) := HB.out.trans (HB5'.out.mono HB.out.size)
      obtain ⟨b3, o3, z, rfl, -, hz1, hz2, hz0⟩ := (HZ.out.below HB5.out).elem (k := i) (by rw [← HZn.out]; exact hlt)
      obtain ⟨q, hq, hPq⟩ := Pick_val z N ⟨hz1, hz2⟩ hN0 (by omega)
      have HPq := hid_w hPq
      have HPi : Hid (∀ (W : World) (a : Option Addr), Hid (PtI W a (blQ t.data.toList r r)) → ∀ q, q < N → ∃ i j : Nat, Hid (i < r ∧ j < r ∧ qR (cef (pz t.data.toList)) i j = true) ∧ ∃ b o, a = some ⟨b, o, none⟩ ∧ W.cell? ⟨b, o + q * 2, none⟩ = some (.int .i64 (j : Int)) ∧ W.cell? ⟨b, o + q * 2 + 1, none⟩ = some (.int .i64 (i : Int))) := fun W a hP q hq => by
        rw [HNb.out] at hq
        obtain ⟨i, j, h1, h2, h3, h4⟩ := blQ_at _ r r q hq
        obtain ⟨b, o, h5, -, h6, h7⟩ := hP.out q hq
        rw [h4] at h6 h7
        exact ⟨i, j, ⟨h1, h2, h3⟩, b, o, h5, h6, h7⟩
      clear hPq hz1 hz2
      go_wp2_with (first | (go_at_call 30; with_reducible (refine (HPq.out _).mono ?_); rintro e w6 ⟨rfl, rfl⟩; obtain ⟨i1, j1, HIJ, b2, o2, rfl, k0, k1⟩ := HPi.out _ a1 HP q hq) | (go_at_call 21; with_reducible (refine (HFp.out _ _ _ _ HT HB5 HIJ).mono ?_); rintro e w7 ⟨u, rfl, HTu, HB6'⟩))
      have HB6 : Hid (Below v0.heap.size v0 w7) := HB5.out.trans (HB6'.out.mono HB5.out.size)
      go_roundw
      case rel => exact ⟨i + 1, u, by omega, by go_num, rfl, rfl, HTu, HB6⟩
      case measure => simp [intOf]; omega
    · have hg : ¬ ((i : Int) < (tn : Int)) ∨ ((i : Int) < (tn : Int) ∧ ¬ (i : Int) < 40) := by omega
      have h1 : 1 ≤ n := by rw [HN4.out]; omega
      have h3 : n ≤ 3 := by rw [HN4.out]; omega
      obtain ⟨N0, l, N1, hH, hR⟩ := dm_shuf h1 h3 HT.out.1 (by rw [HT.out.2]; rfl)
      have HH := hid_w hH
      have HRr := hid_w hR
      obtain ⟨L, HL⟩ : ∃ L, Hid (L = l.length) := ⟨_, rfl⟩
      have hL64 : L ≤ 64 := by rw [HL.out]; exact hR.few
      have hLn : 3 ≤ L := by have h := hR.many; rw [HN4.out] at h; rw [HL.out]; exact h
      have HNd : Hid (Calls Tryd.prog 25 #[.string t] wr fun e w' => e = .returned (.tuple #[.int .i64 (L : Int), .int .i64 0]) ∧ Hid (Below wr.heap.size wr w')) := Needs_at hH m wr (HM.out wr HB.out) L HL.out
      have hg1 : ¬ ((L : Int) < 3) := by omega
      clear h1 h3 hH hR
      have HS1 : Hid (∀ (us : List Bool), us.length = L → ∃ x : ByteArray, Hid (x = ⟨(tx (2 * (n + 1)) (2 * (n + 1)) (cvK l us N1 L)).toArray⟩) ∧ ∀ (ga : Option Addr) (gc : Nat) W, Hid (Below v0.heap.size v0 W) → Hid (BoI W ga us) → Calls Tryd.prog 26 #[.string t, .slice ga L gc] W fun e w' => e = .returned (.tuple #[.string x, .int .i64 0]) ∧ Hid (Below W.heap.size W w')) := fun us hus => by
        refine ⟨_, rfl, fun ga gc W hW hb => ?_⟩
        have h := Shuffle_at HH.out m W (HM.out W hW.out) us L HL.out hus hL64 ga gc hb.out HRr.out.pts ⟨(tx (2 * (n + 1)) (2 * (n + 1)) (cvK l us N1 L)).toArray⟩ _ rfl (by rw [HL.out, HRr.out.same us]) rfl
        exact h
      obtain ⟨us, HUs⟩ : ∃ us, Hid (us = bs.take (min un L) ++ List.replicate (L - min un L) false) := ⟨_, rfl⟩
      have HUl : Hid (us.length = L) := by show _ = _; rw [HUs.out, List.length_append, List.length_take, List.length_replicate, HBa.out.1]; omega
      obtain ⟨cs, HCs⟩ : ∃ cs, Hid (cs = (bs.take (min un L)).map Value.bool) := ⟨_, rfl⟩
      obtain ⟨cu, HCu⟩ : ∃ cu, Hid (cu = List.replicate L (Value.bool false)) := ⟨_, rfl⟩
      have HSp : Hid (splice cu 0 cs = us.map Value.bool) := by
        show _ = _
        rw [HUs.out, HCs.out, HCu.out]; unfold splice
        rw [List.length_map, List.length_take, HBa.out.1]
        simp [List.drop_replicate, Nat.min_assoc]
        try omega
      obtain ⟨x, HX, HS2⟩ := HS1.out us HUl.out
      obtain ⟨i0, hi, hz0, hz1, hz2⟩ := info_parts (show (Tryd.prog.info? 4).map (fun i => (i.zero, i.size, i.bytes)) = some (some (.bool false), 1, 1) by kernel_rfl)
      have hsz1 : (Tryd.prog.info? 4).map (·.size) = some 1 := by kernel_rfl
      have HPk2 : Hid (∃ q : Nat, q < L ∧ ∀ w : World, Calls Tryd.prog 30 #[.int .i64 k, .int .i64 (L : Int)] w fun e w' => e = .returned (.int .i64 (q : Int)) ∧ w' = w) := Pick_val k L HK.out (by omega) (by omega)
      obtain ⟨q, hqL, hPq⟩ := HPk2.out
      have HPq := hid_w hPq
      obtain ⟨bq, HBq⟩ : ∃ bq, Hid (bq = us.getD q false) := ⟨_, rfl⟩
      obtain ⟨vs, HVs⟩ : ∃ vs, Hid (vs = us.set q (!bq)) := ⟨_, rfl⟩
      have HVl : Hid (vs.length = L) := by show _ = _; rw [HVs.out, List.length_set, HUl.out]
      obtain ⟨y, HY, HS3⟩ := HS1.out vs HVl.out
      have HXY : Hid ((y.toList == x.toList) = false ∧ ¬ y.toList = x.toList) := by
        refine ba_neqB fun e => ?_
        have hd : vs.getD q false ≠ us.getD q false := by
          rw [HVs.out, HBq.out]
          have hl : q < us.length := by rw [HUl.out]; exact hqL
          simp [List.getD, hl]
        refine HRr.out.two vs us q (by rw [← HL.out]; exact hqL) hd ?_
        rw [HX.out, HY.out] at e
        rw [← HL.out]
        simpa using e
      clear HPk2 hPq HS1
      have hqi : (q : Int) < (L : Int) := by omega
      rcases hg with hg | ⟨hg1, hg2⟩
      · go_upto_region 21 with (go_at_call 25; with_reducible (refine HNd.out.mono ?_); rintro e w8 ⟨rfl, HB8⟩)
        go_upto_region 57 with (at_make; refine wpList_make_full _ rfl _ _ 47 rfl w8.heap.size 4 i0 (.bool false) 1 Tryd.underlying47 hi hz0 hz1 _ _ _ _ L rfl rfl rfl rfl ?b1 ?b2 ?b3 ?_)
        case b1 => rw [hz2]; omega
        case b2 => unfold maxLen; omega
        case b3 => exact Nat.le_refl _
        intro w9 hown hgrow
        obtain ⟨G, HGq⟩ : ∃ G, Hid (G = w8.heap.size) := ⟨_, rfl⟩
        have HB89 : Hid (Below w8.heap.size w8 w9) := (Below.refl _ _).grown hgrow (Nat.le_refl _) (fun k h => by cases h)
        have HG9 : Hid (w9.heap[G]? = some (.cells cu.toArray 4 (0, 0))) := by
          show _ = _
          rw [HGq.out, HCu.out]
          rcases hown.2 with ⟨h2, _⟩ | ⟨g', cap', cur, hv, hg, hh, h4, h5, h6, h7⟩
          · cases h2
          · simp only [Value.slice.injEq, Option.some.injEq, Addr.mk.injEq, and_true, true_and] at hv
            obtain ⟨rfl, rfl⟩ := hv
            rw [hh]
            have e0 : cur.toList = List.replicate L (Value.bool false) := by
              rw [List.take_of_length_le (by rw [Array.length_toList, h6, Nat.mul_one]; exact Nat.le_refl _)] at h7
              rw [h7, toList_madeCells_one]
            rw [← e0]
        have HB08 : Hid (Below v0.heap.size v0 w8) := HB.out.trans (HB8.out.mono HB.out.size)
        have HB09 : Hid (Below v0.heap.size v0 w9) := HB08.out.trans (HB89.out.mono HB08.out.size)
        have hcl : cs.length = Nat.min un L := by rw [HCs.out, List.length_map, List.length_take, HBa.out.1]; show min (min un L) un = min un L; omega
        have hpos : 0 < cs.length → (some (⟨G, 0, none⟩ : Addr)) = some ⟨G, 0, none⟩ ∧ ∃ ad, ua = some ad ∧ ∀ j v, cs[j]? = some v → w9.cell? (ad.add j) = some v := fun h => by
          have hcu : cs.length = min un L := hcl
          obtain ⟨b, off, e, hb, hc⟩ := HBa.out.2 (by omega)
          refine ⟨rfl, _, e, fun j v hj => ?_⟩
          have hjl : j < cs.length := by
            rcases Nat.lt_or_ge j cs.length with z | z
            · exact z
            · rw [List.getElem?_eq_none z] at hj; cases hj
          have hbl : bs.length = un := HBa.out.1
          rw [Addr.add_lit, HB09.out.cell (p := ⟨b, off + j, none⟩) hb, hc j (by omega)]
          rw [HCs.out, List.getElem?_map, List.getElem?_take_of_lt (by omega), List.getElem?_eq_getElem (by omega)] at hj
          rw [List.getD_eq_getElem?_getD, List.getElem?_eq_getElem (by omega), Option.getD_some]
          simpa using hj
        have hfit : 0 + cs.length ≤ cu.length := by rw [HCu.out, List.length_replicate, hcl]; show 0 + min un L ≤ L; omega
        have hone : ∀ v ∈ cs, v.oneCell' = true := fun v hv => by
          rw [HCs.out] at hv
          obtain ⟨x, _, rfl⟩ := List.mem_map.1 hv; rfl
        have HKc := hid_w hcl
        have HKp := hid_w hpos
        have HKf := hid_w hfit
        have HKo := hid_w hone
        have HBG : Hid (v0.heap.size ≤ G) := by rw [HGq.out]; exact HB08.out.size
        rw [← HGq.out]
        obtain ⟨w10, hrun, HG10, hB10⟩ := run_copy_bools (ua := ua) (un := un) (uc := uc) HG9.out HKc.out HKp.out HKf.out HKo.out HB09.out HBG.out (cap := L)
        clear hcl hpos hfit hone hown hgrow
        have HBx : Hid (Below v0.heap.size v0 w10) := hB10
        have HGx : Hid (w10.heap[G]? = some (.cells (us.map Value.bool).toArray 4 (0, 0))) := by
          show _ = _
          rw [← HSp.out]; exact HG10.out
        have HBo : Hid (BoI w10 (some ⟨G, 0, none⟩) us) := fun j hj => ⟨G, rfl, lt_someN HGx.out, by
          rw [cell_of_row w10 G _ _ _ _ HGx.out]
          simp [List.getD, hj]⟩
        have HSa := hid_w (HS2 (some ⟨G, 0, none⟩) L w10 HBx HBo)
        obtain ⟨D1, HD1⟩ : ∃ D1 : ByteArray, Hid (D1 = ⟨(dmT (n + 1)).toArray⟩) := ⟨_, rfl⟩
        have HBd : Hid (∀ W, Hid (Below v0.heap.size v0 W) → Calls Tryd.prog 10 #[.string x] W fun e w' => e = .returned (.tuple #[.string D1, .int .i64 0]) ∧ Hid (Below W.heap.size W w')) := fun W hW => by
          have h := HRr.out.til us
          rw [← HL.out] at h
          refine BBoard_ok x m W (HM.out W hW.out) (2 * (n + 1)) (2 * (n + 1)) (by rw [HX.out]; exact h.1) D1 ?_
          rw [HD1.out, HX.out, h.2]; rfl
        have HAd : Hid (∀ W, Calls Tryd.prog 18 #[.int .i64 3] W fun e w' => e = .returned (.tuple #[.string D1, .int .i64 0]) ∧ Hid (Below W.heap.size W w')) := fun W => by
          have h := Aztec_ok (n + 1) W (by omega) (by rw [HN4.out]; omega)
          rw [HD1.out]; unfold dmT
          rw [HN4.out] at h ⊢; exact h
        clear HB8 HB89 HB08 HB09 hB10 HG9 HG10
        go_upto_region 24 with (go_at_call 26; with_reducible (refine HSa.out.mono ?_); rintro e w11 ⟨rfl, HB11'⟩)
        have HB11 : Hid (Below v0.heap.size v0 w11) := HBx.out.trans (HB11'.out.mono HBx.out.size)
        have HBc := hid_w (HBd.out w11 HB11)
        go_upto_region 25 with (go_at_call 10; with_reducible (refine HBc.out.mono ?_); rintro e w12 ⟨rfl, HB12'⟩)
        have HB12 : Hid (Below v0.heap.size v0 w12) := HB11.out.trans (HB12'.out.mono HB11.out.size)
        have HAc := hid_w (HAd.out w12)
        go_upto_region 28 with (go_at_call 18; with_reducible (refine HAc.out.mono ?_); rintro e w13 ⟨rfl, HB13'⟩)
        have HB13 : Hid (Below v0.heap.size v0 w13) := HB12.out.trans (HB13'.out.mono HB12.out.size)
        have HGd : Hid (w13.heap[G]? = some (.cells (us.map Value.bool).toArray 4 (0, 0))) := by
          have g0 : G < w10.heap.size := lt_someN HGx.out
          have g1 : G < w11.heap.size := Nat.lt_of_lt_of_le g0 HB11'.out.size
          have g2 : G < w12.heap.size := Nat.lt_of_lt_of_le g1 HB12'.out.size
          exact (((HB13'.out.block G g2).trans (HB12'.out.block G g1)).trans (HB11'.out.block G g0)).trans HGx.out
        have hfr : w13.frozen? ⟨G, q, none⟩ = false := frozen_of_row w13 _ q _ _ HGd.out
        have hce : w13.cell? ⟨G, q, none⟩ = some (.bool bq) := by
          rw [cell_of_row w13 G _ _ _ _ HGd.out, HBq.out]
          have hl : q < us.length := by rw [HUl.out]; exact hqL
          simp [List.getD, hl]
        obtain ⟨w14, HW14⟩ : ∃ w14, Hid (w14 = w13.setCell ⟨G, q, none⟩ (.bool (!bq))) := ⟨_, rfl⟩
        have HB14 : Hid (Below v0.heap.size v0 w14) := by rw [HW14.out]; exact HB13.out.setCell (p := ⟨G, q, none⟩) HBG.out _
        have HG14 : Hid (w14.heap[G]? = some (.cells (vs.map Value.bool).toArray 4 (0, 0))) := by
          show _ = _
          rw [HW14.out, heap_setCell_same w13 G q _ _ _ HGd.out, HVs.out]
          simp
        have HBv : Hid (BoI w14 (some ⟨G, 0, none⟩) vs) := fun j hj => ⟨G, rfl, lt_someN HG14.out, by
          rw [cell_of_row w14 G _ _ _ _ HG14.out]
          simp [List.getD, hj]⟩
        have HSc := hid_w (HS3 (some ⟨G, 0, none⟩) L w14 HB14 HBv)
        clear HSa HBc HAc HB11 HB12 HGx HBo HBx
        go_upto_region 29 with (go_at_call 30; with_reducible (refine (HPq.out _).mono ?_); rintro e w' ⟨rfl, rfl⟩)
        rw [← HW14.out]
        go_upto_region 30 with (go_at_call 26; with_reducible (refine HSc.out.mono ?_); rintro e w15 ⟨rfl, HB15⟩)
        obtain ⟨hxy1, hxy2⟩ := HXY.out
        go_wp2
        go_ret
        exact ⟨rfl, HB14.out.trans (HB15.out.mono HB14.out.size)⟩
      · go_upto_region 21 with (go_at_call 25; with_reducible (refine HNd.out.mono ?_); rintro e w8 ⟨rfl, HB8⟩)
        go_upto_region 57 with (at_make; refine wpList_make_full _ rfl _ _ 47 rfl w8.heap.size 4 i0 (.bool false) 1 Tryd.underlying47 hi hz0 hz1 _ _ _ _ L rfl rfl rfl rfl ?b1 ?b2 ?b3 ?_)
        case b1 => rw [hz2]; omega
        case b2 => unfold maxLen; omega
        case b3 => exact Nat.le_refl _
        intro w9 hown hgrow
        obtain ⟨G, HGq⟩ : ∃ G, Hid (G = w8.heap.size) := ⟨_, rfl⟩
        have HB89 : Hid (Below w8.heap.size w8 w9) := (Below.refl _ _).grown hgrow (Nat.le_refl _) (fun k h => by cases h)
        have HG9 : Hid (w9.heap[G]? = some (.cells cu.toArray 4 (0, 0))) := by
          show _ = _
          rw [HGq.out, HCu.out]
          rcases hown.2 with ⟨h2, _⟩ | ⟨g', cap', cur, hv, hg, hh, h4, h5, h6, h7⟩
          · cases h2
          · simp only [Value.slice.injEq, Option.some.injEq, Addr.mk.injEq, and_true, true_and] at hv
            obtain ⟨rfl, rfl⟩ := hv
            rw [hh]
            have e0 : cur.toList = List.replicate L (Value.bool false) := by
              rw [List.take_of_length_le (by rw [Array.length_toList, h6, Nat.mul_one]; exact Nat.le_refl _)] at h7
              rw [h7, toList_madeCells_one]
            rw [← e0]
        have HB08 : Hid (Below v0.heap.size v0 w8) := HB.out.trans (HB8.out.mono HB.out.size)
        have HB09 : Hid (Below v0.heap.size v0 w9) := HB08.out.trans (HB89.out.mono HB08.out.size)
        have hcl : cs.length = Nat.min un L := by rw [HCs.out, List.length_map, List.length_take, HBa.out.1]; show min (min un L) un = min un L; omega
        have hpos : 0 < cs.length → (some (⟨G, 0, none⟩ : Addr)) = some ⟨G, 0, none⟩ ∧ ∃ ad, ua = some ad ∧ ∀ j v, cs[j]? = some v → w9.cell? (ad.add j) = some v := fun h => by
          have hcu : cs.length = min un L := hcl
          obtain ⟨b, off, e, hb, hc⟩ := HBa.out.2 (by omega)
          refine ⟨rfl, _, e, fun j v hj => ?_⟩
          have hjl : j < cs.length := by
            rcases Nat.lt_or_ge j cs.length with z | z
            · exact z
            · rw [List.getElem?_eq_none z] at hj; cases hj
          have hbl : bs.length = un := HBa.out.1
          rw [Addr.add_lit, HB09.out.cell (p := ⟨b, off + j, none⟩) hb, hc j (by omega)]
          rw [HCs.out, List.getElem?_map, List.getElem?_take_of_lt (by omega), List.getElem?_eq_getElem (by omega)] at hj
          rw [List.getD_eq_getElem?_getD, List.getElem?_eq_getElem (by omega), Option.getD_some]
          simpa using hj
        have hfit : 0 + cs.length ≤ cu.length := by rw [HCu.out, List.length_replicate, hcl]; show 0 + min un L ≤ L; omega
        have hone : ∀ v ∈ cs, v.oneCell' = true := fun v hv => by
          rw [HCs.out] at hv
          obtain ⟨x, _, rfl⟩ := List.mem_map.1 hv; rfl
        have HKc := hid_w hcl
        have HKp := hid_w hpos
        have HKf := hid_w hfit
        have HKo := hid_w hone
        have HBG : Hid (v0.heap.size ≤ G) := by rw [HGq.out]; exact HB08.out.size
        rw [← HGq.out]
        obtain ⟨w10, hrun, HG10, hB10⟩ := run_copy_bools (ua := ua) (un := un) (uc := uc) HG9.out HKc.out HKp.out HKf.out HKo.out HB09.out HBG.out (cap := L)
        clear hcl hpos hfit hone hown hgrow
        have HBx : Hid (Below v0.heap.size v0 w10) := hB10
        have HGx : Hid (w10.heap[G]? = some (.cells (us.map Value.bool).toArray 4 (0, 0))) := by
          show _ = _
          rw [← HSp.out]; exact HG10.out
        have HBo : Hid (BoI w10 (some ⟨G, 0, none⟩) us) := fun j hj => ⟨G, rfl, lt_someN HGx.out, by
          rw [cell_of_row w10 G _ _ _ _ HGx.out]
          simp [List.getD, hj]⟩
        have HSa := hid_w (HS2 (some ⟨G, 0, none⟩) L w10 HBx HBo)
        obtain ⟨D1, HD1⟩ : ∃ D1 : ByteArray, Hid (D1 = ⟨(dmT (n + 1)).toArray⟩) := ⟨_, rfl⟩
        have HBd : Hid (∀ W, Hid (Below v0.heap.size v0 W) → Calls Tryd.prog 10 #[.string x] W fun e w' => e = .returned (.tuple #[.string D1, .int .i64 0]) ∧ Hid (Below W.heap.size W w')) := fun W hW => by
          have h := HRr.out.til us
          rw [← HL.out] at h
          refine BBoard_ok x m W (HM.out W hW.out) (2 * (n + 1)) (2 * (n + 1)) (by rw [HX.out]; exact h.1) D1 ?_
          rw [HD1.out, HX.out, h.2]; rfl
        have HAd : Hid (∀ W, Calls Tryd.prog 18 #[.int .i64 3] W fun e w' => e = .returned (.tuple #[.string D1, .int .i64 0]) ∧ Hid (Below W.heap.size W w')) := fun W => by
          have h := Aztec_ok (n + 1) W (by omega) (by rw [HN4.out]; omega)
          rw [HD1.out]; unfold dmT
          rw [HN4.out] at h ⊢; exact h
        clear HB8 HB89 HB08 HB09 hB10 HG9 HG10
        go_upto_region 24 with (go_at_call 26; with_reducible (refine HSa.out.mono ?_); rintro e w11 ⟨rfl, HB11'⟩)
        have HB11 : Hid (Below v0.heap.size v0 w11) := HBx.out.trans (HB11'.out.mono HBx.out.size)
        have HBc := hid_w (HBd.out w11 HB11)
        go_upto_region 25 with (go_at_call 10; with_reducible (refine HBc.out.mono ?_); rintro e w12 ⟨rfl, HB12'⟩)
        have HB12 : Hid (Below v0.heap.size v0 w12) := HB11.out.trans (HB12'.out.mono HB11.out.size)
        have HAc := hid_w (HAd.out w12)
        go_upto_region 28 with (go_at_call 18; with_reducible (refine HAc.out.mono ?_); rintro e w13 ⟨rfl, HB13'⟩)
        have HB13 : Hid (Below v0.heap.size v0 w13) := HB12.out.trans (HB13'.out.mono HB12.out.size)
        have HGd : Hid (w13.heap[G]? = some (.cells (us.map Value.bool).toArray 4 (0, 0))) := by
          have g0 : G < w10.heap.size := lt_someN HGx.out
          have g1 : G < w11.heap.size := Nat.lt_of_lt_of_le g0 HB11'.out.size
          have g2 : G < w12.heap.size := Nat.lt_of_lt_of_le g1 HB12'.out.size
          exact (((HB13'.out.block G g2).trans (HB12'.out.block G g1)).trans (HB11'.out.block G g0)).trans HGx.out
        have hfr : w13.frozen? ⟨G, q, none⟩ = false := frozen_of_row w13 _ q _ _ HGd.out
        have hce : w13.cell? ⟨G, q, none⟩ = some (.bool bq) := by
          rw [cell_of_row w13 G _ _ _ _ HGd.out, HBq.out]
          have hl : q < us.length := by rw [HUl.out]; exact hqL
          simp [List.getD, hl]
        obtain ⟨w14, HW14⟩ : ∃ w14, Hid (w14 = w13.setCell ⟨G, q, none⟩ (.bool (!bq))) := ⟨_, rfl⟩
        have HB14 : Hid (Below v0.heap.size v0 w14) := by rw [HW14.out]; exact HB13.out.setCell (p := ⟨G, q, none⟩) HBG.out _
        have HG14 : Hid (w14.heap[G]? = some (.cells (vs.map Value.bool).toArray 4 (0, 0))) := by
          show _ = _
          rw [HW14.out, heap_setCell_same w13 G q _ _ _ HGd.out, HVs.out]
          simp
        have HBv : Hid (BoI w14 (some ⟨G, 0, none⟩) vs) := fun j hj => ⟨G, rfl, lt_someN HG14.out, by
          rw [cell_of_row w14 G _ _ _ _ HG14.out]
          simp [List.getD, hj]⟩
        have HSc := hid_w (HS3 (some ⟨G, 0, none⟩) L w14 HB14 HBv)
        clear HSa HBc HAc HB11 HB12 HGx HBo HBx
        go_upto_region 29 with (go_at_call 30; with_reducible (refine (HPq.out _).mono ?_); rintro e w' ⟨rfl, rfl⟩)
        rw [← HW14.out]
        go_upto_region 30 with (go_at_call 26; with_reducible (refine HSc.out.mono ?_); rintro e w15 ⟨rfl, HB15⟩)
        obtain ⟨hxy1, hxy2⟩ := HXY.out
        go_wp2
        go_ret
        exact ⟨rfl, HB14.out.trans (HB15.out.mono HB14.out.size)⟩

set_option maxHeartbeats 8000000 in
set_option maxRecDepth 100000 in
theorem daz_3 (k : Int) (ta ua : Option Addr) (tn tc un uc : Nat) (zs : List Int) (m : Int) (w : World) (hm : w.cell? ⟨0, 0, none⟩ = some (.int .i64 m)) (hB : TabAt 1 Lib.deBruijn64tab w) (hz : Shows w ta zs) (hzn : tn = zs.length) (hzb : ∀ z ∈ zs, -9223372036854775808 ≤ z ∧ z ≤ 9223372036854775807)
    (bs : List Bool) (hba : BoA w ua un bs) (hk : -9223372036854775808 ≤ k ∧ k ≤ 9223372036854775807) (c : Nat) (hc : c = 2) (hPk : ∀ w : World, Calls Tryd.prog 30 #[.int .i64 k, .int .i64 4] w fun e w' => e = .returned (.int .i64 (c : Int)) ∧ w' = w) :
    Calls Tryd.prog 7 #[.int .i64 k, .slice ta tn tc, .slice ua un uc] w fun e w' => e = .returned (.bool true) ∧ Below w.heap.size w w' := by
  have HM : Hid (∀ W, Below w.heap.size w W → W.cell? ⟨0, 0, none⟩ = some (.int .i64 m)) := fun W hW => (hW.cell (p := ⟨0, 0, none⟩) (World.block_lt_of_cell? w _ hm)).trans hm
  have HTb : Hid (∀ W, Below w.heap.size w W → TabAt 1 Lib.deBruijn64tab W) := tab_all hB (by decide)
  have HZ := hid_w hz
  have HZn := hid_w hzn
  have HZb := hid_w hzb
  obtain ⟨n, HN⟩ : ∃ n, Hid (n = c + 1) := ⟨_, rfl⟩
  have HN4 : Hid (n = 3) := by show _ = _; rw [HN.out, hc]
  obtain ⟨D, HD⟩ : ∃ D : ByteArray, Hid (D = ⟨(dmT n).toArray⟩) := ⟨_, rfl⟩
  have HPk : Hid (Calls Tryd.prog 30 #[.int .i64 k, .int .i64 4] w fun e w' => e = .returned (.int .i64 2) ∧ w' = w) := by have h := hPk w; rw [hc] at h; exact h
  have HAz : Hid (Calls Tryd.prog 18 #[.int .i64 3] w fun e w' => e = .returned (.tuple #[.string D, .int .i64 0]) ∧ Hid (Below w.heap.size w w')) := by
    have h := Aztec_ok n w (by rw [HN4.out]; omega) (by rw [HN4.out]; omega)
    rw [HD.out]; unfold dmT
    rw [HN4.out] at h ⊢; exact h
  have HBn : Hid (BdN D.data.toList (2 * n) (2 * n) 64) := by
    have h := dmT_bdn n (by rw [HN4.out]; omega) (by rw [HN4.out]; omega)
    rw [show 2 ^ (n * (n + 1) / 2) = 64 by rw [HN4.out]] at h
    rw [HD.out]; exact h
  have HCo : Hid (∀ W, Hid (Below w.heap.size w W) → Calls Tryd.prog 8 #[.string D] W fun e w' => e = .returned (.tuple #[.int .i64 64, .int .i64 0]) ∧ Hid (Below W.heap.size W w')) := fun W hW => BCount_ok D m W (HM.out W hW.out) (HTb.out W hW.out) _ _ _ HBn.out
  have HFi : Hid (∀ W, Hid (Below w.heap.size w W) → Calls Tryd.prog 9 #[.string D] W fun e w' => ∃ u : ByteArray, e = .returned (.tuple #[.string u, .int .i64 0]) ∧ Hid (AzT n u.data.toList) ∧ Hid (Below W.heap.size W w')) := fun W hW => by
    refine (BFirst_ok D m W (HM.out W hW.out) (HTb.out W hW.out) _ _ _ HBn.out (by omega)).mono ?_
    rintro e w' ⟨u, rfl, hu, hB⟩
    exact ⟨u, rfl, ⟨hu.out.1, by rw [hu.out.2, HD.out]⟩, hB⟩
  have HBa := hid_w hba
  have HK := hid_w hk
  clear hm hB hz hzn hzb hPk hc hba hk
  go_enter Tryd.func7, Tryd.ntmps7
  go_upto_region 2 with (go_at_call 30; with_reducible (refine HPk.out.mono ?_); rintro e v0 ⟨rfl, rfl⟩)
  go_upto_region 3 with (go_at_call 18; with_reducible (refine HAz.out.mono ?_); rintro e w1 ⟨rfl, HB1⟩)
  have HC1 := hid_w (HCo.out _ HB1)
  go_upto_region 4 with (go_at_call 8; with_reducible (refine HC1.out.mono ?_); rintro e w2 ⟨rfl, HB2'⟩)
  have HB2 : Hid (Below v0.heap.size v0 w2) := HB1.out.trans (HB2'.out.mono HB1.out.size)
  have HC2 := hid_w (HFi.out _ HB2)
  go_upto_region 7 with (go_at_call 9; with_reducible (refine HC2.out.mono ?_); rintro e w3 ⟨t0, rfl, HT0, HB3'⟩)
  have HB3 : Hid (Below v0.heap.size v0 w3) := HB2.out.trans (HB3'.out.mono HB2.out.size)
  obtain ⟨r, HR⟩ : ∃ r, Hid (r = 2 * n - 1) := ⟨_, rfl⟩
  have HFl : Hid (∀ (t : ByteArray) W, Hid (AzT n t.data.toList) → Hid (Below v0.heap.size v0 W) → ∃ N, 0 < N ∧ N ≤ 64 ∧ Hid (N = (blQ t.data.toList r r).length) ∧ Hid (Calls Tryd.prog 20 #[.string t] W fun e w' => ∃ a cp, e = .returned (.tuple #[.slice a N cp, .int .i64 0]) ∧ Hid (PtI w' a (blQ t.data.toList r r)) ∧ Hid (Below W.heap.size W w'))) := fun t W hT hW => by
    have h1 : 1 ≤ n := by rw [HN4.out]; omega
    have h4 : n ≤ 4 := by rw [HN4.out]; omega
    have hTr : Til t.data.toList (r + 1) (r + 1) := by rw [HR.out, show 2 * n - 1 + 1 = 2 * n by omega]; exact hT.out.1
    exact ⟨_, by rw [HR.out]; exact AzT.flips hT.out h1 h4, blQ_len hTr, rfl, BFlips_ok t m W (HM.out W hW.out) r r hTr _ rfl⟩
  have HFp : Hid (∀ (t : ByteArray) W (i j : Nat), Hid (AzT n t.data.toList) → Hid (Below v0.heap.size v0 W) → Hid (i < r ∧ j < r ∧ qR (cef (pz t.data.toList)) i j = true) → Calls Tryd.prog 21 #[.string t, .agg #[.int .i64 (j : Int), .int .i64 (i : Int)]] W fun e w' => ∃ u : ByteArray, e = .returned (.tuple #[.string u, .int .i64 0]) ∧ Hid (AzT n u.data.toList) ∧ Hid (Below W.heap.size W w')) := fun t W i j hT hW hij => by
    have h1 : 1 ≤ n := by rw [HN4.out]; omega
    have hTr : Til t.data.toList (r + 1) (r + 1) := by rw [HR.out, show 2 * n - 1 + 1 = 2 * n by omega]; exact hT.out.1
    refine (BFlip_on t m W (HM.out W hW.out) i j r r hTr hij.out.1 hij.out.2.1 hij.out.2.2 _ rfl).mono ?_
    rintro e w' ⟨rfl, hB⟩
    have hu := AzT.turn hT.out h1 (by rw [← HR.out]; exact hij.out.1) (by rw [← HR.out]; exact hij.out.2.1) hij.out.2.2
    rw [← HR.out] at hu
    exact ⟨_, rfl, hu, hB⟩
  clear HC1 HC2 HAz HPk HCo HFi HB1 HB2' HB2 HB3'
  go_upto_region 8 with fail
  go_loopw [9, 12, 13] (fun e9 s12 v wr => ∃ (i : Nat) (t : ByteArray), i ≤ tn ∧ v = .int .i64 (i : Int) ∧ s12 = .string t ∧ e9 = .int .i64 0 ∧ Hid (AzT n t.data.toList) ∧ Hid (Below v0.heap.size v0 wr)) (fun _ _ v _ => tn - (intOf v).toNat)
  case atStart => exact ⟨0, t0, Nat.zero_le _, rfl, rfl, rfl, HT0, HB3⟩
  case round =>
    clear HT0 HB3
    obtain ⟨i, t, hi, rfl, rfl, rfl, HT, HB⟩ := hrel
    by_cases hgo : i < tn ∧ i < 40
    · obtain ⟨hlt, h40⟩ := hgo
      have hlt' : (i : Int) < (tn : Int) := by omega
      have h40' : (i : Int) < 40 := by omega
      obtain ⟨N, hN0, hN64, HNb, HCf⟩ := HFl.out t wr HT HB
      have hN1 : ¬ (N : Int) = 0 := by omega
      go_upto_region 11 with (go_at_call 20; with_reducible (refine HCf.out.mono ?_); rintro e w5 ⟨a1, cp1, rfl, HP, HB5'⟩)
      have HB5 : Hid (Below v0.heap.size v0 w5) := HB.out.trans (HB5'.out.mono HB.out.size)
      obtain ⟨b3, o3, z, rfl, -, hz1, hz2, hz0⟩ := (HZ.out.below HB5.out).elem (k := i) (by rw [← HZn.out]; exact hlt)
      obtain ⟨q, hq, hPq⟩ := Pick_val z N ⟨hz1, hz2⟩ hN0 (by omega)
      have HPq := hid_w hPq
      have HPi : Hid (∀ (W : World) (a : Option Addr), Hid (PtI W a (blQ t.data.toList r r)) → ∀ q, q < N → ∃ i j : Nat, Hid (i < r ∧ j < r ∧ qR (cef (pz t.data.toList)) i j = true) ∧ ∃ b o, a = some ⟨b, o, none⟩ ∧ W.cell? ⟨b, o + q * 2, none⟩ = some (.int .i64 (j : Int)) ∧ W.cell? ⟨b, o + q * 2 + 1, none⟩ = some (.int .i64 (i : Int))) := fun W a hP q hq => by
        rw [HNb.out] at hq
        obtain ⟨i, j, h1, h2, h3, h4⟩ := blQ_at _ r r q hq
        obtain ⟨b, o, h5, -, h6, h7⟩ := hP.out q hq
        rw [h4] at h6 h7
        exact ⟨i, j, ⟨h1, h2, h3⟩, b, o, h5, h6, h7⟩
      clear hPq hz1 hz2
      go_wp2_with (first | (go_at_call 30; with_reducible (refine (HPq.out _).mono ?_); rintro e w6 ⟨rfl, rfl⟩; obtain ⟨i1, j1, HIJ, b2, o2, rfl, k0, k1⟩ := HPi.out _ a1 HP q hq) | (go_at_call 21; with_reducible (refine (HFp.out _ _ _ _ HT HB5 HIJ).mono ?_); rintro e w7 ⟨u, rfl, HTu, HB6'⟩))
      have HB6 : Hid (Below v0.heap.size v0 w7) := HB5.out.trans (HB6'.out.mono HB5.out.size)
      go_roundw
      case rel => exact ⟨i + 1, u, by omega, by go_num, rfl, rfl, HTu, HB6⟩
      case measure => simp [intOf]; omega
    · have hg : ¬ ((i : Int) < (tn : Int)) ∨ ((i : Int) < (tn : Int) ∧ ¬ (i : Int) < 40) := by omega
      have h1 : 1 ≤ n := by rw [HN4.out]; omega
      have h3 : n ≤ 3 := by rw [HN4.out]; omega
      obtain ⟨N0, l, N1, hH, hR⟩ := dm_shuf h1 h3 HT.out.1 (by rw [HT.out.2]; rfl)
      have HH := hid_w hH
      have HRr := hid_w hR
      obtain ⟨L, HL⟩ : ∃ L, Hid (L = l.length) := ⟨_, rfl⟩
      have hL64 : L ≤ 64 := by rw [HL.out]; exact hR.few
      have hLn : 4 ≤ L := by have h := hR.many; rw [HN4.out] at h; rw [HL.out]; exact h
      have HNd : Hid (Calls Tryd.prog 25 #[.string t] wr fun e w' => e = .returned (.tuple #[.int .i64 (L : Int), .int .i64 0]) ∧ Hid (Below wr.heap.size wr w')) := Needs_at hH m wr (HM.out wr HB.out) L HL.out
      have hg1 : ¬ ((L : Int) < 4) := by omega
      clear h1 h3 hH hR
      have HS1 : Hid (∀ (us : List Bool), us.length = L → ∃ x : ByteArray, Hid (x = ⟨(tx (2 * (n + 1)) (2 * (n + 1)) (cvK l us N1 L)).toArray⟩) ∧ ∀ (ga : Option Addr) (gc : Nat) W, Hid (Below v0.heap.size v0 W) → Hid (BoI W ga us) → Calls Tryd.prog 26 #[.string t, .slice ga L gc] W fun e w' => e = .returned (.tuple #[.string x, .int .i64 0]) ∧ Hid (Below W.heap.size W w')) := fun us hus => by
        refine ⟨_, rfl, fun ga gc W hW hb => ?_⟩
        have h := Shuffle_at HH.out m W (HM.out W hW.out) us L HL.out hus hL64 ga gc hb.out HRr.out.pts ⟨(tx (2 * (n + 1)) (2 * (n + 1)) (cvK l us N1 L)).toArray⟩ _ rfl (by rw [HL.out, HRr.out.same us]) rfl
        exact h
      obtain ⟨us, HUs⟩ : ∃ us, Hid (us = bs.take (min un L) ++ List.replicate (L - min un L) false) := ⟨_, rfl⟩
      have HUl : Hid (us.length = L) := by show _ = _; rw [HUs.out, List.length_append, List.length_take, List.length_replicate, HBa.out.1]; omega
      obtain ⟨cs, HCs⟩ : ∃ cs, Hid (cs = (bs.take (min un L)).map Value.bool) := ⟨_, rfl⟩
      obtain ⟨cu, HCu⟩ : ∃ cu, Hid (cu = List.replicate L (Value.bool false)) := ⟨_, rfl⟩
      have HSp : Hid (splice cu 0 cs = us.map Value.bool) := by
        show _ = _
        rw [HUs.out, HCs.out, HCu.out]; unfold splice
        rw [List.length_map, List.length_take, HBa.out.1]
        simp [List.drop_replicate, Nat.min_assoc]
        try omega
      obtain ⟨x, HX, HS2⟩ := HS1.out us HUl.out
      obtain ⟨i0, hi, hz0, hz1, hz2⟩ := info_parts (show (Tryd.prog.info? 4).map (fun i => (i.zero, i.size, i.bytes)) = some (some (.bool false), 1, 1) by kernel_rfl)
      have hsz1 : (Tryd.prog.info? 4).map (·.size) = some 1 := by kernel_rfl
      have HPk2 : Hid (∃ q : Nat, q < L ∧ ∀ w : World, Calls Tryd.prog 30 #[.int .i64 k, .int .i64 (L : Int)] w fun e w' => e = .returned (.int .i64 (q : Int)) ∧ w' = w) := Pick_val k L HK.out (by omega) (by omega)
      obtain ⟨q, hqL, hPq⟩ := HPk2.out
      have HPq := hid_w hPq
      obtain ⟨bq, HBq⟩ : ∃ bq, Hid (bq = us.getD q false) := ⟨_, rfl⟩
      obtain ⟨vs, HVs⟩ : ∃ vs, Hid (vs = us.set q (!bq)) := ⟨_, rfl⟩
      have HVl : Hid (vs.length = L) := by show _ = _; rw [HVs.out, List.length_set, HUl.out]
      obtain ⟨y, HY, HS3⟩ := HS1.out vs HVl.out
      have HXY : Hid ((y.toList == x.toList) = false ∧ ¬ y.toList = x.toList) := by
        refine ba_neqB fun e => ?_
        have hd : vs.getD q false ≠ us.getD q false := by
          rw [HVs.out, HBq.out]
          have hl : q < us.length := by rw [HUl.out]; exact hqL
          simp [List.getD, hl]
        refine HRr.out.two vs us q (by rw [← HL.out]; exact hqL) hd ?_
        rw [HX.out, HY.out] at e
        rw [← HL.out]
        simpa using e
      clear HPk2 hPq HS1
      have hqi : (q : Int) < (L : Int) := by omega
      rcases hg with hg | ⟨hg1, hg2⟩
      · go_upto_region 21 with (go_at_call 25; with_reducible (refine HNd.out.mono ?_); rintro e w8 ⟨rfl, HB8⟩)
        go_upto_region 57 with (at_make; refine wpList_make_full _ rfl _ _ 47 rfl w8.heap.size 4 i0 (.bool false) 1 Tryd.underlying47 hi hz0 hz1 _ _ _ _ L rfl rfl rfl rfl ?b1 ?b2 ?b3 ?_)
        case b1 => rw [hz2]; omega
        case b2 => unfold maxLen; omega
        case b3 => exact Nat.le_refl _
        intro w9 hown hgrow
        obtain ⟨G, HGq⟩ : ∃ G, Hid (G = w8.heap.size) := ⟨_, rfl⟩
        have HB89 : Hid (Below w8.heap.size w8 w9) := (Below.refl _ _).grown hgrow (Nat.le_refl _) (fun k h => by cases h)
        have HG9 : Hid (w9.heap[G]? = some (.cells cu.toArray 4 (0, 0))) := by
          show _ = _
          rw [HGq.out, HCu.out]
          rcases hown.2 with ⟨h2, _⟩ | ⟨g', cap', cur, hv, hg, hh, h4, h5, h6, h7⟩
          · cases h2
          · simp only [Value.slice.injEq, Option.some.injEq, Addr.mk.injEq, and_true, true_and] at hv
            obtain ⟨rfl, rfl⟩ := hv
            rw [hh]
            have e0 : cur.toList = List.replicate L (Value.bool false) := by
              rw [List.take_of_length_le (by rw [Array.length_toList, h6, Nat.mul_one]; exact Nat.le_refl _)] at h7
              rw [h7, toList_madeCells_one]
            rw [← e0]
        have HB08 : Hid (Below v0.heap.size v0 w8) := HB.out.trans (HB8.out.mono HB.out.size)
        have HB09 : Hid (Below v0.heap.size v0 w9) := HB08.out.trans (HB89.out.mono HB08.out.size)
        have hcl : cs.length = Nat.min un L := by rw [HCs.out, List.length_map, List.length_take, HBa.out.1]; show min (min un L) un = min un L; omega
        have hpos : 0 < cs.length → (some (⟨G, 0, none⟩ : Addr)) = some ⟨G, 0, none⟩ ∧ ∃ ad, ua = some ad ∧ ∀ j v, cs[j]? = some v → w9.cell? (ad.add j) = some v := fun h => by
          have hcu : cs.length = min un L := hcl
          obtain ⟨b, off, e, hb, hc⟩ := HBa.out.2 (by omega)
          refine ⟨rfl, _, e, fun j v hj => ?_⟩
          have hjl : j < cs.length := by
            rcases Nat.lt_or_ge j cs.length with z | z
            · exact z
            · rw [List.getElem?_eq_none z] at hj; cases hj
          have hbl : bs.length = un := HBa.out.1
          rw [Addr.add_lit, HB09.out.cell (p := ⟨b, off + j, none⟩) hb, hc j (by omega)]
          rw [HCs.out, List.getElem?_map, List.getElem?_take_of_lt (by omega), List.getElem?_eq_getElem (by omega)] at hj
          rw [List.getD_eq_getElem?_getD, List.getElem?_eq_getElem (by omega), Option.getD_some]
          simpa using hj
        have hfit : 0 + cs.length ≤ cu.length := by rw [HCu.out, List.length_replicate, hcl]; show 0 + min un L ≤ L; omega
        have hone : ∀ v ∈ cs, v.oneCell' = true := fun v hv => by
          rw [HCs.out] at hv
          obtain ⟨x, _, rfl⟩ := List.mem_map.1 hv; rfl
        have HKc := hid_w hcl
        have HKp := hid_w hpos
        have HKf := hid_w hfit
        have HKo := hid_w hone
        have HBG : Hid (v0.heap.size ≤ G) := by rw [HGq.out]; exact HB08.out.size
        rw [← HGq.out]
        obtain ⟨w10, hrun, HG10, hB10⟩ := run_copy_bools (ua := ua) (un := un) (uc := uc) HG9.out HKc.out HKp.out HKf.out HKo.out HB09.out HBG.out (cap := L)
        clear hcl hpos hfit hone hown hgrow
        have HBx : Hid (Below v0.heap.size v0 w10) := hB10
        have HGx : Hid (w10.heap[G]? = some (.cells (us.map Value.bool).toArray 4 (0, 0))) := by
          show _ = _
          rw [← HSp.out]; exact HG10.out
        have HBo : Hid (BoI w10 (some ⟨G, 0, none⟩) us) := fun j hj => ⟨G, rfl, lt_someN HGx.out, by
          rw [cell_of_row w10 G _ _ _ _ HGx.out]
          simp [List.getD, hj]⟩
        have HSa := hid_w (HS2 (some ⟨G, 0, none⟩) L w10 HBx HBo)
        obtain ⟨D1, HD1⟩ : ∃ D1 : ByteArray, Hid (D1 = ⟨(dmT (n + 1)).toArray⟩) := ⟨_, rfl⟩
        have HBd : Hid (∀ W, Hid (Below v0.heap.size v0 W) → Calls Tryd.prog 10 #[.string x] W fun e w' => e = .returned (.tuple #[.string D1, .int .i64 0]) ∧ Hid (Below W.heap.size W w')) := fun W hW => by
          have h := HRr.out.til us
          rw [← HL.out] at h
          refine BBoard_ok x m W (HM.out W hW.out) (2 * (n + 1)) (2 * (n + 1)) (by rw [HX.out]; exact h.1) D1 ?_
          rw [HD1.out, HX.out, h.2]; rfl
        have HAd : Hid (∀ W, Calls Tryd.prog 18 #[.int .i64 4] W fun e w' => e = .returned (.tuple #[.string D1, .int .i64 0]) ∧ Hid (Below W.heap.size W w')) := fun W => by
          have h := Aztec_ok (n + 1) W (by omega) (by rw [HN4.out]; omega)
          rw [HD1.out]; unfold dmT
          rw [HN4.out] at h ⊢; exact h
        clear HB8 HB89 HB08 HB09 hB10 HG9 HG10
        go_upto_region 24 with (go_at_call 26; with_reducible (refine HSa.out.mono ?_); rintro e w11 ⟨rfl, HB11'⟩)
        have HB11 : Hid (Below v0.heap.size v0 w11) := HBx.out.trans (HB11'.out.mono HBx.out.size)
        have HBc := hid_w (HBd.out w11 HB11)
        go_upto_region 25 with (go_at_call 10; with_reducible (refine HBc.out.mono ?_); rintro e w12 ⟨rfl, HB12'⟩)
        have HB12 : Hid (Below v0.heap.size v0 w12) := HB11.out.trans (HB12'.out.mono HB11.out.size)
        have HAc := hid_w (HAd.out w12)
        go_upto_region 28 with (go_at_call 18; with_reducible (refine HAc.out.mono ?_); rintro e w13 ⟨rfl, HB13'⟩)
        have HB13 : Hid (Below v0.heap.size v0 w13) := HB12.out.trans (HB13'.out.mono HB12.out.size)
        have HGd : Hid (w13.heap[G]? = some (.cells (us.map Value.bool).toArray 4 (0, 0))) := by
          have g0 : G < w10.heap.size := lt_someN HGx.out
          have g1 : G < w11.heap.size := Nat.lt_of_lt_of_le g0 HB11'.out.size
          have g2 : G < w12.heap.size := Nat.lt_of_lt_of_le g1 HB12'.out.size
          exact (((HB13'.out.block G g2).trans (HB12'.out.block G g1)).trans (HB11'.out.block G g0)).trans HGx.out
        have hfr : w13.frozen? ⟨G, q, none⟩ = false := frozen_of_row w13 _ q _ _ HGd.out
        have hce : w13.cell? ⟨G, q, none⟩ = some (.bool bq) := by
          rw [cell_of_row w13 G _ _ _ _ HGd.out, HBq.out]
          have hl : q < us.length := by rw [HUl.out]; exact hqL
          simp [List.getD, hl]
        obtain ⟨w14, HW14⟩ : ∃ w14, Hid (w14 = w13.setCell ⟨G, q, none⟩ (.bool (!bq))) := ⟨_, rfl⟩
        have HB14 : Hid (Below v0.heap.size v0 w14) := by rw [HW14.out]; exact HB13.out.setCell (p := ⟨G, q, none⟩) HBG.out _
        have HG14 : Hid (w14.heap[G]? = some (.cells (vs.map Value.bool).toArray 4 (0, 0))) := by
          show _ = _
          rw [HW14.out, heap_setCell_same w13 G q _ _ _ HGd.out, HVs.out]
          simp
        have HBv : Hid (BoI w14 (some ⟨G, 0, none⟩) vs) := fun j hj => ⟨G, rfl, lt_someN HG14.out, by
          rw [cell_of_row w14 G _ _ _ _ HG14.out]
          simp [List.getD, hj]⟩
        have HSc := hid_w (HS3 (some ⟨G, 0, none⟩) L w14 HB14 HBv)
        clear HSa HBc HAc HB11 HB12 HGx HBo HBx
        go_upto_region 29 with (go_at_call 30; with_reducible (refine (HPq.out _).mono ?_); rintro e w' ⟨rfl, rfl⟩)
        rw [← HW14.out]
        go_upto_region 30 with (go_at_call 26; with_reducible (refine HSc.out.mono ?_); rintro e w15 ⟨rfl, HB15⟩)
        obtain ⟨hxy1, hxy2⟩ := HXY.out
        go_wp2
        go_ret
        exact ⟨rfl, HB14.out.trans (HB15.out.mono HB14.out.size)⟩
      · go_upto_region 21 with (go_at_call 25; with_reducible (refine HNd.out.mono ?_); rintro e w8 ⟨rfl, HB8⟩)
        go_upto_region 57 with (at_make; refine wpList_make_full _ rfl _ _ 47 rfl w8.heap.size 4 i0 (.bool false) 1 Tryd.underlying47 hi hz0 hz1 _ _ _ _ L rfl rfl rfl rfl ?b1 ?b2 ?b3 ?_)
        case b1 => rw [hz2]; omega
        case b2 => unfold maxLen; omega
        case b3 => exact Nat.le_refl _
        intro w9 hown hgrow
        obtain ⟨G, HGq⟩ : ∃ G, Hid (G = w8.heap.size) := ⟨_, rfl⟩
        have HB89 : Hid (Below w8.heap.size w8 w9) := (Below.refl _ _).grown hgrow (Nat.le_refl _) (fun k h => by cases h)
        have HG9 : Hid (w9.heap[G]? = some (.cells cu.toArray 4 (0, 0))) := by
          show _ = _
          rw [HGq.out, HCu.out]
          rcases hown.2 with ⟨h2, _⟩ | ⟨g', cap', cur, hv, hg, hh, h4, h5, h6, h7⟩
          · cases h2
          · simp only [Value.slice.injEq, Option.some.injEq, Addr.mk.injEq, and_true, true_and] at hv
            obtain ⟨rfl, rfl⟩ := hv
            rw [hh]
            have e0 : cur.toList = List.replicate L (Value.bool false) := by
              rw [List.take_of_length_le (by rw [Array.length_toList, h6, Nat.mul_one]; exact Nat.le_refl _)] at h7
              rw [h7, toList_madeCells_one]
            rw [← e0]
        have HB08 : Hid (Below v0.heap.size v0 w8) := HB.out.trans (HB8.out.mono HB.out.size)
        have HB09 : Hid (Below v0.heap.size v0 w9) := HB08.out.trans (HB89.out.mono HB08.out.size)
        have hcl : cs.length = Nat.min un L := by rw [HCs.out, List.length_map, List.length_take, HBa.out.1]; show min (min un L) un = min un L; omega
        have hpos : 0 < cs.length → (some (⟨G, 0, none⟩ : Addr)) = some ⟨G, 0, none⟩ ∧ ∃ ad, ua = some ad ∧ ∀ j v, cs[j]? = some v → w9.cell? (ad.add j) = some v := fun h => by
          have hcu : cs.length = min un L := hcl
          obtain ⟨b, off, e, hb, hc⟩ := HBa.out.2 (by omega)
          refine ⟨rfl, _, e, fun j v hj => ?_⟩
          have hjl : j < cs.length := by
            rcases Nat.lt_or_ge j cs.length with z | z
            · exact z
            · rw [List.getElem?_eq_none z] at hj; cases hj
          have hbl : bs.length = un := HBa.out.1
          rw [Addr.add_lit, HB09.out.cell (p := ⟨b, off + j, none⟩) hb, hc j (by omega)]
          rw [HCs.out, List.getElem?_map, List.getElem?_take_of_lt (by omega), List.getElem?_eq_getElem (by omega)] at hj
          rw [List.getD_eq_getElem?_getD, List.getElem?_eq_getElem (by omega), Option.getD_some]
          simpa using hj
        have hfit : 0 + cs.length ≤ cu.length := by rw [HCu.out, List.length_replicate, hcl]; show 0 + min un L ≤ L; omega
        have hone : ∀ v ∈ cs, v.oneCell' = true := fun v hv => by
          rw [HCs.out] at hv
          obtain ⟨x, _, rfl⟩ := List.mem_map.1 hv; rfl
        have HKc := hid_w hcl
        have HKp := hid_w hpos
        have HKf := hid_w hfit
        have HKo := hid_w hone
        have HBG : Hid (v0.heap.size ≤ G) := by rw [HGq.out]; exact HB08.out.size
        rw [← HGq.out]
        obtain ⟨w10, hrun, HG10, hB10⟩ := run_copy_bools (ua := ua) (un := un) (uc := uc) HG9.out HKc.out HKp.out HKf.out HKo.out HB09.out HBG.out (cap := L)
        clear hcl hpos hfit hone hown hgrow
        have HBx : Hid (Below v0.heap.size v0 w10) := hB10
        have HGx : Hid (w10.heap[G]? = some (.cells (us.map Value.bool).toArray 4 (0, 0))) := by
          show _ = _
          rw [← HSp.out]; exact HG10.out
        have HBo : Hid (BoI w10 (some ⟨G, 0, none⟩) us) := fun j hj => ⟨G, rfl, lt_someN HGx.out, by
          rw [cell_of_row w10 G _ _ _ _ HGx.out]
          simp [List.getD, hj]⟩
        have HSa := hid_w (HS2 (some ⟨G, 0, none⟩) L w10 HBx HBo)
        obtain ⟨D1, HD1⟩ : ∃ D1 : ByteArray, Hid (D1 = ⟨(dmT (n + 1)).toArray⟩) := ⟨_, rfl⟩
        have HBd : Hid (∀ W, Hid (Below v0.heap.size v0 W) → Calls Tryd.prog 10 #[.string x] W fun e w' => e = .returned (.tuple #[.string D1, .int .i64 0]) ∧ Hid (Below W.heap.size W w')) := fun W hW => by
          have h := HRr.out.til us
          rw [← HL.out] at h
          refine BBoard_ok x m W (HM.out W hW.out) (2 * (n + 1)) (2 * (n + 1)) (by rw [HX.out]; exact h.1) D1 ?_
          rw [HD1.out, HX.out, h.2]; rfl
        have HAd : Hid (∀ W, Calls Tryd.prog 18 #[.int .i64 4] W fun e w' => e = .returned (.tuple #[.string D1, .int .i64 0]) ∧ Hid (Below W.heap.size W w')) := fun W => by
          have h := Aztec_ok (n + 1) W (by omega) (by rw [HN4.out]; omega)
          rw [HD1.out]; unfold dmT
          rw [HN4.out] at h ⊢; exact h
        clear HB8 HB89 HB08 HB09 hB10 HG9 HG10
        go_upto_region 24 with (go_at_call 26; with_reducible (refine HSa.out.mono ?_); rintro e w11 ⟨rfl, HB11'⟩)
        have HB11 : Hid (Below v0.heap.size v0 w11) := HBx.out.trans (HB11'.out.mono HBx.out.size)
        have HBc := hid_w (HBd.out w11 HB11)
        go_upto_region 25 with (go_at_call 10; with_reducible (refine HBc.out.mono ?_); rintro e w12 ⟨rfl, HB12'⟩)
        have HB12 : Hid (Below v0.heap.size v0 w12) := HB11.out.trans (HB12'.out.mono HB11.out.size)
        have HAc := hid_w (HAd.out w12)
        go_upto_region 28 with (go_at_call 18; with_reducible (refine HAc.out.mono ?_); rintro e w13 ⟨rfl, HB13'⟩)
        have HB13 : Hid (Below v0.heap.size v0 w13) := HB12.out.trans (HB13'.out.mono HB12.out.size)
        have HGd : Hid (w13.heap[G]? = some (.cells (us.map Value.bool).toArray 4 (0, 0))) := by
          have g0 : G < w10.heap.size := lt_someN HGx.out
          have g1 : G < w11.heap.size := Nat.lt_of_lt_of_le g0 HB11'.out.size
          have g2 : G < w12.heap.size := Nat.lt_of_lt_of_le g1 HB12'.out.size
          exact (((HB13'.out.block G g2).trans (HB12'.out.block G g1)).trans (HB11'.out.block G g0)).trans HGx.out
        have hfr : w13.frozen? ⟨G, q, none⟩ = false := frozen_of_row w13 _ q _ _ HGd.out
        have hce : w13.cell? ⟨G, q, none⟩ = some (.bool bq) := by
          rw [cell_of_row w13 G _ _ _ _ HGd.out, HBq.out]
          have hl : q < us.length := by rw [HUl.out]; exact hqL
          simp [List.getD, hl]
        obtain ⟨w14, HW14⟩ : ∃ w14, Hid (w14 = w13.setCell ⟨G, q, none⟩ (.bool (!bq))) := ⟨_, rfl⟩
        have HB14 : Hid (Below v0.heap.size v0 w14) := by rw [HW14.out]; exact HB13.out.setCell (p := ⟨G, q, none⟩) HBG.out _
        have HG14 : Hid (w14.heap[G]? = some (.cells (vs.map Value.bool).toArray 4 (0, 0))) := by
          show _ = _
          rw [HW14.out, heap_setCell_same w13 G q _ _ _ HGd.out, HVs.out]
          simp
        have HBv : Hid (BoI w14 (some ⟨G, 0, none⟩) vs) := fun j hj => ⟨G, rfl, lt_someN HG14.out, by
          rw [cell_of_row w14 G _ _ _ _ HG14.out]
          simp [List.getD, hj]⟩
        have HSc := hid_w (HS3 (some ⟨G, 0, none⟩) L w14 HB14 HBv)
        clear HSa HBc HAc HB11 HB12 HGx HBo HBx
        go_upto_region 29 with (go_at_call 30; with_reducible (refine (HPq.out _).mono ?_); rintro e w' ⟨rfl, rfl⟩)
        rw [← HW14.out]
        go_upto_region 30 with (go_at_call 26; with_reducible (refine HSc.out.mono ?_); rintro e w15 ⟨rfl, HB15⟩)
        obtain ⟨hxy1, hxy2⟩ := HXY.out
        go_wp2
        go_ret
        exact ⟨rfl, HB14.out.trans (HB15.out.mono HB14.out.size)⟩

/-- The law, whatever the order. -/
theorem daz_at (k : Int) (ta ua : Option Addr) (tn tc un uc : Nat) (zs : List Int) (bs : List Bool) (m : Int) (w : World) (hk : -9223372036854775808 ≤ k ∧ k ≤ 9223372036854775807) (hm : w.cell? ⟨0, 0, none⟩ = some (.int .i64 m)) (hB : TabAt 1 Lib.deBruijn64tab w) (hz : Shows w ta zs) (hzn : tn = zs.length) (hba : BoA w ua un bs) :
    Calls Tryd.prog 7 #[.int .i64 k, .slice ta tn tc, .slice ua un uc] w fun e w' => e = .returned (.bool true) ∧ Below w.heap.size w w' := by
  obtain ⟨c, hc, hP⟩ := Pick_val k 4 hk (by omega) (by omega)
  have hzb := hz.wf
  rcases (by omega : c = 0 ∨ c = 1 ∨ c = 2 ∨ c = 3) with h | h | h | h
  · exact daz_1 k ta ua tn tc un uc zs m w hm hB hz hzn hzb bs hba hk c h hP
  · exact daz_2 k ta ua tn tc un uc zs m w hm hB hz hzn hzb bs hba hk c h hP
  · exact daz_3 k ta ua tn tc un uc zs m w hm hB hz hzn hzb bs hba hk c h hP
  · exact daz_four k ta ua tn tc un uc zs m w hm hB hz hzn hzb c h hP

end Go.Proofs.YtcnmndbckjmliaaDoor
