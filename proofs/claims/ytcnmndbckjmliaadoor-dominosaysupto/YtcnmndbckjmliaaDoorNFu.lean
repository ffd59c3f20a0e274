/-
  ferref.FirstTiling: the walk.
-/
import Derived.Test.YtcnmndbckjmliaaDoorNFt
namespace Go.Proofs.YtcnmndbckjmliaaDoor
open Go.RowKit
open Go.ChangeMaps

theorem kpt_below {B b : Nat} {a w w' : World} (h : Below B a w) (hB : B ≤ a.heap.size) (hb : B ≤ b) (hk : KpT w b w') : Below B a w' :=
  h.trans ⟨hk.1.1, hk.1.2.1, hk.1.2.2, hk.2.1, fun k h2 => hk.2.2 k (Nat.lt_of_lt_of_le h2 (Nat.le_trans hB h.size)) (by omega)⟩

/-- The first of the two was no way. -/
def NoL (q k : Nat) : Prop := q = 1 → ¬ (mayL k = true ∧ 0 < cntC (lieC k))

set_option maxHeartbeats 16000000 in
set_option maxRecDepth 100000 in
theorem FirstT_at (S : ByteArray) (r c : Nat) (hr : r + 1 ≤ 8) (hc1 : 1 ≤ c) (hc : c ≤ 8) (g : Nat → UInt8) (x : Nat) (hx : MskP (r + 1) c g x) (hlet : ∀ i, i < r + 1 → ∀ j, j < c → g (i * 8 + j) ∈ bdL) (hS : S.data.toList = tx (r + 1) c g) (hpos : 0 < cntC x) (v9 : World) :
    Calls Tryd.prog 17 #[.string S] v9 fun e w' => e = .returned (.string ⟨(tx (r + 1) c (fstG 64 x g)).toArray⟩) ∧ Hid (Below v9.heap.size v9 w') := by
  have HS := hid_w hS
  have HI : Hid (∀ W, Calls Tryd.prog 29 #[.string (S ++ ⟨#[47]⟩), .int .u8 47] W fun e w' => e = .returned (.int .i64 (c : Int)) ∧ w' = W) := fun W => by
    have h := IndexB_z (S ++ ⟨#[47]⟩) 47 W
    rw [ByteArray.data_append, Array.toList_append, hS] at h
    have hz : Shz bdL (r + 1) c (pz (tx (r + 1) c g)) := by
      rw [pz_tx (lt := bdL) (by omega) hlet no47d]
      exact shz_rwz (by omega) hr hc1 hc hlet
    have e : Lib.indexByte (tx (r + 1) c g ++ (⟨#[47]⟩ : ByteArray).data.toList) 47 = (c : Int) := wid_at hz
    rw [e] at h; exact h
  obtain ⟨wd, HWd⟩ : ∃ wd : Nat, Hid (wd = c + 1) := ⟨_, rfl⟩
  have hwd1 : (c : Int) + 1 = (wd : Int) := by have := HWd.out; omega
  have hwd9 : wd ≤ 9 := by have := HWd.out; omega
  have HSz : Hid (S.size = (r + 1) * (c + 1) - 1) := by
    show _ = _
    rw [← ba_len, hS, tx_length]
  have h47 : (ByteArray.mk #[47]).size = 1 := rfl
  have hS71 : S.size ≤ 71 := by
    have h1 : (r + 1) * (c + 1) ≤ 8 * 9 := Nat.mul_le_mul hr (by omega)
    rw [HSz.out]; omega
  have hS0 : 0 < S.size := by
    have h1 : 1 * (1 + 1) ≤ (r + 1) * (c + 1) := Nat.mul_le_mul (by omega) (by omega)
    rw [HSz.out]; omega
  have HPos : Hid (∀ i j, i < r + 1 → j < c → i * (c + 1) + j < S.size) := fun i j hi hj => by
    have h1 : (i + 1) * (c + 1) ≤ (r + 1) * (c + 1) := Nat.mul_le_mul_right _ (by omega)
    rw [Nat.succ_mul] at h1
    rw [HSz.out]; omega
  have HLn0 : Hid (∀ f : Nat → UInt8, (tx (r + 1) c f).length = S.size) := fun f => by rw [tx_length, HSz.out]
  obtain ⟨F9, HF9⟩ : ∃ F9, Hid (F9 = fstG 64 x g) := ⟨_, rfl⟩
  rw [← HF9.out]
  obtain ⟨b, HBb⟩ : ∃ b, Hid (b = v9.heap.size) := ⟨_, rfl⟩
  obtain ⟨W1, HW1⟩ : ∃ W1, Hid (W1 = v9.alloc (.map #[] 0)) := ⟨_, rfl⟩
  have HK1 : Hid (KnowS r c W1 b 0) := by rw [HW1.out, HBb.out]; exact knowS_made r c v9
  have HB1 : Hid (Below v9.heap.size v9 W1) := by rw [HW1.out]; exact (Below.refl _ _).alloc (Nat.le_refl _) _
  have HBl1 : Hid (b < W1.heap.size) := HK1.out.lt
  have HTi : Hid (∀ (gl : Nat → UInt8) (k : Nat), MskP (r + 1) c gl k → (∀ i, i < r + 1 → ∀ j, j < c → gl (i * 8 + j) ∈ bdL) → ∀ (W : World) (n : Nat), Hid (KnowS r c W b n) → n + 8589934592 ≤ 1000000000000 → ∀ S' : ByteArray, S'.data.toList = tx (r + 1) c gl → ∀ q : Nat, q = cntC k →
      Calls Tryd.prog 16 #[.string S', .map (some b)] W fun e w' => e = .returned (.int .i64 (q : Int)) ∧ Hid (KnowS r c w' b (n + 8589934591)) ∧ Hid (KpT W b w')) := fun gl k hk hl W n hK hn S' hS' q hq => by
    subst hq
    exact tilings_all r c hr hc1 hc 32 gl k hk hl (free_le k) W b n hK hn S' hS'
  obtain ⟨q0, hq0⟩ : ∃ q0, q0 = cntC x := ⟨_, rfl⟩
  have HT1 := hid_w (HTi.out g x hx hlet W1 0 HK1 (by omega) S hS q0 hq0)
  have hq0n : ¬ (q0 : Int) = 0 := by omega
  have hq0b : ((q0 : Int) == 0) = false := beq_false_of_ne hq0n
  have HIt0 : Hid (FtI r c x g g g x 0) := ⟨hx, FG.start x g, hpos, hlet, fun i _ j _ h => absurd h (Nat.not_lt_zero _)⟩
  clear hx hlet hS hpos hq0
  go_enter Tryd.func17, Tryd.ntmps17
  go_wp2_with fail
  rw [run_makeMap, ← HBb.out, ← HW1.out]
  go_upto_region 5 with (first | (go_at_call 16; with_reducible (refine HT1.out.mono ?_); rintro e W2 ⟨rfl, HK2, HKp2⟩) | (go_at_call 29; with_reducible (refine (HI.out _).mono ?_); rintro e w3 ⟨rfl, rfl⟩))
  clear hwd1
  obtain ⟨V, HVq⟩ : ∃ V, Hid (V = w3) := ⟨_, rfl⟩
  have HKV : Hid (KnowS r c V b 8589934591) := by rw [HVq.out]; have := HK2.out; rw [Nat.zero_add] at this; exact this
  have HKpV : Hid (KpT W1 b V) := by rw [HVq.out]; exact HKp2.out
  rw [← HVq.out]
  have HBV : Hid (Below v9.heap.size v9 V) := kpt_below HB1.out (Nat.le_refl _) (by rw [HBb.out]; exact Nat.le_refl _) HKpV.out
  have HBl : Hid (b < V.heap.size) := HKV.out.lt
  obtain ⟨GL, HGL⟩ : ∃ GL, Hid (GL = V.heap.size) := ⟨_, rfl⟩
  obtain ⟨cap1, HC1⟩ : ∃ cap1, Hid (cap1 = grownCap V S.size 0 5) := ⟨_, rfl⟩
  obtain ⟨W3, HW3⟩ : ∃ W3, Hid (W3 = V.drew.alloc (.cells (bytesRow S cap1) 5 ((bytesRow S cap1).size, (bytesRow S cap1).size + 1))) := ⟨_, rfl⟩
  have hcv1 : (convert 9 80 (.string S)).run Tryd.prog V = .ok (.slice (some ⟨GL, 0, none⟩) S.size cap1) W3 := by
    rw [HW3.out, HC1.out, HGL.out]
    exact run_bytes_of_string V 9 80 5 S Tryd.underlying9 Tryd.underlying80 Tryd.underlying5
  have HB3 : Hid (Below V.heap.size V W3) := by rw [HW3.out]; exact (Below.refl _ _).drew.alloc (Nat.le_refl _) _
  have HQ3 : Hid (ByQ W3 GL (tx (r + 1) c g)) := by
    have h := (byr_conv S V cap1).q
    rw [HW3.out, HGL.out, ← HS.out]; exact h
  obtain ⟨GO, HGO⟩ : ∃ GO, Hid (GO = W3.heap.size) := ⟨_, rfl⟩
  obtain ⟨cap2, HC2⟩ : ∃ cap2, Hid (cap2 = grownCap W3 S.size 0 5) := ⟨_, rfl⟩
  obtain ⟨W4, HW4⟩ : ∃ W4, Hid (W4 = W3.drew.alloc (.cells (bytesRow S cap2) 5 ((bytesRow S cap2).size, (bytesRow S cap2).size + 1))) := ⟨_, rfl⟩
  have hcv2 : (convert 9 80 (.string S)).run Tryd.prog W3 = .ok (.slice (some ⟨GO, 0, none⟩) S.size cap2) W4 := by
    rw [HW4.out, HC2.out, HGO.out]
    exact run_bytes_of_string W3 9 80 5 S Tryd.underlying9 Tryd.underlying80 Tryd.underlying5
  have HB34 : Hid (Below W3.heap.size W3 W4) := by rw [HW4.out]; exact (Below.refl _ _).drew.alloc (Nat.le_refl _) _
  have HB4 : Hid (Below V.heap.size V W4) := HB3.out.trans (HB34.out.mono HB3.out.size)
  have HQO4 : Hid (ByQ W4 GO (tx (r + 1) c g)) := by
    have h := (byr_conv S W3 cap2).q
    rw [HW4.out, HGO.out, ← HS.out]; exact h
  have HQL4 : Hid (ByQ W4 GL (tx (r + 1) c g)) := HQ3.out.same (HB34.out.block GL HQ3.out.lt)
  have HGG : Hid (GL ≠ GO ∧ V.heap.size ≤ GL) := ⟨by have h1 := HQ3.out.lt; have h2 := HGO.out; omega, by rw [HGL.out]; exact Nat.le_refl _⟩
  have HGO2 : Hid (V.heap.size ≤ GO) := by rw [HGO.out]; exact HB3.out.size
  have HK4 : Hid (KnowS r c W4 b 8589934591) := HKV.out.same (HB4.out.block b HBl.out)
  have HN4 : Hid (8589934591 + 8589934592 * freeC x ≤ 8589934592 * 65) := by show _ ≤ _; have := free_le x; omega
  have HB94 : Hid (Below v9.heap.size v9 W4) := HBV.out.trans (HB4.out.mono HBV.out.size)
  go_wp2_with fail
  clear hcv1 hcv2 hq0n hq0b
  go_loopw [5, 7] (fun lv v wr => ∃ (p G capl k n : Nat) (gl f : Nat → UInt8), p ≤ S.size ∧ v = .int .i64 (p : Int) ∧ lv = .slice (some ⟨G, 0, none⟩) S.size capl ∧ Hid (ByQ wr G (tx (r + 1) c gl)) ∧ Hid (ByQ wr GO (tx (r + 1) c f)) ∧ Hid (G ≠ GO ∧ V.heap.size ≤ G) ∧ Hid (FtI r c x g gl f k p) ∧ Hid (KnowS r c wr b n) ∧ Hid (n + 8589934592 * freeC k ≤ 8589934592 * 65) ∧ Hid (Below v9.heap.size v9 wr)) (fun _ v _ => S.size - (intOf v).toNat)
  case atStart => exact ⟨0, GL, cap1, x, _, g, g, Nat.zero_le _, rfl, rfl, HQL4, HQO4, HGG, HIt0, HK4, HN4, HB94⟩
  case round =>
    clear HIt0 HQL4 HQO4 HGG HK4 HN4 HB94
    obtain ⟨p, G, capl, k, n, gl, f, hp, rfl, rfl, HQl, HQo, HGs, HIt, HK, HNb, HB⟩ := hrel
    by_cases hlt : p < S.size
    · have hlt' : (p : Int) < (S.size : Int) := by omega
      obtain ⟨bb, HBb2⟩ : ∃ bb, Hid (bb = (tx (r + 1) c gl).getD p 0) := ⟨_, rfl⟩
      obtain ⟨y, HY⟩ : ∃ y : Nat, Hid (y = bb.toNat) := ⟨_, rfl⟩
      have cy : wr.cell? ⟨G, p, none⟩ = some (.int .u8 (y : Int)) := by
        have h := HQl.out.cell (j := p) (by rw [HLn0.out]; exact hlt)
        rw [HY.out, HBb2.out]; exact h
      have HAt : Hid ((tx (r + 1) c gl)[p]? = some bb) := by
        show _ = _
        have hl : p < (tx (r + 1) c gl).length := by rw [HLn0.out]; exact hlt
        rw [HBb2.out, List.getD_eq_getElem?_getD, List.getElem?_eq_getElem hl, Option.getD_some]
      by_cases g35 : (y : Int) = 35
      · have hbb : bb = 35 := UInt8.toNat_inj.1 (by rw [← HY.out]; exact Int.ofNat.inj g35)
        obtain ⟨i, j, hi, hj, hpij, hgo⟩ := place_at (by rw [HAt.out, hbb])
        have HPij : Hid (p = i * (c + 1) + j) := hpij
        have HFst : Hid (k < allC ∧ fstC k = i * 8 + j) := NoP.first HIt.out.msk hr hc hi hj (by rw [← hpij]; exact HIt.out.none) hgo
        obtain ⟨p0, hp0⟩ : ∃ p0, p0 = p + 1 := ⟨_, rfl⟩
        obtain ⟨p1, hp1⟩ : ∃ p1, p1 = p + wd := ⟨_, rfl⟩
        have HP01 := hid_w (And.intro hp0 hp1)
        have hq0 : (p : Int) + 1 = (p0 : Int) := by omega
        have hq1 : (p : Int) + (wd : Int) = (p1 : Int) := by omega
        have hpb : p0 ≤ 72 := by omega
        have hpc : p1 ≤ 80 := by omega
        clear hp0 hp1 hpij hbb
        go_upto_region 11 with fail
        obtain ⟨U, HU⟩ : ∃ U, Hid (U = wr) := ⟨_, rfl⟩
        rw [← HU.out] at HQl HQo HK HB cy ⊢
        obtain ⟨PP, HPP⟩ : ∃ PP, Hid (PP = U.heap.size) := ⟨_, rfl⟩
        obtain ⟨Wa, HWa⟩ : ∃ Wa, Hid (Wa = U.alloc (.cells #[.int .i64 (p0 : Int), .int .i64 (p1 : Int)] 3)) := ⟨_, rfl⟩
        have HRow0 : Hid (Wa.heap[PP]? = some (.cells #[.int .i64 (p0 : Int), .int .i64 (p1 : Int)] 3 (0, 0))) := by
          show _ = _
          rw [HWa.out, HPP.out]; exact heap_alloc_last _ _
        have HBa : Hid (Below U.heap.size U Wa) := by rw [HWa.out]; exact (Below.refl _ _).alloc (Nat.le_refl _) _
        have HK0 : Hid (KnowS r c Wa b n) := HK.out.same (HBa.out.block b HK.out.lt)
        have HNn0 : Hid (n ≤ n + 0 * 8589934591) := by show _ ≤ _; omega
        have HNo0 : Hid (NoL 0 k) := fun h => by cases h
        have HKp0 : Hid (KpT Wa b Wa) := KpT.refl _ _
        -- what stays through the inner rounds
        have HStay : Hid (∀ W, KpT Wa b W → ByQ W G (tx (r + 1) c gl) ∧ ByQ W GO (tx (r + 1) c f) ∧ W.heap[PP]? = some (.cells #[.int .i64 (p0 : Int), .int .i64 (p1 : Int)] 3 (0, 0)) ∧ Below v9.heap.size v9 W ∧ W.cell? ⟨G, p, none⟩ = some (.int .u8 (y : Int))) := fun W hW => by
          have hsame : ∀ q, q < U.heap.size → q ≠ b → W.heap[q]? = U.heap[q]? := fun q hq hne => (hW.2.2 q (Nat.lt_of_lt_of_le hq HBa.out.size) hne).trans (HBa.out.block q hq)
          have hGb : G ≠ b := by have := HGs.out.2; have := HBl.out; omega
          have hOb : GO ≠ b := by have := HGO2.out; have := HBl.out; omega
          have h1 := hsame G HQl.out.lt hGb
          refine ⟨HQl.out.same h1, HQo.out.same (hsame GO HQo.out.lt hOb), ?_, kpt_below (HB.out.trans (HBa.out.mono HB.out.size)) (Nat.le_refl _) (by rw [HBb.out]; exact Nat.le_refl _) hW, ?_⟩
          · rw [hW.2.2 PP (lt_someN HRow0.out) (by have h1 := HPP.out; have h2 := HK.out.lt; omega)]; exact HRow0.out
          · rw [World.cell?_of_block (a := ⟨G, p, none⟩) (w := U) h1]; exact cy
        rw [← HPP.out, ← HWa.out]
        go_loopw [5, 42] (fun lv v wq => ∃ q n2 : Nat, q ≤ 1 ∧ v = .int .i64 (q : Int) ∧ lv = .slice (some ⟨G, 0, none⟩) S.size capl ∧ Hid (KnowS r c wq b n2) ∧ Hid (n2 ≤ n + q * 8589934591) ∧ Hid (NoL q k) ∧ Hid (KpT Wa b wq)) (fun _ v _ => 2 - (intOf v).toNat)
        case atStart => exact ⟨0, n, by omega, rfl, rfl, HK0, HNn0, HNo0, HKp0⟩
        case round =>
          clear HK0 HNn0 HNo0 HKp0 cy
          obtain ⟨q, n2, hq, rfl, rfl, HK2, HN2, HNo, HKp⟩ := hrel
          obtain ⟨wq, HWq⟩ : ∃ wq, Hid (wq = wr) := ⟨_, rfl⟩
          rw [← HWq.out] at HK2 HKp ⊢
          obtain ⟨hql, hqo, hrow, hbv, cy⟩ := HStay.out wq HKp.out
          have HQl2 := hid_w hql
          have HQo2 := hid_w hqo
          have HRow := hid_w hrow
          have HBv := hid_w hbv
          have HLl : Hid ((tx (r + 1) c gl).length = S.size) := HLn0.out gl
          have HL0 : Hid (0 < (tx (r + 1) c gl).length) := by show _ < _; rw [HLl.out]; exact hS0
          have HL1 : Hid ((tx (r + 1) c gl).length ≤ 1000) := by show _ ≤ _; rw [HLl.out]; omega
          have r0 : wq.cell? ⟨PP, 0, none⟩ = some (.int .i64 (p0 : Int)) := by rw [cell_of_row wq PP _ _ _ _ HRow.out]; rfl
          have r1 : wq.cell? ⟨PP, 1, none⟩ = some (.int .i64 (p1 : Int)) := by rw [cell_of_row wq PP _ _ _ _ HRow.out]; rfl
          clear hql hqo hrow hbv
          rcases (by omega : q = 0 ∨ q = 1) with rfl | rfl
          · -- to the right
            have HML := hid_w (may_right HIt.out.msk hr hc hi hj HFst.out.2)
            by_cases hA : j + 1 < c ∧ gl (i * 8 + (j + 1)) = 35
            · obtain ⟨hA1, hop⟩ := hA
              have HPT : Hid (p0 = (i) * (c + 1) + (j + 1)) := by show _ = _; have := HP01.out.1; have := HPij.out; omega
              have htl : p0 < S.size := by rw [HPT.out]; exact HPos.out _ _ (by omega) (by omega)
              have htl' : (p0 : Int) < (S.size : Int) := by omega
              have hge : ¬ ((p0 : Int) ≥ (S.size : Int)) := by omega
              have HNe : Hid (p0 ≠ p) := by show _ ≠ _; have := HP01.out; have := HWd.out; omega
              have hct : wq.cell? ⟨G, p0, none⟩ = some (.int .u8 35) := by
                have h := HQl2.out.cell (j := p0) (by rw [HLl.out]; omega)
                have e : (tx (r + 1) c gl).getD p0 0 = 35 := by rw [List.getD_eq_getElem?_getD, HPT.out, tx_get r c gl (i) (j + 1) (by omega) (by omega), hop]; rfl
                rw [e] at h; exact h
              go_upto_region 15 with (at_builtin; refine append_copyQ rfl _ _ rfl rfl rfl HQl2.out HLl.out.symm HL0.out HL1.out ?_; intro Gt cpt w4 HGt HQt HB4)
              obtain ⟨l1, Hl1⟩ : ∃ l1, Hid (l1 = (tx (r + 1) c gl).set p 46) := ⟨_, rfl⟩
              obtain ⟨l2, Hl2⟩ : ∃ l2, Hid (l2 = l1.set p0 46) := ⟨_, rfl⟩
              have Hl1l : Hid (l1.length = S.size) := by show _ = _; rw [Hl1.out, List.length_set]; exact HLl.out
              have Hl2l : Hid (l2.length = S.size) := by show _ = _; rw [Hl2.out, List.length_set]; exact Hl1l.out
              have HS1 : Hid (ByQ (w4.setCell ⟨Gt, p, none⟩ (.int .u8 46)) Gt l1) := by rw [Hl1.out]; exact HQt.out.store p 46 (by rw [HLl.out]; omega)
              have HS2 : Hid (ByQ ((w4.setCell ⟨Gt, p, none⟩ (.int .u8 46)).setCell ⟨Gt, p0, none⟩ (.int .u8 46)) Gt l2) := by rw [Hl2.out]; exact HS1.out.store p0 46 (by rw [Hl1l.out]; omega)
              have g0 : w4.cell? ⟨Gt, p, none⟩ = some (.int .u8 (((tx (r + 1) c gl).getD p 0).toNat : Int)) := HQt.out.cell (by rw [HLl.out]; omega)
              have f0 : w4.frozen? ⟨Gt, p, none⟩ = false := HQt.out.frozen (by rw [HLl.out]; omega)
              have g1 : (w4.setCell ⟨Gt, p, none⟩ (.int .u8 46)).cell? ⟨Gt, p0, none⟩ = some (.int .u8 ((l1.getD p0 0).toNat : Int)) := HS1.out.cell (by rw [Hl1l.out]; omega)
              have f1 : (w4.setCell ⟨Gt, p, none⟩ (.int .u8 46)).frozen? ⟨Gt, p0, none⟩ = false := HS1.out.frozen (by rw [Hl1l.out]; omega)
              obtain ⟨W5, HW5⟩ : ∃ W5, Hid (W5 = (w4.setCell ⟨Gt, p, none⟩ (.int .u8 46)).setCell ⟨Gt, p0, none⟩ (.int .u8 46)) := ⟨_, rfl⟩
              rw [← HW5.out] at HS2
              obtain ⟨S2, HS2e⟩ : ∃ S2 : ByteArray, Hid (S2 = ⟨l2.toArray⟩) := ⟨_, rfl⟩
              obtain ⟨gn, HGn⟩ : ∃ gn, Hid (gn = up2 gl (i * 8 + j) 46 ((i) * 8 + (j + 1)) 46) := ⟨_, rfl⟩
              have HLn : Hid (l2 = tx (r + 1) c gn) := by
                have e1 := tx_set r c gl i j (by omega) (by omega) hc 46
                have e2 := tx_set r c (fun z => if z = i * 8 + j then 46 else gl z) (i) (j + 1) (by omega) (by omega) hc 46
                show _ = _
                rw [Hl2.out, Hl1.out, HPij.out, HPT.out, e1, e2, HGn.out]; rfl
              have hback : (convert 80 9 (.slice (some ⟨Gt, 0, none⟩) S.size cpt)).run Tryd.prog W5 = .ok (.string S2) W5 := by
                have h := HS2.out.back (cap := cpt)
                rw [Hl2l.out, ← HS2e.out] at h; exact h
              have HB5 : Hid (Below wq.heap.size wq W5) := by
                have hs : ∀ (W : World) (z : Nat) (v : Value), Below wq.heap.size wq W → Below wq.heap.size wq (W.setCell ⟨Gt, z, none⟩ v) := fun W z v hb =>
                  hb.trans ⟨rfl, rfl, rfl, by simp, fun i hi => heap_setCell_other _ _ _ _ (show i ≠ Gt by have := HGt.out; omega)⟩
                rw [HW5.out]; exact hs _ _ _ (hs _ _ _ HB4.out)
              have HKs5 : Hid (KnowS r c W5 b n2) := HK2.out.same (HB5.out.block b HK2.out.lt)
              obtain ⟨kn, HKn⟩ : ∃ kn, Hid (kn = lieC k) := ⟨_, rfl⟩
              have HKe : Hid (kn = addC k (i * 8 + j) ((i) * 8 + (j + 1))) := by show _ = _; rw [HKn.out]; unfold lieC; rw [HFst.out.2]; rfl
              have HMn : Hid (MskP (r + 1) c gn kn) := by rw [HGn.out, HKe.out]; exact msk_put HIt.out.msk (by omega) (by omega) (by omega)
              have HLetn : Hid (∀ i, i < r + 1 → ∀ j, j < c → gn (i * 8 + j) ∈ bdL) := by rw [HGn.out]; exact up_letters HIt.out.lets
              obtain ⟨z, HZ⟩ : ∃ z, Hid (z = cntC kn) := ⟨_, rfl⟩
              have HTc := hid_w (HTi.out gn kn HMn.out HLetn.out W5 n2 HKs5 (by have := HN2.out; have := HNb.out; have := free_le k; have := free_pos HFst.out.1; omega) S2 (by rw [HS2e.out, HLn.out]) z HZ.out)
              by_cases hz0 : 0 < z
              ·
                have hzp : (z : Int) > 0 := by omega
                go_upto_region 16 with fail
                rw [← HW5.out]
                go_upto_region 18 with (go_at_call 16; with_reducible (refine HTc.out.mono ?_); rintro e w6 ⟨rfl, HK6, HKp6⟩)
                have HGtN : Hid (Gt ≠ GO ∧ V.heap.size ≤ Gt ∧ Gt ≠ b) := by
                  have h1 := HGt.out
                  have h2 := HQo2.out.lt
                  have h3 := HK2.out.lt
                  have h4 := HKp.out.2.1
                  have h5 := HBa.out.size
                  have h6 := HQl.out.lt
                  have h7 := HGs.out.2
                  refine ⟨?_, ?_, ?_⟩ <;> omega
                have hGOb : GO ≠ b := by have := HGO2.out; have := HBl.out; omega
                have HQo6 : Hid (ByQ w6 GO (tx (r + 1) c f)) := HQo2.out.same ((HKp6.out.2.2 GO (Nat.lt_of_lt_of_le HQo2.out.lt HB5.out.size) hGOb).trans (HB5.out.block GO HQo2.out.lt))
                have HQt6 : Hid (ByQ w6 Gt (tx (r + 1) c gn)) := by
                  have h := HS2.out.same (HKp6.out.2.2 Gt HS2.out.lt HGtN.out.2.2)
                  rw [HLn.out] at h; exact h
                have HB6 : Hid (Below v9.heap.size v9 w6) := kpt_below (HBv.out.trans (HB5.out.mono HBv.out.size)) (Nat.le_refl _) (by rw [HBb.out]; exact Nat.le_refl _) HKp6.out
                obtain ⟨o1, Ho1⟩ : ∃ o1, Hid (o1 = (tx (r + 1) c f).set p 108) := ⟨_, rfl⟩
                obtain ⟨o2, Ho2⟩ : ∃ o2, Hid (o2 = o1.set p0 114) := ⟨_, rfl⟩
                have HLo : Hid ((tx (r + 1) c f).length = S.size) := HLn0.out f
                have Ho1l : Hid (o1.length = S.size) := by show _ = _; rw [Ho1.out, List.length_set]; exact HLo.out
                have HO1 : Hid (ByQ (w6.setCell ⟨GO, p, none⟩ (.int .u8 108)) GO o1) := by rw [Ho1.out]; exact HQo6.out.store p 108 (by rw [HLo.out]; omega)
                have HO2 : Hid (ByQ ((w6.setCell ⟨GO, p, none⟩ (.int .u8 108)).setCell ⟨GO, p0, none⟩ (.int .u8 114)) GO o2) := by rw [Ho2.out]; exact HO1.out.store p0 114 (by rw [Ho1l.out]; omega)
                have k0 : w6.drew.cell? ⟨GO, p, none⟩ = some (.int .u8 (((tx (r + 1) c f).getD p 0).toNat : Int)) := HQo6.out.cell (w := w6) (by rw [HLo.out]; omega)
                have e0 : w6.drew.frozen? ⟨GO, p, none⟩ = false := HQo6.out.frozen (w := w6) (by rw [HLo.out]; omega)
                have k1 : (w6.setCell ⟨GO, p, none⟩ (.int .u8 108)).drew.cell? ⟨GO, p0, none⟩ = some (.int .u8 ((o1.getD p0 0).toNat : Int)) := HO1.out.cell (by rw [Ho1l.out]; omega)
                have e1 : (w6.setCell ⟨GO, p, none⟩ (.int .u8 108)).drew.frozen? ⟨GO, p0, none⟩ = false := HO1.out.frozen (by rw [Ho1l.out]; omega)
                obtain ⟨W7, HW7⟩ : ∃ W7, Hid (W7 = ((w6.setCell ⟨GO, p, none⟩ (.int .u8 108)).setCell ⟨GO, p0, none⟩ (.int .u8 114)).drew) := ⟨_, rfl⟩
                have HB67 : Hid (Below v9.heap.size v9 W7) := by
                  have hs : ∀ (W : World) (z : Nat) (v : Value), Below v9.heap.size v9 W → Below v9.heap.size v9 (W.setCell ⟨GO, z, none⟩ v) := fun W z v hb =>
                    hb.trans ⟨rfl, rfl, rfl, by simp, fun i hi => heap_setCell_other _ _ _ _ (show i ≠ GO by have := HGO2.out; have := HBV.out.size; omega)⟩
                  rw [HW7.out]; exact (hs _ _ _ (hs _ _ _ HB6.out)).drew
                have hoth : ∀ q, q ≠ GO → W7.heap[q]? = w6.heap[q]? := fun q hq => by
                  rw [HW7.out]
                  exact (heap_setCell_other _ ⟨GO, p0, none⟩ q _ hq).trans (heap_setCell_other _ ⟨GO, p, none⟩ q _ hq)
                have HQt7 : Hid (ByQ W7 Gt (tx (r + 1) c gn)) := HQt6.out.same (hoth Gt HGtN.out.1)
                have HK7 : Hid (KnowS r c W7 b (n2 + 8589934591)) := HK6.out.same (hoth b hGOb.symm)
                obtain ⟨fn, HFn⟩ : ∃ fn, Hid (fn = up2 f (i * 8 + j) 108 ((i) * 8 + (j + 1)) 114) := ⟨_, rfl⟩
                have HOn : Hid (o2 = tx (r + 1) c fn) := by
                  have q1 := tx_set r c f i j (by omega) (by omega) hc 108
                  have q2 := tx_set r c (fun z => if z = i * 8 + j then 108 else f z) (i) (j + 1) (by omega) (by omega) hc 114
                  show _ = _
                  rw [Ho2.out, Ho1.out, HPij.out, HPT.out, q1, q2, HFn.out]; rfl
                have HQo7 : Hid (ByQ W7 GO (tx (r + 1) c fn)) := by rw [← HOn.out, HW7.out]; exact HO2.out
                have HItn : Hid (FtI r c x g gn fn kn (p + 1)) := by
                  refine ⟨HMn.out, ?_, by rw [← HZ.out]; omega, HLetn.out, ?_⟩
                  · have h := HIt.out.run.lie HFst.out.1 (HML.out.2 ⟨hA1, hop⟩) (by have := HZ.out; rw [HKn.out] at this; omega)
                    rw [HFst.out.2] at h
                    skip
                    rw [HKn.out, HFn.out]; exact h
                  · rw [HGn.out]
                    refine HIt.out.none.up.next ?_
                    rw [HPij.out, tx_get r c _ i j (by omega) (by omega)]
                    have e : up2 gl (i * 8 + j) 46 ((i) * 8 + (j + 1)) 46 (i * 8 + j) = 46 := by unfold up2 upB; rw [if_neg (by omega), if_pos rfl]
                    rw [e]; decide
                have HNn : Hid (n2 + 8589934591 + 8589934592 * freeC kn ≤ 8589934592 * 65) := by
                  have h1 := HN2.out
                  have h2 := HNb.out
                  have h3 : freeC kn + 2 ≤ freeC k := by rw [HKn.out]; exact free_lie HFst.out.1 (HML.out.2 ⟨hA1, hop⟩)
                  show _ ≤ _
                  omega
                have HGsn : Hid (Gt ≠ GO ∧ V.heap.size ≤ Gt) := ⟨HGtN.out.1, HGtN.out.2.1⟩
                have hc00 : ((⟨#[108, 117]⟩ : ByteArray)[0]'(by decide)).toNat = 108 := rfl
                have hc01 : ((⟨#[108, 117]⟩ : ByteArray)[1]'(by decide)).toNat = 117 := rfl
                have hc10 : ((⟨#[114, 100]⟩ : ByteArray)[0]'(by decide)).toNat = 114 := rfl
                have hc11 : ((⟨#[114, 100]⟩ : ByteArray)[1]'(by decide)).toNat = 100 := rfl
                clear hoth hGOb
                go_region
                rw [← HW7.out]
                go_wp2_with fail
                go_roundw
                case rel => exact ⟨p + 1, Gt, cpt, kn, _, gn, fn, by omega, by go_num, rfl, HQt7, HQo7, HGsn, HItn, HK7, HNn, HB67⟩
                case measure => simp [intOf]; omega
              ·
                have hzn : ¬ ((z : Int) > 0) := by omega
                have HNo1 : Hid (NoL 1 k) := fun _ h => by have := HZ.out; rw [HKn.out] at this; omega
                have HN3 : Hid (n2 + 8589934591 ≤ n + 1 * 8589934591) := by have := HN2.out; show _ ≤ _; omega
                go_upto_region 16 with fail
                rw [← HW5.out]
                go_wp2_with (go_at_call 16; with_reducible (refine HTc.out.mono ?_); rintro e w6 ⟨rfl, HK6, HKp6⟩)
                have HKp7 : Hid (KpT Wa b w6) := HKp.out.trans (((KpT.refl wq b).below HB5.out).trans HKp6.out)
                go_roundw
                case rel => exact ⟨1, _, by omega, by go_num, rfl, HK6, HN3, HNo1, HKp7⟩
                case measure => simp [intOf]
            · have HNo1 : Hid (NoL 1 k) := fun _ h => hA (HML.out.1 h.1)
              have HN3 : Hid (n2 ≤ n + 1 * 8589934591) := by have := HN2.out; show _ ≤ _; omega
              by_cases hin : p0 < S.size
              · have hge : ¬ ((p0 : Int) ≥ (S.size : Int)) := by omega
                have hlt0 : (p0 : Int) < (S.size : Int) := by omega
                obtain ⟨b0, HB0⟩ : ∃ b0, Hid (b0 = (tx (r + 1) c gl).getD p0 0) := ⟨_, rfl⟩
                obtain ⟨y0, HY0⟩ : ∃ y0 : Nat, Hid (y0 = b0.toNat) := ⟨_, rfl⟩
                have cy0 : wq.cell? ⟨G, p0, none⟩ = some (.int .u8 (y0 : Int)) := by
                  have h := HQl2.out.cell (j := p0) (by rw [HLl.out]; exact hin)
                  rw [HY0.out, HB0.out]; exact h
                have hy0n : ¬ (y0 : Int) = 35 := fun e => by
                  have hb0 : b0 = 35 := UInt8.toNat_inj.1 (by rw [← HY0.out]; exact Int.ofNat.inj e)
                  have hl : p0 < (tx (r + 1) c gl).length := by rw [HLl.out]; exact hin
                  have h2 : (tx (r + 1) c gl)[p0]? = some 35 := by
                    rw [← hb0, HB0.out, List.getD_eq_getElem?_getD, List.getElem?_eq_getElem hl, Option.getD_some]
                  by_cases hjc : j + 1 < c
                  · have e2 : p0 = i * (c + 1) + (j + 1) := by have := HP01.out.1; have := HPij.out; omega
                    rw [e2, tx_get r c gl i (j + 1) hi hjc] at h2
                    exact hA ⟨hjc, Option.some.inj h2⟩
                  · have e2 : p0 = i * (c + 1) + c := by have := HP01.out.1; have := HPij.out; omega
                    have hir : i < r := by
                      rcases Nat.lt_or_ge i r with q | q
                      · exact q
                      · have hirr : i = r := by omega
                        have hz := HSz.out
                        rw [Nat.succ_mul, ← hirr] at hz
                        omega
                    rw [e2, tx_end r c gl i hir] at h2
                    exact absurd (Option.some.inj h2) (by decide)
                have hy0b : ((y0 : Int) == 35) = false := beq_false_of_ne hy0n
                go_wp2_with fail
                go_roundw
                case rel => exact ⟨1, n2, by omega, by go_num, rfl, HK2, HN3, HNo1, HKp⟩
                case measure => simp [intOf]
              · have hge : (p0 : Int) ≥ (S.size : Int) := by omega
                go_wp2_with fail
                go_roundw
                case rel => exact ⟨1, n2, by omega, by go_num, rfl, HK2, HN3, HNo1, HKp⟩
                case measure => simp [intOf]
          · -- below
            obtain ⟨hmS, hcS⟩ := HIt.out.stand HFst.out.1 (HNo.out rfl)
            obtain ⟨hA1, hop⟩ := (may_below HIt.out.msk hr hc hi hj HFst.out.2).1 hmS
            have HPT : Hid (p1 = (i + 1) * (c + 1) + (j)) := by show _ = _; have := HP01.out.2; have := HPij.out; have := HWd.out; rw [Nat.succ_mul]; omega
            have htl : p1 < S.size := by rw [HPT.out]; exact HPos.out _ _ (by omega) (by omega)
            have htl' : (p1 : Int) < (S.size : Int) := by omega
            have hge : ¬ ((p1 : Int) ≥ (S.size : Int)) := by omega
            have HNe : Hid (p1 ≠ p) := by show _ ≠ _; have := HP01.out; have := HWd.out; omega
            have hct : wq.cell? ⟨G, p1, none⟩ = some (.int .u8 35) := by
              have h := HQl2.out.cell (j := p1) (by rw [HLl.out]; omega)
              have e : (tx (r + 1) c gl).getD p1 0 = 35 := by rw [List.getD_eq_getElem?_getD, HPT.out, tx_get r c gl (i + 1) (j) (by omega) (by omega), hop]; rfl
              rw [e] at h; exact h
            go_upto_region 15 with (at_builtin; refine append_copyQ rfl _ _ rfl rfl rfl HQl2.out HLl.out.symm HL0.out HL1.out ?_; intro Gt cpt w4 HGt HQt HB4)
            obtain ⟨l1, Hl1⟩ : ∃ l1, Hid (l1 = (tx (r + 1) c gl).set p 46) := ⟨_, rfl⟩
            obtain ⟨l2, Hl2⟩ : ∃ l2, Hid (l2 = l1.set p1 46) := ⟨_, rfl⟩
            have Hl1l : Hid (l1.length = S.size) := by show _ = _; rw [Hl1.out, List.length_set]; exact HLl.out
            have Hl2l : Hid (l2.length = S.size) := by show _ = _; rw [Hl2.out, List.length_set]; exact Hl1l.out
            have HS1 : Hid (ByQ (w4.setCell ⟨Gt, p, none⟩ (.int .u8 46)) Gt l1) := by rw [Hl1.out]; exact HQt.out.store p 46 (by rw [HLl.out]; omega)
            have HS2 : Hid (ByQ ((w4.setCell ⟨Gt, p, none⟩ (.int .u8 46)).setCell ⟨Gt, p1, none⟩ (.int .u8 46)) Gt l2) := by rw [Hl2.out]; exact HS1.out.store p1 46 (by rw [Hl1l.out]; omega)
            have g0 : w4.cell? ⟨Gt, p, none⟩ = some (.int .u8 (((tx (r + 1) c gl).getD p 0).toNat : Int)) := HQt.out.cell (by rw [HLl.out]; omega)
            have f0 : w4.frozen? ⟨Gt, p, none⟩ = false := HQt.out.frozen (by rw [HLl.out]; omega)
            have g1 : (w4.setCell ⟨Gt, p, none⟩ (.int .u8 46)).cell? ⟨Gt, p1, none⟩ = some (.int .u8 ((l1.getD p1 0).toNat : Int)) := HS1.out.cell (by rw [Hl1l.out]; omega)
            have f1 : (w4.setCell ⟨Gt, p, none⟩ (.int .u8 46)).frozen? ⟨Gt, p1, none⟩ = false := HS1.out.frozen (by rw [Hl1l.out]; omega)
            obtain ⟨W5, HW5⟩ : ∃ W5, Hid (W5 = (w4.setCell ⟨Gt, p, none⟩ (.int .u8 46)).setCell ⟨Gt, p1, none⟩ (.int .u8 46)) := ⟨_, rfl⟩
            rw [← HW5.out] at HS2
            obtain ⟨S2, HS2e⟩ : ∃ S2 : ByteArray, Hid (S2 = ⟨l2.toArray⟩) := ⟨_, rfl⟩
            obtain ⟨gn, HGn⟩ : ∃ gn, Hid (gn = up2 gl (i * 8 + j) 46 ((i + 1) * 8 + (j)) 46) := ⟨_, rfl⟩
            have HLn : Hid (l2 = tx (r + 1) c gn) := by
              have e1 := tx_set r c gl i j (by omega) (by omega) hc 46
              have e2 := tx_set r c (fun z => if z = i * 8 + j then 46 else gl z) (i + 1) (j) (by omega) (by omega) hc 46
              show _ = _
              rw [Hl2.out, Hl1.out, HPij.out, HPT.out, e1, e2, HGn.out]; rfl
            have hback : (convert 80 9 (.slice (some ⟨Gt, 0, none⟩) S.size cpt)).run Tryd.prog W5 = .ok (.string S2) W5 := by
              have h := HS2.out.back (cap := cpt)
              rw [Hl2l.out, ← HS2e.out] at h; exact h
            have HB5 : Hid (Below wq.heap.size wq W5) := by
              have hs : ∀ (W : World) (z : Nat) (v : Value), Below wq.heap.size wq W → Below wq.heap.size wq (W.setCell ⟨Gt, z, none⟩ v) := fun W z v hb =>
                hb.trans ⟨rfl, rfl, rfl, by simp, fun i hi => heap_setCell_other _ _ _ _ (show i ≠ Gt by have := HGt.out; omega)⟩
              rw [HW5.out]; exact hs _ _ _ (hs _ _ _ HB4.out)
            have HKs5 : Hid (KnowS r c W5 b n2) := HK2.out.same (HB5.out.block b HK2.out.lt)
            obtain ⟨kn, HKn⟩ : ∃ kn, Hid (kn = staC k) := ⟨_, rfl⟩
            have HKe : Hid (kn = addC k (i * 8 + j) ((i + 1) * 8 + (j))) := by show _ = _; rw [HKn.out]; unfold staC; rw [HFst.out.2]; rw [show (i + 1) * 8 + j = i * 8 + j + 8 by omega]
            have HMn : Hid (MskP (r + 1) c gn kn) := by rw [HGn.out, HKe.out]; exact msk_put HIt.out.msk (by omega) (by omega) (by omega)
            have HLetn : Hid (∀ i, i < r + 1 → ∀ j, j < c → gn (i * 8 + j) ∈ bdL) := by rw [HGn.out]; exact up_letters HIt.out.lets
            obtain ⟨z, HZ⟩ : ∃ z, Hid (z = cntC kn) := ⟨_, rfl⟩
            have HTc := hid_w (HTi.out gn kn HMn.out HLetn.out W5 n2 HKs5 (by have := HN2.out; have := HNb.out; have := free_le k; have := free_pos HFst.out.1; omega) S2 (by rw [HS2e.out, HLn.out]) z HZ.out)
            have hz0 : 0 < z := by rw [HZ.out, HKn.out]; exact hcS
            have hzp : (z : Int) > 0 := by omega
            go_upto_region 16 with fail
            rw [← HW5.out]
            go_upto_region 18 with (go_at_call 16; with_reducible (refine HTc.out.mono ?_); rintro e w6 ⟨rfl, HK6, HKp6⟩)
            have HGtN : Hid (Gt ≠ GO ∧ V.heap.size ≤ Gt ∧ Gt ≠ b) := by
              have h1 := HGt.out
              have h2 := HQo2.out.lt
              have h3 := HK2.out.lt
              have h4 := HKp.out.2.1
              have h5 := HBa.out.size
              have h6 := HQl.out.lt
              have h7 := HGs.out.2
              refine ⟨?_, ?_, ?_⟩ <;> omega
            have hGOb : GO ≠ b := by have := HGO2.out; have := HBl.out; omega
            have HQo6 : Hid (ByQ w6 GO (tx (r + 1) c f)) := HQo2.out.same ((HKp6.out.2.2 GO (Nat.lt_of_lt_of_le HQo2.out.lt HB5.out.size) hGOb).trans (HB5.out.block GO HQo2.out.lt))
            have HQt6 : Hid (ByQ w6 Gt (tx (r + 1) c gn)) := by
              have h := HS2.out.same (HKp6.out.2.2 Gt HS2.out.lt HGtN.out.2.2)
              rw [HLn.out] at h; exact h
            have HB6 : Hid (Below v9.heap.size v9 w6) := kpt_below (HBv.out.trans (HB5.out.mono HBv.out.size)) (Nat.le_refl _) (by rw [HBb.out]; exact Nat.le_refl _) HKp6.out
            obtain ⟨o1, Ho1⟩ : ∃ o1, Hid (o1 = (tx (r + 1) c f).set p 117) := ⟨_, rfl⟩
            obtain ⟨o2, Ho2⟩ : ∃ o2, Hid (o2 = o1.set p1 100) := ⟨_, rfl⟩
            have HLo : Hid ((tx (r + 1) c f).length = S.size) := HLn0.out f
            have Ho1l : Hid (o1.length = S.size) := by show _ = _; rw [Ho1.out, List.length_set]; exact HLo.out
            have HO1 : Hid (ByQ (w6.setCell ⟨GO, p, none⟩ (.int .u8 117)) GO o1) := by rw [Ho1.out]; exact HQo6.out.store p 117 (by rw [HLo.out]; omega)
            have HO2 : Hid (ByQ ((w6.setCell ⟨GO, p, none⟩ (.int .u8 117)).setCell ⟨GO, p1, none⟩ (.int .u8 100)) GO o2) := by rw [Ho2.out]; exact HO1.out.store p1 100 (by rw [Ho1l.out]; omega)
            have k0 : w6.drew.cell? ⟨GO, p, none⟩ = some (.int .u8 (((tx (r + 1) c f).getD p 0).toNat : Int)) := HQo6.out.cell (w := w6) (by rw [HLo.out]; omega)
            have e0 : w6.drew.frozen? ⟨GO, p, none⟩ = false := HQo6.out.frozen (w := w6) (by rw [HLo.out]; omega)
            have k1 : (w6.setCell ⟨GO, p, none⟩ (.int .u8 117)).drew.cell? ⟨GO, p1, none⟩ = some (.int .u8 ((o1.getD p1 0).toNat : Int)) := HO1.out.cell (by rw [Ho1l.out]; omega)
            have e1 : (w6.setCell ⟨GO, p, none⟩ (.int .u8 117)).drew.frozen? ⟨GO, p1, none⟩ = false := HO1.out.frozen (by rw [Ho1l.out]; omega)
            obtain ⟨W7, HW7⟩ : ∃ W7, Hid (W7 = ((w6.setCell ⟨GO, p, none⟩ (.int .u8 117)).setCell ⟨GO, p1, none⟩ (.int .u8 100)).drew) := ⟨_, rfl⟩
            have HB67 : Hid (Below v9.heap.size v9 W7) := by
              have hs : ∀ (W : World) (z : Nat) (v : Value), Below v9.heap.size v9 W → Below v9.heap.size v9 (W.setCell ⟨GO, z, none⟩ v) := fun W z v hb =>
                hb.trans ⟨rfl, rfl, rfl, by simp, fun i hi => heap_setCell_other _ _ _ _ (show i ≠ GO by have := HGO2.out; have := HBV.out.size; omega)⟩
              rw [HW7.out]; exact (hs _ _ _ (hs _ _ _ HB6.out)).drew
            have hoth : ∀ q, q ≠ GO → W7.heap[q]? = w6.heap[q]? := fun q hq => by
              rw [HW7.out]
              exact (heap_setCell_other _ ⟨GO, p1, none⟩ q _ hq).trans (heap_setCell_other _ ⟨GO, p, none⟩ q _ hq)
            have HQt7 : Hid (ByQ W7 Gt (tx (r + 1) c gn)) := HQt6.out.same (hoth Gt HGtN.out.1)
            have HK7 : Hid (KnowS r c W7 b (n2 + 8589934591)) := HK6.out.same (hoth b hGOb.symm)
            obtain ⟨fn, HFn⟩ : ∃ fn, Hid (fn = up2 f (i * 8 + j) 117 ((i + 1) * 8 + (j)) 100) := ⟨_, rfl⟩
            have HOn : Hid (o2 = tx (r + 1) c fn) := by
              have q1 := tx_set r c f i j (by omega) (by omega) hc 117
              have q2 := tx_set r c (fun z => if z = i * 8 + j then 117 else f z) (i + 1) (j) (by omega) (by omega) hc 100
              show _ = _
              rw [Ho2.out, Ho1.out, HPij.out, HPT.out, q1, q2, HFn.out]; rfl
            have HQo7 : Hid (ByQ W7 GO (tx (r + 1) c fn)) := by rw [← HOn.out, HW7.out]; exact HO2.out
            have HItn : Hid (FtI r c x g gn fn kn (p + 1)) := by
              refine ⟨HMn.out, ?_, by rw [← HZ.out]; omega, HLetn.out, ?_⟩
              · have h := HIt.out.run.sta HFst.out.1 (HNo.out rfl) hmS
                rw [HFst.out.2] at h
                rw [show i * 8 + j + 8 = (i + 1) * 8 + j by omega] at h
                rw [HKn.out, HFn.out]; exact h
              · rw [HGn.out]
                refine HIt.out.none.up.next ?_
                rw [HPij.out, tx_get r c _ i j (by omega) (by omega)]
                have e : up2 gl (i * 8 + j) 46 ((i + 1) * 8 + (j)) 46 (i * 8 + j) = 46 := by unfold up2 upB; rw [if_neg (by omega), if_pos rfl]
                rw [e]; decide
            have HNn : Hid (n2 + 8589934591 + 8589934592 * freeC kn ≤ 8589934592 * 65) := by
              have h1 := HN2.out
              have h2 := HNb.out
              have h3 : freeC kn + 2 ≤ freeC k := by rw [HKn.out]; exact free_sta HFst.out.1 hmS
              show _ ≤ _
              omega
            have HGsn : Hid (Gt ≠ GO ∧ V.heap.size ≤ Gt) := ⟨HGtN.out.1, HGtN.out.2.1⟩
            have hc00 : ((⟨#[108, 117]⟩ : ByteArray)[0]'(by decide)).toNat = 108 := rfl
            have hc01 : ((⟨#[108, 117]⟩ : ByteArray)[1]'(by decide)).toNat = 117 := rfl
            have hc10 : ((⟨#[114, 100]⟩ : ByteArray)[0]'(by decide)).toNat = 114 := rfl
            have hc11 : ((⟨#[114, 100]⟩ : ByteArray)[1]'(by decide)).toNat = 100 := rfl
            clear hoth hGOb
            go_region
            rw [← HW7.out]
            go_wp2_with fail
            go_roundw
            case rel => exact ⟨p + 1, Gt, cpt, kn, _, gn, fn, by omega, by go_num, rfl, HQt7, HQo7, HGsn, HItn, HK7, HNn, HB67⟩
            case measure => simp [intOf]; omega
      · have gb35 : ((y : Int) == 35) = false := beq_false_of_ne g35
        have HIt2 : Hid (FtI r c x g gl f k (p + 1)) := ⟨HIt.out.msk, HIt.out.run, HIt.out.pos, HIt.out.lets, HIt.out.none.next (by
          rw [HAt.out]
          intro e
          apply g35
          rw [HY.out, Option.some.inj e]; rfl)⟩
        go_wp2_with fail
        go_roundw
        case rel => exact ⟨p + 1, G, capl, k, n, gl, f, by omega, by go_num, rfl, HQl, HQo, HGs, HIt2, HK, HNb, HB⟩
        case measure => simp [intOf]; omega
    · obtain rfl : p = S.size := by omega
      have HFe : Hid (f = F9) := by show _ = _; rw [HF9.out]; exact HIt.out.done (by rw [HSz.out]; exact Nat.le_refl _)
      have hback : (convert 80 9 (.slice (some ⟨GO, 0, none⟩) S.size cap2)).run Tryd.prog wr = .ok (.string ⟨(tx (r + 1) c F9).toArray⟩) wr := by
        have h := HQo.out.back (cap := cap2)
        rw [HLn0.out, HFe.out] at h; exact h
      go_wp2_with fail
      go_ret
      exact ⟨rfl, HB⟩

end Go.Proofs.YtcnmndbckjmliaaDoor
