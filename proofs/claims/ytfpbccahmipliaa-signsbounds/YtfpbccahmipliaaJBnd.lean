/-
  The contract of ferref.Bounds.
-/
import Derived.Test.YtfpbccahmipliaaJOfc
namespace Go.Proofs.Ytfpbccahmipliaa
open Go.RowKit

set_option maxHeartbeats 8000000 in
set_option maxRecDepth 100000 in
theorem Bounds_max (a b : Option Addr) (n m1 m2 ca cb : Nat) (A B : Nat → Nat → Int) (w : World) (hs : TableX w a (tz n n A)) (ht : TableX w b (tz n n B)) (hm1 : m1 = n) (hm2 : m2 = n) (p : Sg n A) (q : Sg n B) :
    Calls Try.prog 13 #[.slice a m1 ca, .slice b m2 cb, .bool true] w fun e w' => ∃ v, e = .returned v ∧ Hid (Tbl w' w.heap.size v (tz n n (mee A B))) ∧ Hid (Below w.heap.size w w') := by
  have HT : Hid (TableX w b (tz n n B)) := ht
  have Hq : Hid (Sg n B) := q
  have HKc : Hid (Kc n fun i j => max (cor A i j) (cor B i j)) := p.kc.max q.kc
  have n1 := p.n1; have n7 := p.n7
  subst hm1
  subst hm2
  have HCa := Corners_at a m2 m2 ca A w hs rfl p
  clear hs ht p q
  obtain ⟨N, HN⟩ : ∃ N, Hid (N = m2 + 1) := ⟨_, rfl⟩
  have hN8 : N ≤ 8 := by rw [HN.out]; omega
  have hN1 : 1 ≤ N := by rw [HN.out]; omega
  rw [← HN.out] at HCa
  go_enter Try.func13, Try.ntmps13
  go_wp2_with fail
  refine HCa.mono ?_
  rintro e w1 ⟨v1, rfl, HT1, HB1⟩
  clear HCa
  obtain ⟨ga, ka, gs, cs, rfl, HR1⟩ := HT1.out.rey hN1 hN1
  have HCb := Corners_at b m2 m2 cb B w1 (HT.out.below HB1.out) rfl Hq.out
  rw [← HN.out] at HCb
  go_wp2_with fail
  refine HCb.mono ?_
  rintro e w2 ⟨v2, rfl, HT2, HB2⟩
  clear HCb
  obtain ⟨gb, kb, gs2, cs2, rfl, hR2⟩ := HT2.out.rey hN1 hN1
  obtain ⟨R, HRr⟩ : ∃ R, Hid (R = w.heap.size) := ⟨_, rfl⟩
  obtain ⟨R2, HRr2⟩ : ∃ R, Hid (R = w1.heap.size) := ⟨_, rfl⟩
  have HGl : Hid (∀ i, i < N → R ≤ gs i ∧ gs i < R2) := fun i hi => by
    have := (HR1.box hi (j := 0) (by omega)).2.2
    rw [HRr.out, HRr2.out]; exact this
  have HRa : Hid (Rey w2 R ga ka N N gs cs (pm max (cor A) (cor B) 0 0)) := by
    rw [HRr.out]
    exact (HR1.below HB2.out).congr (fun i _ j _ => by unfold pm; rw [if_neg (by omega)])
  have HR2 : Hid (Rey w2 R2 gb kb N N gs2 cs2 (cor B)) := by rw [HRr2.out]; exact hR2
  have HBw : Hid (Below R w w2) := by rw [HRr.out]; exact HB1.out.trans (HB2.out.mono HB1.out.size)
  clear HR1 HB1 HB2 HT1 HT2 hR2
  go_wp2
  go_loopw [9] (fun q wr => ∃ i : Nat, i ≤ N ∧ q = .int .i64 i ∧ Hid (Rey wr R ga ka N N gs cs (pm max (cor A) (cor B) i 0)) ∧ Hid (Rey wr R2 gb kb N N gs2 cs2 (cor B)) ∧ Hid (Below R w wr)) (fun q _ => N - (intOf q).toNat)
  case atStart => exact ⟨0, Nat.zero_le _, rfl, HRa, HR2, HBw⟩
  case round =>
    clear HRa HR2 HBw
    obtain ⟨i, hi, rfl, HR, HO, HB⟩ := hrel
    by_cases hlt : i < N
    · have hlt' : (i : Int) < (N : Int) := by omega
      obtain ⟨g1, Hg1⟩ : ∃ g, Hid (g = gs i) := ⟨_, rfl⟩
      obtain ⟨g2, Hg2⟩ : ∃ g, Hid (g = gs2 i) := ⟨_, rfl⟩
      obtain ⟨k1, Hk1⟩ : ∃ g, Hid (g = cs i) := ⟨_, rfl⟩
      obtain ⟨k2, Hk2⟩ : ∃ g, Hid (g = cs2 i) := ⟨_, rfl⟩
      have HG : Hid (R ≤ g1 ∧ g1 < R2) := by rw [Hg1.out]; exact HGl.out i hlt
      go_wp2
      go_loopw [10] (fun q wr => ∃ j : Nat, j ≤ N ∧ q = .int .i64 j ∧ Hid (Rey wr R ga ka N N gs cs (pm max (cor A) (cor B) i j)) ∧ Hid (Rey wr R2 gb kb N N gs2 cs2 (cor B)) ∧ Hid (Below R w wr)) (fun q _ => N - (intOf q).toNat)
      case atStart => exact ⟨0, Nat.zero_le _, rfl, HR, HO, HB⟩
      case round =>
        clear HR HO HB
        obtain ⟨j, hj, rfl, HR, HO, HB⟩ := hrel
        by_cases hjl : j < N
        · have hjl' : (j : Int) < (N : Int) := by omega
          have c1 := HR.out.head hlt
          have c2 := HO.out.head hlt
          obtain ⟨cA, fA, -, -⟩ := HR.out.box hlt hjl
          obtain ⟨cB, -, -, -⟩ := HO.out.box hlt hjl
          rw [show pm max (cor A) (cor B) i j i j = cor A i j from if_neg (by omega)] at cA
          obtain ⟨x, HX⟩ : ∃ z, Hid (z = cor A i j) := ⟨_, rfl⟩
          obtain ⟨y, HY⟩ : ∃ z, Hid (z = cor B i j) := ⟨_, rfl⟩
          rw [← HX.out] at cA
          rw [← HY.out] at cB
          rw [← Hg1.out, ← Hk1.out] at c1
          rw [← Hg1.out] at cA fA
          rw [← Hg2.out, ← Hk2.out] at c2
          rw [← Hg2.out] at cB
          have HNx : Hid (max (cor A i j) (cor B i j) = if x < y then y else x) := by
            show _ = _
            rw [← HX.out, ← HY.out]
            split <;> omega
          by_cases hxy : x < y
          · have HR3 : Hid (∀ W : World, W.heap = wr.heap → Rey (W.setCell ⟨g1, j, none⟩ (.int .i64 y)) R ga ka N N gs cs (pm max (cor A) (cor B) i (j + 1))) := fun W hW => by
              rw [Hg1.out]
              refine (HR.out.set hlt y hW).congr (fun a _ b _ => ?_)
              unfold updz
              by_cases e : a = i ∧ b = j
              · rw [if_pos e, e.1, e.2]
                unfold pm
                rw [if_pos (Or.inr ⟨rfl, by omega⟩), HNx.out, if_pos hxy]
              · rw [if_neg e]
                unfold pm
                have : (a < i ∨ (a = i ∧ b < j)) ↔ (a < i ∨ (a = i ∧ b < j + 1)) := by omega
                by_cases h : a < i ∨ (a = i ∧ b < j)
                · rw [if_pos h, if_pos (this.1 h)]
                · rw [if_neg h, if_neg (fun q => h (this.2 q))]
            have HO3 : Hid (∀ W : World, W.heap = wr.heap → Rey (W.setCell ⟨g1, j, none⟩ (.int .i64 y)) R2 gb kb N N gs2 cs2 (cor B)) := fun W hW => (HO.out.same (fun k _ _ => by rw [hW])).other HG.out.2 _
            have hdec : (decide (x < y)) = true := by simp; omega
            go_wp2_with fail
            go_quiet (fail)
            go_wp2_with fail
            go_region
            go_wp2
            go_roundw
            case rel => exact ⟨j + 1, by omega, by go_num, (HR3.out wr rfl).same (fun _ _ _ => rfl), (HO3.out wr rfl).same (fun _ _ _ => rfl), by first | exact (HB.out.setCell (p := ⟨g1, j, none⟩) HG.out.1 _).drew | exact below_drewN (HB.out.setCell (p := ⟨g1, j, none⟩) HG.out.1 _) _⟩
            case measure => simp [intOf]; omega
          · have HR3 : Hid (Rey wr R ga ka N N gs cs (pm max (cor A) (cor B) i (j + 1))) := HR.out.congr (fun a _ b _ => by
              unfold pm
              by_cases e : a = i ∧ b = j
              · rw [if_neg (by omega), if_pos (by omega), e.1, e.2, HNx.out, if_neg hxy, HX.out]
              · have : (a < i ∨ (a = i ∧ b < j)) ↔ (a < i ∨ (a = i ∧ b < j + 1)) := by omega
                by_cases h : a < i ∨ (a = i ∧ b < j)
                · rw [if_pos h, if_pos (this.1 h)]
                · rw [if_neg h, if_neg (fun q => h (this.2 q))])
            have hdec : (decide (x < y)) = false := by simp; omega
            go_wp2_with fail
            go_quiet (fail)
            go_wp2
            go_roundw
            case rel => exact ⟨j + 1, by omega, by go_num, HR3.out.same (fun _ _ _ => rfl), HO.out.same (fun _ _ _ => rfl), by first | exact HB.out.drew | exact below_drewN HB.out _⟩
            case measure => simp [intOf]; omega
        · obtain rfl : j = N := by omega
          have HR4 : Hid (Rey wr R ga ka j j gs cs (pm max (cor A) (cor B) (i + 1) 0)) := HR.out.congr (fun a _ b hb => by
            unfold pm
            by_cases h : a < i ∨ (a = i ∧ b < j)
            · rw [if_pos h, if_pos (by omega)]
            · rw [if_neg h, if_neg (by omega)])
          go_wp2
          go_roundw
          case rel => exact ⟨i + 1, by omega, by go_num, HR4, HO, HB⟩
          case measure => simp [intOf]; omega
    · obtain rfl : i = N := by omega
      have HR4 : Hid (Rey wr R ga ka i i gs cs fun a b => max (cor A a b) (cor B a b)) := HR.out.congr (fun a ha b _ => by
        unfold pm
        rw [if_pos (Or.inl ha)])
      have HTc : Hid (Table wr (some ⟨ga, 0, none⟩) (tz i i fun a b => max (cor A a b) (cor B a b))) := HR4.out.table (by omega) (fun a ha b hb => by
        rw [HN.out] at ha hb
        have h9 := HKc.out.bound7 (i := a) (j := b) (by omega) (by omega)
        exact ⟨Int.le_trans (by decide) h9.1, Int.le_trans h9.2 (by decide)⟩)
      go_wp2_with (go_at_call 18; refine (OfCorners_ok _ m2 i i _ _ _ HTc.out rfl HN.out n1 n7 (fun i hi j hj => HKc.out.bound7 hi hj)).mono ?_; rintro e w3 ⟨v3, rfl, HT3, HB3⟩)
      go_ret
      refine ⟨_, rfl, HT3.out.mono ?_, ?_⟩
      · exact HB.out.size
      · rw [← HRr.out]; exact HB.out.trans (HB3.out.mono (by rw [HRr.out]; exact HB.out.size))

set_option maxHeartbeats 8000000 in
set_option maxRecDepth 100000 in
theorem Bounds_min (a b : Option Addr) (n m1 m2 ca cb : Nat) (A B : Nat → Nat → Int) (w : World) (hs : TableX w a (tz n n A)) (ht : TableX w b (tz n n B)) (hm1 : m1 = n) (hm2 : m2 = n) (p : Sg n A) (q : Sg n B) :
    Calls Try.prog 13 #[.slice a m1 ca, .slice b m2 cb, .bool false] w fun e w' => ∃ v, e = .returned v ∧ Hid (Tbl w' w.heap.size v (tz n n (joi A B))) ∧ Hid (Below w.heap.size w w') := by
  have HT : Hid (TableX w b (tz n n B)) := ht
  have Hq : Hid (Sg n B) := q
  have HKc : Hid (Kc n fun i j => min (cor A i j) (cor B i j)) := p.kc.min q.kc
  have n1 := p.n1; have n7 := p.n7
  subst hm1
  subst hm2
  have HCa := Corners_at a m2 m2 ca A w hs rfl p
  clear hs ht p q
  obtain ⟨N, HN⟩ : ∃ N, Hid (N = m2 + 1) := ⟨_, rfl⟩
  have hN8 : N ≤ 8 := by rw [HN.out]; omega
  have hN1 : 1 ≤ N := by rw [HN.out]; omega
  rw [← HN.out] at HCa
  go_enter Try.func13, Try.ntmps13
  go_wp2_with fail
  refine HCa.mono ?_
  rintro e w1 ⟨v1, rfl, HT1, HB1⟩
  clear HCa
  obtain ⟨ga, ka, gs, cs, rfl, HR1⟩ := HT1.out.rey hN1 hN1
  have HCb := Corners_at b m2 m2 cb B w1 (HT.out.below HB1.out) rfl Hq.out
  rw [← HN.out] at HCb
  go_wp2_with fail
  refine HCb.mono ?_
  rintro e w2 ⟨v2, rfl, HT2, HB2⟩
  clear HCb
  obtain ⟨gb, kb, gs2, cs2, rfl, hR2⟩ := HT2.out.rey hN1 hN1
  obtain ⟨R, HRr⟩ : ∃ R, Hid (R = w.heap.size) := ⟨_, rfl⟩
  obtain ⟨R2, HRr2⟩ : ∃ R, Hid (R = w1.heap.size) := ⟨_, rfl⟩
  have HGl : Hid (∀ i, i < N → R ≤ gs i ∧ gs i < R2) := fun i hi => by
    have := (HR1.box hi (j := 0) (by omega)).2.2
    rw [HRr.out, HRr2.out]; exact this
  have HRa : Hid (Rey w2 R ga ka N N gs cs (pm min (cor A) (cor B) 0 0)) := by
    rw [HRr.out]
    exact (HR1.below HB2.out).congr (fun i _ j _ => by unfold pm; rw [if_neg (by omega)])
  have HR2 : Hid (Rey w2 R2 gb kb N N gs2 cs2 (cor B)) := by rw [HRr2.out]; exact hR2
  have HBw : Hid (Below R w w2) := by rw [HRr.out]; exact HB1.out.trans (HB2.out.mono HB1.out.size)
  clear HR1 HB1 HB2 HT1 HT2 hR2
  go_wp2
  go_loopw [9] (fun q wr => ∃ i : Nat, i ≤ N ∧ q = .int .i64 i ∧ Hid (Rey wr R ga ka N N gs cs (pm min (cor A) (cor B) i 0)) ∧ Hid (Rey wr R2 gb kb N N gs2 cs2 (cor B)) ∧ Hid (Below R w wr)) (fun q _ => N - (intOf q).toNat)
  case atStart => exact ⟨0, Nat.zero_le _, rfl, HRa, HR2, HBw⟩
  case round =>
    clear HRa HR2 HBw
    obtain ⟨i, hi, rfl, HR, HO, HB⟩ := hrel
    by_cases hlt : i < N
    · have hlt' : (i : Int) < (N : Int) := by omega
      obtain ⟨g1, Hg1⟩ : ∃ g, Hid (g = gs i) := ⟨_, rfl⟩
      obtain ⟨g2, Hg2⟩ : ∃ g, Hid (g = gs2 i) := ⟨_, rfl⟩
      obtain ⟨k1, Hk1⟩ : ∃ g, Hid (g = cs i) := ⟨_, rfl⟩
      obtain ⟨k2, Hk2⟩ : ∃ g, Hid (g = cs2 i) := ⟨_, rfl⟩
      have HG : Hid (R ≤ g1 ∧ g1 < R2) := by rw [Hg1.out]; exact HGl.out i hlt
      go_wp2
      go_loopw [10] (fun q wr => ∃ j : Nat, j ≤ N ∧ q = .int .i64 j ∧ Hid (Rey wr R ga ka N N gs cs (pm min (cor A) (cor B) i j)) ∧ Hid (Rey wr R2 gb kb N N gs2 cs2 (cor B)) ∧ Hid (Below R w wr)) (fun q _ => N - (intOf q).toNat)
      case atStart => exact ⟨0, Nat.zero_le _, rfl, HR, HO, HB⟩
      case round =>
        clear HR HO HB
        obtain ⟨j, hj, rfl, HR, HO, HB⟩ := hrel
        by_cases hjl : j < N
        · have hjl' : (j : Int) < (N : Int) := by omega
          have c1 := HR.out.head hlt
          have c2 := HO.out.head hlt
          obtain ⟨cA, fA, -, -⟩ := HR.out.box hlt hjl
          obtain ⟨cB, -, -, -⟩ := HO.out.box hlt hjl
          rw [show pm min (cor A) (cor B) i j i j = cor A i j from if_neg (by omega)] at cA
          obtain ⟨x, HX⟩ : ∃ z, Hid (z = cor A i j) := ⟨_, rfl⟩
          obtain ⟨y, HY⟩ : ∃ z, Hid (z = cor B i j) := ⟨_, rfl⟩
          rw [← HX.out] at cA
          rw [← HY.out] at cB
          rw [← Hg1.out, ← Hk1.out] at c1
          rw [← Hg1.out] at cA fA
          rw [← Hg2.out, ← Hk2.out] at c2
          rw [← Hg2.out] at cB
          have HNx : Hid (min (cor A i j) (cor B i j) = if ¬ x < y then y else x) := by
            show _ = _
            rw [← HX.out, ← HY.out]
            split <;> omega
          by_cases hxy : ¬ x < y
          · have HR3 : Hid (∀ W : World, W.heap = wr.heap → Rey (W.setCell ⟨g1, j, none⟩ (.int .i64 y)) R ga ka N N gs cs (pm min (cor A) (cor B) i (j + 1))) := fun W hW => by
              rw [Hg1.out]
              refine (HR.out.set hlt y hW).congr (fun a _ b _ => ?_)
              unfold updz
              by_cases e : a = i ∧ b = j
              · rw [if_pos e, e.1, e.2]
                unfold pm
                rw [if_pos (Or.inr ⟨rfl, by omega⟩), HNx.out, if_pos hxy]
              · rw [if_neg e]
                unfold pm
                have : (a < i ∨ (a = i ∧ b < j)) ↔ (a < i ∨ (a = i ∧ b < j + 1)) := by omega
                by_cases h : a < i ∨ (a = i ∧ b < j)
                · rw [if_pos h, if_pos (this.1 h)]
                · rw [if_neg h, if_neg (fun q => h (this.2 q))]
            have HO3 : Hid (∀ W : World, W.heap = wr.heap → Rey (W.setCell ⟨g1, j, none⟩ (.int .i64 y)) R2 gb kb N N gs2 cs2 (cor B)) := fun W hW => (HO.out.same (fun k _ _ => by rw [hW])).other HG.out.2 _
            have hdec : (decide (x < y)) = false := by simp; omega
            go_wp2_with fail
            go_quiet (fail)
            go_wp2_with fail
            go_region
            go_wp2
            go_roundw
            case rel => exact ⟨j + 1, by omega, by go_num, (HR3.out wr rfl).same (fun _ _ _ => rfl), (HO3.out wr rfl).same (fun _ _ _ => rfl), by first | exact (HB.out.setCell (p := ⟨g1, j, none⟩) HG.out.1 _).drew | exact below_drewN (HB.out.setCell (p := ⟨g1, j, none⟩) HG.out.1 _) _⟩
            case measure => simp [intOf]; omega
          · have HR3 : Hid (Rey wr R ga ka N N gs cs (pm min (cor A) (cor B) i (j + 1))) := HR.out.congr (fun a _ b _ => by
              unfold pm
              by_cases e : a = i ∧ b = j
              · rw [if_neg (by omega), if_pos (by omega), e.1, e.2, HNx.out, if_neg hxy, HX.out]
              · have : (a < i ∨ (a = i ∧ b < j)) ↔ (a < i ∨ (a = i ∧ b < j + 1)) := by omega
                by_cases h : a < i ∨ (a = i ∧ b < j)
                · rw [if_pos h, if_pos (this.1 h)]
                · rw [if_neg h, if_neg (fun q => h (this.2 q))])
            have hdec : (decide (x < y)) = true := by simp; omega
            go_wp2_with fail
            go_quiet (fail)
            go_wp2
            go_roundw
            case rel => exact ⟨j + 1, by omega, by go_num, HR3.out.same (fun _ _ _ => rfl), HO.out.same (fun _ _ _ => rfl), by first | exact HB.out.drew | exact below_drewN HB.out _⟩
            case measure => simp [intOf]; omega
        · obtain rfl : j = N := by omega
          have HR4 : Hid (Rey wr R ga ka j j gs cs (pm min (cor A) (cor B) (i + 1) 0)) := HR.out.congr (fun a _ b hb => by
            unfold pm
            by_cases h : a < i ∨ (a = i ∧ b < j)
            · rw [if_pos h, if_pos (by omega)]
            · rw [if_neg h, if_neg (by omega)])
          go_wp2
          go_roundw
          case rel => exact ⟨i + 1, by omega, by go_num, HR4, HO, HB⟩
          case measure => simp [intOf]; omega
    · obtain rfl : i = N := by omega
      have HR4 : Hid (Rey wr R ga ka i i gs cs fun a b => min (cor A a b) (cor B a b)) := HR.out.congr (fun a ha b _ => by
        unfold pm
        rw [if_pos (Or.inl ha)])
      have HTc : Hid (Table wr (some ⟨ga, 0, none⟩) (tz i i fun a b => min (cor A a b) (cor B a b))) := HR4.out.table (by omega) (fun a ha b hb => by
        rw [HN.out] at ha hb
        have h9 := HKc.out.bound7 (i := a) (j := b) (by omega) (by omega)
        exact ⟨Int.le_trans (by decide) h9.1, Int.le_trans h9.2 (by decide)⟩)
      go_wp2_with (go_at_call 18; refine (OfCorners_ok _ m2 i i _ _ _ HTc.out rfl HN.out n1 n7 (fun i hi j hj => HKc.out.bound7 hi hj)).mono ?_; rintro e w3 ⟨v3, rfl, HT3, HB3⟩)
      go_ret
      refine ⟨_, rfl, HT3.out.mono ?_, ?_⟩
      · exact HB.out.size
      · rw [← HRr.out]; exact HB.out.trans (HB3.out.mono (by rw [HRr.out]; exact HB.out.size))

end Go.Proofs.Ytfpbccahmipliaa
