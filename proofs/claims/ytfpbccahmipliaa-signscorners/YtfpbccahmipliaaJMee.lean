/-
  The contracts of signs.greater, lesser, combined.
-/
import Derived.Test.YtfpbccahmipliaaJWic
namespace Go.Proofs.Ytfpbccahmipliaa
open Go.RowKit

theorem Rez.table {w : World} {lo g r c : Nat} {gs : Nat → Nat} {P : Nat → Nat → Int} (h : Rez w lo g r c gs P) (hc : c ≤ 1000) (hP : ∀ i, i < r → ∀ j, j < c → -9223372036854775808 ≤ P i j ∧ P i j ≤ 9223372036854775807) : Table w (some ⟨g, 0, none⟩) (tz r c P) := by
  obtain ⟨a, n, cap, hv, hT, hn⟩ := h.tbl.table (tz_wf hc hP)
  simp only [Value.slice.injEq] at hv
  rw [hv.1]
  exact hT
theorem Rez.other {w : World} {lo g r c : Nat} {gs : Nat → Nat} {P : Nat → Nat → Int} (h : Rez w lo g r c gs P) {b j : Nat} (hb : b < lo) (v : Value) : Rez (w.setCell ⟨b, j, none⟩ v) lo g r c gs P := h.same (fun k hk _ => heap_setCell_other _ _ _ _ (by show k ≠ b; omega))
theorem Rez.drew {w : World} {lo g r c : Nat} {gs : Nat → Nat} {P : Nat → Nat → Int} (h : Rez w lo g r c gs P) : Rez w.drew lo g r c gs P := h.same (fun _ _ _ => rfl)

set_option maxHeartbeats 1000000 in
theorem greater_at (x y z : Int) (w : World) (hz : z = max x y) :
    Calls Try.prog 25 #[.int .i64 x, .int .i64 y] w fun e w' => e = .returned (.int .i64 z) ∧ w' = w := by
  by_cases h : x < y
  · obtain rfl : z = y := by omega
    clear hz
    go_enter Try.func25, Try.ntmps25
    go_wp2 <;> (go_ret; exact ⟨ret_int (by omega), rfl⟩)
  · obtain rfl : z = x := by omega
    clear hz
    go_enter Try.func25, Try.ntmps25
    go_wp2 <;> (go_ret; exact ⟨ret_int (by omega), rfl⟩)
set_option maxHeartbeats 1000000 in
theorem lesser_at (x y z : Int) (w : World) (hz : z = min x y) :
    Calls Try.prog 26 #[.int .i64 x, .int .i64 y] w fun e w' => e = .returned (.int .i64 z) ∧ w' = w := by
  by_cases h : y < x
  · obtain rfl : z = y := by omega
    clear hz
    go_enter Try.func26, Try.ntmps26
    go_wp2 <;> (go_ret; exact ⟨ret_int (by omega), rfl⟩)
  · obtain rfl : z = x := by omega
    clear hz
    go_enter Try.func26, Try.ntmps26
    go_wp2 <;> (go_ret; exact ⟨ret_int (by omega), rfl⟩)

/-- chosen as far as row i, column j -/
def pm (f : Int → Int → Int) (A B : Nat → Nat → Int) (i j a b : Nat) : Int := if a < i ∨ (a = i ∧ b < j) then f (A a b) (B a b) else A a b

set_option maxHeartbeats 8000000 in
set_option maxRecDepth 100000 in
theorem combined_max (a b : Option Addr) (n m1 m2 ca cb : Nat) (A B : Nat → Nat → Int) (w : World) (hs : Table w a (tz n n A)) (ht : Table w b (tz n n B)) (hm1 : m1 = n) (hm2 : m2 = n) (p : Sg n A) (q : Sg n B) :
    Calls Try.prog 24 #[.slice a m1 ca, .slice b m2 cb, .func (.func 25) #[] #[]] w fun e w' => ∃ g gs, e = .returned (.slice (some ⟨g, 0, none⟩) n n) ∧ w.heap.size ≤ g ∧ Hid (Rez w' g g n n gs (mee A B)) ∧ Hid (Below w.heap.size w w') := by
  have HS : Hid (Table w a (tz n n A)) := hs
  have HT : Hid (Table w b (tz n n B)) := ht
  have Hp : Hid (Sg n A) := p
  have Hq : Hid (Sg n B) := q
  have HKa : Hid (Kc n (cor A)) := p.kc
  have HKb : Hid (Kc n (cor B)) := q.kc
  have HKc : Hid (Kc n fun i j => max (cor A i j) (cor B i j)) := p.kc.max q.kc
  have n1 := p.n1; have n7 := p.n7
  subst hm1
  subst hm2
  clear hs ht p q
  obtain ⟨N, HN⟩ : ∃ N, Hid (N = m2 + 1) := ⟨_, rfl⟩
  have hN8 : N ≤ 8 := by rw [HN.out]; omega
  have HCa := corner_at a m2 m2 ca A w HS.out rfl Hp.out
  rw [← HN.out] at HCa
  go_enter Try.func24, Try.ntmps24
  go_wp2_with fail
  refine HCa.mono ?_
  rintro e w1 ⟨gs, rfl, HR1, HB1⟩
  clear HCa
  have HCb := corner_at b m2 m2 cb B w1 (HT.out.below HB1.out) rfl Hq.out
  rw [← HN.out] at HCb
  go_wp2_with fail
  refine HCb.mono ?_
  rintro e w2 ⟨gs2, rfl, HR2, HB2⟩
  clear HCb
  obtain ⟨R, HRr⟩ : ∃ R, Hid (R = w.heap.size) := ⟨_, rfl⟩
  obtain ⟨R2, HRr2⟩ : ∃ R, Hid (R = w1.heap.size) := ⟨_, rfl⟩
  have HGl : Hid (∀ i, i < N → R ≤ gs i ∧ gs i < R2) := fun i hi => by
    have := (HR1.out.box hi (j := 0) (by rw [HN.out]; omega)).2.2
    rw [HRr.out, HRr2.out]; exact this
  have HRR : Hid (R ≤ R2) := by show _ ≤ _; rw [HRr.out, HRr2.out]; exact HB1.out.size
  have HRa : Hid (Rez w2 R R N N gs (pm max (cor A) (cor B) 0 0)) := by
    rw [HRr.out]
    exact (HR1.out.below HB2.out).congr (fun i _ j _ => by unfold pm; rw [if_neg (by omega)])
  rw [← HRr2.out] at HR2 ⊢
  have HBw : Hid (Below R w w2) := by rw [HRr.out]; exact HB1.out.trans (HB2.out.mono HB1.out.size)
  rw [← HRr.out] at ⊢
  clear HR1 HB1 HB2
  go_wp2
  go_loopw [18] (fun q wr => ∃ i : Nat, i ≤ N ∧ q = .int .i64 i ∧ Hid (Rez wr R R N N gs (pm max (cor A) (cor B) i 0)) ∧ Hid (Rez wr R2 R2 N N gs2 (cor B)) ∧ Hid (Below R w wr)) (fun q _ => N - (intOf q).toNat)
  case atStart => exact ⟨0, Nat.zero_le _, rfl, HRa, HR2, HBw⟩
  case round =>
    clear HRa HR2 HBw
    obtain ⟨i, hi, rfl, HR, HO, HB⟩ := hrel
    by_cases hlt : i < N
    · have hlt' : (i : Int) < (N : Int) := by omega
      have ch := HR.out.head hlt
      obtain ⟨g1, Hg1⟩ : ∃ g, Hid (g = gs i) := ⟨_, rfl⟩
      obtain ⟨g2, Hg2⟩ : ∃ g, Hid (g = gs2 i) := ⟨_, rfl⟩
      have HG : Hid (R ≤ g1 ∧ g1 < R2) := by rw [Hg1.out]; exact HGl.out i hlt
      rw [← Hg1.out] at ch
      go_wp2
      clear ch
      go_loopw [25] (fun q wr => ∃ j : Nat, j ≤ N ∧ q = .int .i64 j ∧ Hid (Rez wr R R N N gs (pm max (cor A) (cor B) i j)) ∧ Hid (Rez wr R2 R2 N N gs2 (cor B)) ∧ Hid (Below R w wr)) (fun q _ => N - (intOf q).toNat)
      case atStart => exact ⟨0, Nat.zero_le _, rfl, HR, HO, HB⟩
      case round =>
        clear HR HO HB
        obtain ⟨j, hj, rfl, HR, HO, HB⟩ := hrel
        by_cases hjl : j < N
        · have hjl' : (j : Int) < (N : Int) := by omega
          obtain ⟨cA, fA, -, -⟩ := HR.out.box hlt hjl
          obtain ⟨cB, -, -, -⟩ := HO.out.box hlt hjl
          have c2 := HO.out.head hlt
          rw [show pm max (cor A) (cor B) i j i j = cor A i j from if_neg (by omega)] at cA
          obtain ⟨x, HX⟩ : ∃ z, Hid (z = cor A i j) := ⟨_, rfl⟩
          obtain ⟨y, HY⟩ : ∃ z, Hid (z = cor B i j) := ⟨_, rfl⟩
          obtain ⟨z, HZ⟩ : ∃ z, Hid (z = max x y) := ⟨_, rfl⟩
          rw [← HX.out] at cA
          rw [← HY.out] at cB
          have HR3 : Hid (∀ W : World, W.heap = wr.heap → Rez (W.setCell ⟨gs i, j, none⟩ (.int .i64 z)) R R N N gs (pm max (cor A) (cor B) i (j + 1))) := fun W hW => by
            refine (HR.out.set hlt z hW).congr (fun a _ b _ => ?_)
            unfold updz
            by_cases e : a = i ∧ b = j
            · rw [if_pos e, HZ.out, HX.out, HY.out, e.1, e.2]
              unfold pm
              rw [if_pos (Or.inr ⟨rfl, by omega⟩)]
            · rw [if_neg e]
              unfold pm
              have : (a < i ∨ (a = i ∧ b < j)) ↔ (a < i ∨ (a = i ∧ b < j + 1)) := by omega
              by_cases h : a < i ∨ (a = i ∧ b < j)
              · rw [if_pos h, if_pos (this.1 h)]
              · rw [if_neg h, if_neg (fun q => h (this.2 q))]
          have HO3 : Hid (∀ W : World, W.heap = wr.heap → Rez (W.setCell ⟨g1, j, none⟩ (.int .i64 z)) R2 R2 N N gs2 (cor B)) := fun W hW => (HO.out.same (fun k _ _ => by rw [hW])).other HG.out.2 _
          rw [← Hg1.out] at cA fA HR3
          rw [← Hg2.out] at cB c2
          go_wp2_with fail
          go_region_with (go_at_call 25; refine (greater_at x y z _ HZ.out).mono ?_; rintro e wz ⟨rfl, rfl⟩)
          all_goals (
            go_wp2
            go_roundw
            case rel => exact ⟨j + 1, by omega, by go_num, HR3.out wr.drew rfl, HO3.out wr.drew rfl, (HB.out.setCell (p := ⟨g1, j, none⟩) HG.out.1 _).drew⟩
            case measure => simp [intOf]; omega)
        · obtain rfl : j = N := by omega
          have HR4 : Hid (Rez wr R R j j gs (pm max (cor A) (cor B) (i + 1) 0)) := HR.out.congr (fun a _ b hb => by
            unfold pm
            by_cases h : a < i ∨ (a = i ∧ b < j)
            · rw [if_pos h, if_pos (by omega)]
            · rw [if_neg h, if_neg (by omega)])
          go_wp2
          go_roundw
          case rel => exact ⟨i + 1, by omega, by go_num, HR4, HO, HB⟩
          case measure => simp [intOf]; omega
    · obtain rfl : i = N := by omega
      have HR4 : Hid (Rez wr R R i i gs fun a b => max (cor A a b) (cor B a b)) := HR.out.congr (fun a ha b _ => by
        unfold pm
        rw [if_pos (Or.inl ha)])
      have HTc : Hid (Table wr (some ⟨R, 0, none⟩) (tz i i fun a b => max (cor A a b) (cor B a b))) := HR4.out.table (by omega) (fun a ha b hb => by
        rw [HN.out] at ha hb
        have h9 := HKc.out.bound7 (i := a) (j := b) (by omega) (by omega)
        exact ⟨Int.le_trans (by decide) h9.1, Int.le_trans h9.2 (by decide)⟩)
      go_wp2_with (go_at_call 33; refine (withCorner_at _ m2 i i _ _ _ HTc.out rfl HN.out n1 n7).mono ?_; rintro e w3 ⟨gs3, rfl, HR3, HB3⟩)
      go_ret
      refine ⟨_, gs3, rfl, ?_, HR3.out.congr (fun a ha b hb => wdif_small (fun i hi j hj => HKc.out.bound7 hi hj) ha hb), ?_⟩
      · exact HB.out.size
      · rw [← HRr.out]; exact HB.out.trans (HB3.out.mono (by rw [HRr.out]; exact HB.out.size))

set_option maxHeartbeats 8000000 in
set_option maxRecDepth 100000 in
theorem combined_min (a b : Option Addr) (n m1 m2 ca cb : Nat) (A B : Nat → Nat → Int) (w : World) (hs : Table w a (tz n n A)) (ht : Table w b (tz n n B)) (hm1 : m1 = n) (hm2 : m2 = n) (p : Sg n A) (q : Sg n B) :
    Calls Try.prog 24 #[.slice a m1 ca, .slice b m2 cb, .func (.func 26) #[] #[]] w fun e w' => ∃ g gs, e = .returned (.slice (some ⟨g, 0, none⟩) n n) ∧ w.heap.size ≤ g ∧ Hid (Rez w' g g n n gs (joi A B)) ∧ Hid (Below w.heap.size w w') := by
  have HS : Hid (Table w a (tz n n A)) := hs
  have HT : Hid (Table w b (tz n n B)) := ht
  have Hp : Hid (Sg n A) := p
  have Hq : Hid (Sg n B) := q
  have HKa : Hid (Kc n (cor A)) := p.kc
  have HKb : Hid (Kc n (cor B)) := q.kc
  have HKc : Hid (Kc n fun i j => min (cor A i j) (cor B i j)) := p.kc.min q.kc
  have n1 := p.n1; have n7 := p.n7
  subst hm1
  subst hm2
  clear hs ht p q
  obtain ⟨N, HN⟩ : ∃ N, Hid (N = m2 + 1) := ⟨_, rfl⟩
  have hN8 : N ≤ 8 := by rw [HN.out]; omega
  have HCa := corner_at a m2 m2 ca A w HS.out rfl Hp.out
  rw [← HN.out] at HCa
  go_enter Try.func24, Try.ntmps24
  go_wp2_with fail
  refine HCa.mono ?_
  rintro e w1 ⟨gs, rfl, HR1, HB1⟩
  clear HCa
  have HCb := corner_at b m2 m2 cb B w1 (HT.out.below HB1.out) rfl Hq.out
  rw [← HN.out] at HCb
  go_wp2_with fail
  refine HCb.mono ?_
  rintro e w2 ⟨gs2, rfl, HR2, HB2⟩
  clear HCb
  obtain ⟨R, HRr⟩ : ∃ R, Hid (R = w.heap.size) := ⟨_, rfl⟩
  obtain ⟨R2, HRr2⟩ : ∃ R, Hid (R = w1.heap.size) := ⟨_, rfl⟩
  have HGl : Hid (∀ i, i < N → R ≤ gs i ∧ gs i < R2) := fun i hi => by
    have := (HR1.out.box hi (j := 0) (by rw [HN.out]; omega)).2.2
    rw [HRr.out, HRr2.out]; exact this
  have HRR : Hid (R ≤ R2) := by show _ ≤ _; rw [HRr.out, HRr2.out]; exact HB1.out.size
  have HRa : Hid (Rez w2 R R N N gs (pm min (cor A) (cor B) 0 0)) := by
    rw [HRr.out]
    exact (HR1.out.below HB2.out).congr (fun i _ j _ => by unfold pm; rw [if_neg (by omega)])
  rw [← HRr2.out] at HR2 ⊢
  have HBw : Hid (Below R w w2) := by rw [HRr.out]; exact HB1.out.trans (HB2.out.mono HB1.out.size)
  rw [← HRr.out] at ⊢
  clear HR1 HB1 HB2
  go_wp2
  go_loopw [18] (fun q wr => ∃ i : Nat, i ≤ N ∧ q = .int .i64 i ∧ Hid (Rez wr R R N N gs (pm min (cor A) (cor B) i 0)) ∧ Hid (Rez wr R2 R2 N N gs2 (cor B)) ∧ Hid (Below R w wr)) (fun q _ => N - (intOf q).toNat)
  case atStart => exact ⟨0, Nat.zero_le _, rfl, HRa, HR2, HBw⟩
  case round =>
    clear HRa HR2 HBw
    obtain ⟨i, hi, rfl, HR, HO, HB⟩ := hrel
    by_cases hlt : i < N
    · have hlt' : (i : Int) < (N : Int) := by omega
      have ch := HR.out.head hlt
      obtain ⟨g1, Hg1⟩ : ∃ g, Hid (g = gs i) := ⟨_, rfl⟩
      obtain ⟨g2, Hg2⟩ : ∃ g, Hid (g = gs2 i) := ⟨_, rfl⟩
      have HG : Hid (R ≤ g1 ∧ g1 < R2) := by rw [Hg1.out]; exact HGl.out i hlt
      rw [← Hg1.out] at ch
      go_wp2
      clear ch
      go_loopw [25] (fun q wr => ∃ j : Nat, j ≤ N ∧ q = .int .i64 j ∧ Hid (Rez wr R R N N gs (pm min (cor A) (cor B) i j)) ∧ Hid (Rez wr R2 R2 N N gs2 (cor B)) ∧ Hid (Below R w wr)) (fun q _ => N - (intOf q).toNat)
      case atStart => exact ⟨0, Nat.zero_le _, rfl, HR, HO, HB⟩
      case round =>
        clear HR HO HB
        obtain ⟨j, hj, rfl, HR, HO, HB⟩ := hrel
        by_cases hjl : j < N
        · have hjl' : (j : Int) < (N : Int) := by omega
          obtain ⟨cA, fA, -, -⟩ := HR.out.box hlt hjl
          obtain ⟨cB, -, -, -⟩ := HO.out.box hlt hjl
          have c2 := HO.out.head hlt
          rw [show pm min (cor A) (cor B) i j i j = cor A i j from if_neg (by omega)] at cA
          obtain ⟨x, HX⟩ : ∃ z, Hid (z = cor A i j) := ⟨_, rfl⟩
          obtain ⟨y, HY⟩ : ∃ z, Hid (z = cor B i j) := ⟨_, rfl⟩
          obtain ⟨z, HZ⟩ : ∃ z, Hid (z = min x y) := ⟨_, rfl⟩
          rw [← HX.out] at cA
          rw [← HY.out] at cB
          have HR3 : Hid (∀ W : World, W.heap = wr.heap → Rez (W.setCell ⟨gs i, j, none⟩ (.int .i64 z)) R R N N gs (pm min (cor A) (cor B) i (j + 1))) := fun W hW => by
            refine (HR.out.set hlt z hW).congr (fun a _ b _ => ?_)
            unfold updz
            by_cases e : a = i ∧ b = j
            · rw [if_pos e, HZ.out, HX.out, HY.out, e.1, e.2]
              unfold pm
              rw [if_pos (Or.inr ⟨rfl, by omega⟩)]
            · rw [if_neg e]
              unfold pm
              have : (a < i ∨ (a = i ∧ b < j)) ↔ (a < i ∨ (a = i ∧ b < j + 1)) := by omega
              by_cases h : a < i ∨ (a = i ∧ b < j)
              · rw [if_pos h, if_pos (this.1 h)]
              · rw [if_neg h, if_neg (fun q => h (this.2 q))]
          have HO3 : Hid (∀ W : World, W.heap = wr.heap → Rez (W.setCell ⟨g1, j, none⟩ (.int .i64 z)) R2 R2 N N gs2 (cor B)) := fun W hW => (HO.out.same (fun k _ _ => by rw [hW])).other HG.out.2 _
          rw [← Hg1.out] at cA fA HR3
          rw [← Hg2.out] at cB c2
          go_wp2_with fail
          go_region_with (go_at_call 26; refine (lesser_at x y z _ HZ.out).mono ?_; rintro e wz ⟨rfl, rfl⟩)
          all_goals (
            go_wp2
            go_roundw
            case rel => exact ⟨j + 1, by omega, by go_num, HR3.out wr.drew rfl, HO3.out wr.drew rfl, (HB.out.setCell (p := ⟨g1, j, none⟩) HG.out.1 _).drew⟩
            case measure => simp [intOf]; omega)
        · obtain rfl : j = N := by omega
          have HR4 : Hid (Rez wr R R j j gs (pm min (cor A) (cor B) (i + 1) 0)) := HR.out.congr (fun a _ b hb => by
            unfold pm
            by_cases h : a < i ∨ (a = i ∧ b < j)
            · rw [if_pos h, if_pos (by omega)]
            · rw [if_neg h, if_neg (by omega)])
          go_wp2
          go_roundw
          case rel => exact ⟨i + 1, by omega, by go_num, HR4, HO, HB⟩
          case measure => simp [intOf]; omega
    · obtain rfl : i = N := by omega
      have HR4 : Hid (Rez wr R R i i gs fun a b => min (cor A a b) (cor B a b)) := HR.out.congr (fun a ha b _ => by
        unfold pm
        rw [if_pos (Or.inl ha)])
      have HTc : Hid (Table wr (some ⟨R, 0, none⟩) (tz i i fun a b => min (cor A a b) (cor B a b))) := HR4.out.table (by omega) (fun a ha b hb => by
        rw [HN.out] at ha hb
        have h9 := HKc.out.bound7 (i := a) (j := b) (by omega) (by omega)
        exact ⟨Int.le_trans (by decide) h9.1, Int.le_trans h9.2 (by decide)⟩)
      go_wp2_with (go_at_call 33; refine (withCorner_at _ m2 i i _ _ _ HTc.out rfl HN.out n1 n7).mono ?_; rintro e w3 ⟨gs3, rfl, HR3, HB3⟩)
      go_ret
      refine ⟨_, gs3, rfl, ?_, HR3.out.congr (fun a ha b hb => wdif_small (fun i hi j hj => HKc.out.bound7 hi hj) ha hb), ?_⟩
      · exact HB.out.size
      · rw [← HRr.out]; exact HB.out.trans (HB3.out.mono (by rw [HRr.out]; exact HB.out.size))

end Go.Proofs.Ytfpbccahmipliaa
