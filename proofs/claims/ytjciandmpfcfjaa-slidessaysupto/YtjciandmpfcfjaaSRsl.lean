/-
  The contract of ferref.Slid.
-/
import Derived.Test.YtjciandmpfcfjaaSRev
namespace Go.Proofs.Ytjciandmpfcfjaa
open Go.RowKit

theorem Few.row {ls : List (List Int)} (h : Few ls) {i : Nat} (hi : i < ls.length) : 0 < (Go.Proofs.Ytjciandmpfcfjaa.row ls i).length ∧ (Go.Proofs.Ytjciandmpfcfjaa.row ls i).length ≤ 1000 := h.one _ (row_mem hi)
set_option maxHeartbeats 16000000 in
set_option maxRecDepth 100000 in
theorem RSlid_at {h : Nat → Nat} (a : Option Addr) (n cap : Nat) (ls : List (List Int)) (i j : Nat) (w : World) (hs : Table w a ls) (hn : n = ls.length) (hF : Few ls) (hH : Hol h ls i j) :
    Calls Try.prog 23 #[.slice a n cap, .int .i64 i, .int .i64 j] w fun e w' => ∃ v, e = .returned (.tuple #[v, .agg #[.int .i64 ((mv (left ls i j) ls i j).2.1 : Nat), .int .i64 ((mv (left ls i j) ls i j).2.2 : Nat)]]) ∧ Tbl w' w.heap.size v (tk (mv (left ls i j) ls i j).1 (mv (left ls i j) ls i j).2.1) ∧ Below w.heap.size w w' := by
  subst hn
  have HS : Hid (Table w a ls) := hs
  have HF0 : Hid (Few ls) := hF
  have HH0 : Hid (Hol h ls i j) := hH
  obtain ⟨M, HM⟩ : ∃ M, Hid (M = mv (left ls i j) ls i j) := ⟨_, rfl⟩
  rw [← HM.out]
  clear hs hF hH
  go_enter Try.func23, Try.ntmps23
  obtain ⟨w0, HW0⟩ : ∃ w0, Hid (w0 = w.alloc (.cells #[.int .i64 0, .int .i64 0] 51)) := ⟨_, rfl⟩
  have HB0 : Hid (Below w.heap.size w w0) := by rw [HW0.out]; exact (Below.refl _ _).alloc (Nat.le_refl _) _
  have HZ0 : Hid (w0.heap.size = w.heap.size + 1) := by rw [HW0.out]; show _ = _; simp
  have HC0 : Hid (w0.cell? ⟨w.heap.size, 0, none⟩ = some (.int .i64 0) ∧ w0.cell? ⟨w.heap.size, 1, none⟩ = some (.int .i64 0)) := by
    rw [HW0.out]; exact ⟨by rw [World.cell?_alloc_at _ _ _ _ rfl]; rfl, by rw [World.cell?_alloc_at _ _ _ _ rfl]; rfl⟩
  go_wp2_with fail
  rw [← HW0.out]
  refine (Twin_i a ls.length cap ls w0 (HS.out.below HB0.out) rfl HF0.out.len (fun l hl => by have := (HF0.out.one l hl).2; omega)).mono ?_
  rintro e w1 ⟨v1, rfl, hT1, hb1⟩
  obtain ⟨vs, hI1⟩ := TIn.of_tbl hT1
  obtain ⟨va, vc, hv⟩ := hI1.t.shape
  subst hv
  have HT1 : Hid (TblIn w1 w.heap.size (fun k => w0.heap.size ≤ k ∧ k < w1.heap.size) (.slice va ls.length vc) vs ls) := hI1.mono HB0.out.size
  have HB1 : Hid (Below w0.heap.size w0 w1) := hb1
  clear hT1 hb1 hI1
  go_wp2
  go_loopw [1, 2] (fun iv jv wr => ∃ (p q k : Nat) (ms : List (List Int)), iv = .int .i64 p ∧ jv = .int .i64 q ∧ Hid (Hol h ms p q) ∧ Hid (Few ms) ∧ Hid (left ms p q ≤ k) ∧ Hid (ms.length = ls.length ∧ (row ms 0).length = (row ls 0).length) ∧ Hid (M = mv k ms p q) ∧
    Hid (TblIn wr w.heap.size (fun k => w0.heap.size ≤ k ∧ k < w1.heap.size) (.slice va ls.length vc) vs ms) ∧ Hid (Below w0.heap.size w0 wr ∧ wr.heap.size = w1.heap.size)) (fun iv jv _ => (ls.length - (intOf iv).toNat) + ((row ls 0).length - (intOf jv).toNat))
  case atStart => exact ⟨i, j, left ls i j, ls, rfl, rfl, HH0, HF0, Nat.le_refl _, ⟨rfl, rfl⟩, HM, HT1, ⟨HB1.out, rfl⟩⟩
  case round =>
    obtain ⟨p, q, k, ms, rfl, rfl, HH, HF, HK, HL, HE, HT, HB⟩ := hrel
    obtain ⟨k, rfl⟩ : ∃ m, k = m + 1 := ⟨k - 1, by have := HK.out; unfold left at this; have := HH.out.wide; omega⟩
    have hp : p < 1000 := by have := HH.out.row; have := HF.out.len; omega
    have hq : q < 1000 := by have := HH.out.lt; have := (HF.out.row HH.out.row).2; omega
    have hp1 : IntKind.i64.wrap ((p : Int) + 1) = ((p + 1 : Nat) : Int) := by rw [IntWalk.i64_left, IntWalk.wrap64_in _ (by omega)]; omega
    have hq1 : IntKind.i64.wrap ((q : Int) + 1) = ((q + 1 : Nat) : Int) := by rw [IntWalk.i64_left, IntWalk.wrap64_in _ (by omega)]; omega
    obtain ⟨x, HX⟩ : ∃ x, Hid (x = box ms p (q + 1)) := ⟨_, rfl⟩
    obtain ⟨y, HY⟩ : ∃ y, Hid (y = box ms (p + 1) q) := ⟨_, rfl⟩
    have hxb : -1000 ≤ x ∧ x ≤ 1000 := by rw [HX.out]; exact HF.out.box _ _
    have hyb : -1000 ≤ y ∧ y ≤ 1000 := by rw [HY.out]; exact HF.out.box _ _
    have hat := HH.out.at
    rw [← HX.out, ← HY.out] at hat
    obtain ⟨hat1, hat2, hat3, hat4⟩ := hat
    obtain ⟨g, hb, ch, m, rfl, hnl, HRv, HMm, hqm, hm1, hcg, hcb, hfb, HSh, hgl, hhl⟩ := HT.out.open HF.out (i := p) HH.out.lt
    rw [← HMm.out] at hat1
    have hpn : (p : Int) < (ls.length : Int) := by have := HH.out.row; omega
    have hqm' : (q : Int) < (m : Int) := by omega
    have HBX : Hid (∀ z, -1000 ≤ z → z ≤ 1000 → Few (sb ms p q z)) := fun z h1 h2 => HF.out.sb p q ⟨h1, h2⟩
    have HST : Hid (∀ z, TblIn (wr.setCell ⟨hb, q, none⟩ (.int .i64 z)) w.heap.size (fun k => w0.heap.size ≤ k ∧ k < w1.heap.size) (.slice (some ⟨g, 0, none⟩) ls.length vc) vs (sb ms p q z)) := fun z => HT.out.sbox HH.out.row HRv.out HMm.out z
    have HOF : Hid (∀ z, Below w0.heap.size w0 (wr.setCell ⟨hb, q, none⟩ (.int .i64 z)) ∧ (wr.setCell ⟨hb, q, none⟩ (.int .i64 z)).heap.size = w1.heap.size) := fun z => ⟨HB.out.1.setCell (p := ⟨hb, q, none⟩) HSh.out.1 _, by simp [HB.out.2]⟩
    have hrp : p < ls.length := by have := HH.out.row; have := HL.out.1; omega
    have hrq : q < (row ls 0).length := by have := HH.out.wide; have := HL.out.2; omega
    clear hnl
    by_cases cR : q + 1 < m
    · have cR' : ((q + 1 : Nat) : Int) < (m : Int) := by omega
      have hx1 : x ≠ 0 := hat1.2 cR
      have hx0 : (x == 0) = false := beq_false_of_ne hx1
      have hxg : x > 0 := by omega
      obtain ⟨g', hb', ch', m', hg', -, HRv', -, -, -, -, hcx, -, -, -, -⟩ := HT.out.open HF.out (i := p) (j := q + 1) (by rw [← HMm.out]; exact cR)
      have e1 := HRv'.out
      rw [HRv.out] at e1
      simp only [Value.slice.injEq, Option.some.injEq, Addr.mk.injEq, and_true] at e1
      obtain ⟨rfl, rfl, rfl⟩ := e1
      rw [← HX.out] at hcx
      clear hg' HRv'
      by_cases cP : p + 1 < ls.length
      · have cP' : ((p + 1 : Nat) : Int) < (ls.length : Int) := by omega
        obtain ⟨g', hb2, ch2, m2, hg', -, -, HM2, -, hm2, hcg2, hcz, -, -, -, -⟩ := HT.out.open HF.out (i := p + 1) (j := 0) ((HF.out.row (by rw [HL.out.1]; exact cP)).1)
        simp only [Option.some.injEq, Addr.mk.injEq, and_true] at hg'
        subst hg'
        rw [← HM2.out] at hat2
        by_cases cL : q < m2
        · have cL' : (q : Int) < (m2 : Int) := by omega
          have hy1 : y ≠ 0 := hat2.2 cL
          have hy0 : (y == 0) = false := beq_false_of_ne hy1
          obtain ⟨g', hb3, ch3, m3, hg', -, HRv3, HM3, -, -, hcg3, hcy, -, -, -, -⟩ := HT.out.open HF.out (i := p + 1) (j := q) (by rw [← HM2.out]; exact cL)
          simp only [Option.some.injEq, Addr.mk.injEq, and_true] at hg'
          subst hg'
          rw [hcg2] at hcg3
          simp only [Option.some.injEq, Value.slice.injEq, Addr.mk.injEq, and_true] at hcg3
          obtain ⟨rfl, rfl, rfl⟩ := hcg3
          rw [← HY.out] at hcy
          clear HRv3 HM3
          by_cases cxy : x < y
          · skip
            have hno : ¬ (box ms (p + 1) q ≠ 0 ∧ (box ms p (q + 1) = 0 ∨ box ms (p + 1) q ≤ box ms p (q + 1))) := by rw [← HX.out, ← HY.out]; omega
            have hxn : box ms p (q + 1) ≠ 0 := by rw [← HX.out]; omega
            have HR := HH.out.right hno hxn
            rw [← HX.out] at HR
            have HEq : Hid (M = mv k (sb ms p q x) p (q + 1)) := by show _ = _; rw [HE.out, mv_right hno hxn, ← HX.out]
            have hq2 := HR.1.wide
            rw [sb_len] at hq2
            have HR1 : Hid (Hol h (sb ms p q x) p (q + 1)) := HR.1
            have HK2 : Hid (left (sb ms p q x) p (q + 1) ≤ k) := by have := HR.2.2; have := HK.out; show _ ≤ _; omega
            have HL2 : Hid ((sb ms p q x).length = ls.length ∧ (row (sb ms p q x) 0).length = (row ls 0).length) := ⟨by rw [sb_length]; exact HL.out.1, by rw [sb_len]; exact HL.out.2⟩
            clear HR hno hxn hat1 hat2
            go_wp2
            go_roundw
            case rel => exact ⟨p, q + 1, k, _, rfl, by go_num, HR1, HBX.out x hxb.1 hxb.2, HK2, HL2, HEq, HST.out x, HOF.out x⟩
            case measure => have := HL.out.2; simp [intOf]; omega
          · skip
            have hc : box ms (p + 1) q ≠ 0 ∧ (box ms p (q + 1) = 0 ∨ box ms (p + 1) q ≤ box ms p (q + 1)) := by rw [← HX.out, ← HY.out]; omega
            have HR := HH.out.down hc
            rw [← HY.out] at HR
            have HEq : Hid (M = mv k (sb ms p q y) (p + 1) q) := by show _ = _; rw [HE.out, mv_down hc, ← HY.out]
            have hp2 := HR.1.row
            rw [sb_length] at hp2
            have HR1 : Hid (Hol h (sb ms p q y) (p + 1) q) := HR.1
            have HK2 : Hid (left (sb ms p q y) (p + 1) q ≤ k) := by have := HR.2.2; have := HK.out; show _ ≤ _; omega
            have HL2 : Hid ((sb ms p q y).length = ls.length ∧ (row (sb ms p q y) 0).length = (row ls 0).length) := ⟨by rw [sb_length]; exact HL.out.1, by rw [sb_len]; exact HL.out.2⟩
            clear HR hc hat1 hat2
            go_wp2
            go_roundw
            case rel => exact ⟨p + 1, q, k, _, by go_num, rfl, HR1, HBX.out y hyb.1 hyb.2, HK2, HL2, HEq, HST.out y, HOF.out y⟩
            case measure => have := HL.out.1; simp [intOf]; omega
        · have cL' : ¬ (q : Int) < (m2 : Int) := by omega
          have hy1 : y = 0 := by
            rcases Decidable.em (y = 0) with z | z
            · exact z
            · exact absurd (hat2.1 z) cL
          have hno : ¬ (box ms (p + 1) q ≠ 0 ∧ (box ms p (q + 1) = 0 ∨ box ms (p + 1) q ≤ box ms p (q + 1))) := by rw [← HX.out, ← HY.out]; omega
          have hxn : box ms p (q + 1) ≠ 0 := by rw [← HX.out]; omega
          have HR := HH.out.right hno hxn
          rw [← HX.out] at HR
          have HEq : Hid (M = mv k (sb ms p q x) p (q + 1)) := by show _ = _; rw [HE.out, mv_right hno hxn, ← HX.out]
          have hq2 := HR.1.wide
          rw [sb_len] at hq2
          have HR1 : Hid (Hol h (sb ms p q x) p (q + 1)) := HR.1
          have HK2 : Hid (left (sb ms p q x) p (q + 1) ≤ k) := by have := HR.2.2; have := HK.out; show _ ≤ _; omega
          have HL2 : Hid ((sb ms p q x).length = ls.length ∧ (row (sb ms p q x) 0).length = (row ls 0).length) := ⟨by rw [sb_length]; exact HL.out.1, by rw [sb_len]; exact HL.out.2⟩
          clear HR hno hxn hat1 hat2
          go_wp2
          go_roundw
          case rel => exact ⟨p, q + 1, k, _, rfl, by go_num, HR1, HBX.out x hxb.1 hxb.2, HK2, HL2, HEq, HST.out x, HOF.out x⟩
          case measure => have := HL.out.2; simp [intOf]; omega
      · have cP' : ¬ ((p + 1 : Nat) : Int) < (ls.length : Int) := by omega
        have hy1 : y = 0 := by rw [HY.out]; exact box_out (by rw [row_out (by rw [HL.out.1]; omega)]; simp)
        have hno : ¬ (box ms (p + 1) q ≠ 0 ∧ (box ms p (q + 1) = 0 ∨ box ms (p + 1) q ≤ box ms p (q + 1))) := by rw [← HX.out, ← HY.out]; omega
        have hxn : box ms p (q + 1) ≠ 0 := by rw [← HX.out]; omega
        have HR := HH.out.right hno hxn
        rw [← HX.out] at HR
        have HEq : Hid (M = mv k (sb ms p q x) p (q + 1)) := by show _ = _; rw [HE.out, mv_right hno hxn, ← HX.out]
        have hq2 := HR.1.wide
        rw [sb_len] at hq2
        have HR1 : Hid (Hol h (sb ms p q x) p (q + 1)) := HR.1
        have HK2 : Hid (left (sb ms p q x) p (q + 1) ≤ k) := by have := HR.2.2; have := HK.out; show _ ≤ _; omega
        have HL2 : Hid ((sb ms p q x).length = ls.length ∧ (row (sb ms p q x) 0).length = (row ls 0).length) := ⟨by rw [sb_length]; exact HL.out.1, by rw [sb_len]; exact HL.out.2⟩
        clear HR hno hxn hat1 hat2
        go_wp2
        go_roundw
        case rel => exact ⟨p, q + 1, k, _, rfl, by go_num, HR1, HBX.out x hxb.1 hxb.2, HK2, HL2, HEq, HST.out x, HOF.out x⟩
        case measure => have := HL.out.2; simp [intOf]; omega
    · have cR' : ¬ ((q + 1 : Nat) : Int) < (m : Int) := by omega
      have hx1 : x = 0 := by
        rcases Decidable.em (x = 0) with z | z
        · exact z
        · exact absurd (hat1.1 z) cR
      by_cases cP : p + 1 < ls.length
      · have cP' : ((p + 1 : Nat) : Int) < (ls.length : Int) := by omega
        obtain ⟨g', hb2, ch2, m2, hg', -, -, HM2, -, hm2, hcg2, hcz, -, -, -, -⟩ := HT.out.open HF.out (i := p + 1) (j := 0) ((HF.out.row (by rw [HL.out.1]; exact cP)).1)
        simp only [Option.some.injEq, Addr.mk.injEq, and_true] at hg'
        subst hg'
        rw [← HM2.out] at hat2
        by_cases cL : q < m2
        · have cL' : (q : Int) < (m2 : Int) := by omega
          have hy1 : y ≠ 0 := hat2.2 cL
          have hy0 : (y == 0) = false := beq_false_of_ne hy1
          obtain ⟨g', hb3, ch3, m3, hg', -, HRv3, HM3, -, -, hcg3, hcy, -, -, -, -⟩ := HT.out.open HF.out (i := p + 1) (j := q) (by rw [← HM2.out]; exact cL)
          simp only [Option.some.injEq, Addr.mk.injEq, and_true] at hg'
          subst hg'
          rw [hcg2] at hcg3
          simp only [Option.some.injEq, Value.slice.injEq, Addr.mk.injEq, and_true] at hcg3
          obtain ⟨rfl, rfl, rfl⟩ := hcg3
          rw [← HY.out] at hcy
          clear HRv3 HM3
          have hc : box ms (p + 1) q ≠ 0 ∧ (box ms p (q + 1) = 0 ∨ box ms (p + 1) q ≤ box ms p (q + 1)) := by rw [← HX.out, ← HY.out]; omega
          have HR := HH.out.down hc
          rw [← HY.out] at HR
          have HEq : Hid (M = mv k (sb ms p q y) (p + 1) q) := by show _ = _; rw [HE.out, mv_down hc, ← HY.out]
          have hp2 := HR.1.row
          rw [sb_length] at hp2
          have HR1 : Hid (Hol h (sb ms p q y) (p + 1) q) := HR.1
          have HK2 : Hid (left (sb ms p q y) (p + 1) q ≤ k) := by have := HR.2.2; have := HK.out; show _ ≤ _; omega
          have HL2 : Hid ((sb ms p q y).length = ls.length ∧ (row (sb ms p q y) 0).length = (row ls 0).length) := ⟨by rw [sb_length]; exact HL.out.1, by rw [sb_len]; exact HL.out.2⟩
          clear HR hc hat1 hat2
          go_wp2
          go_roundw
          case rel => exact ⟨p + 1, q, k, _, by go_num, rfl, HR1, HBX.out y hyb.1 hyb.2, HK2, HL2, HEq, HST.out y, HOF.out y⟩
          case measure => have := HL.out.1; simp [intOf]; omega
        · have cL' : ¬ (q : Int) < (m2 : Int) := by omega
          have hy1 : y = 0 := by
            rcases Decidable.em (y = 0) with z | z
            · exact z
            · exact absurd (hat2.1 z) cL
          have HEnd : Hid (M = (ms, p, q)) := by show _ = _; rw [HE.out]; exact mv_end (by rw [← HX.out, ← HY.out]; omega) (by rw [← HX.out]; omega)
          have hmq : m = q + 1 := by omega
          subst hmq
          have hrow := HT.out.t.rows p HH.out.row
          rw [HRv.out] at hrow
          have hO2 : Owns wr w.heap.size (.slice (some ⟨hb, 0, none⟩) q ch) (row ms p).dropLast := by
            have := hrow.front HMm.out (by omega)
            rw [Nat.add_sub_cancel] at this
            exact this
          have hKb : KeepB (rowv vs p) (.slice (some ⟨hb, 0, none⟩) q ch) wr wr := ⟨Nat.le_refl _, fun _ _ _ => rfl, fun z e2 => by rw [HRv.out]; exact Or.inl e2⟩
          obtain ⟨t1, t2⟩ := HT.out.setRow HH.out.row hO2 hKb
          have hcape : q + 1 ≤ ch := by
            have := ownsRow_cap (n := q + 1) (xs := (row ms p).map (Value.int .i64)) (by unfold Owns at hrow; rw [show (ms.getD p []).length = q + 1 from HMm.out.symm] at hrow; exact hrow)
            exact this.1
          have hcapg : ls.length ≤ vc := by
            have := HT.out.t.own
            rw [HT.out.t.len, HL.out.1] at this
            exact (ownsRow_cap this).1
          have hqch : (q : Int) ≤ (ch : Int) := by omega
          have hpvc : (p : Int) ≤ (vc : Int) := by omega
          have hfg := HT.out.t.own
          rw [HT.out.t.len, HL.out.1] at hfg
          have hfz := World.ownsRow.frozenAt hfg p
          have HP1 : Hid (TblIn (wr.setCell ⟨g, p, none⟩ (.slice (some ⟨hb, 0, none⟩) q ch)) w.heap.size (fun k => w0.heap.size ≤ k ∧ k < w1.heap.size) (.slice (some ⟨g, 0, none⟩) ls.length vc) (vs.set p (.slice (some ⟨hb, 0, none⟩) q ch)) (ms.set p (row ms p).dropLast)) :=
            ⟨t1.t, HT.out.hd, fun j2 hj2 k2 ek => by
              rcases t1.rs j2 hj2 k2 ek with z | z
              · exact z
              · omega⟩
          have hSg : w0.heap.size ≤ g ∧ g < w1.heap.size := HT.out.hd g rfl
          clear hrow hO2 hKb t1 t2 hfg hat1 hat2
          by_cases hq0 : q = 0
          · have hq0' : ((q : Int) == 0) = true := by simp [hq0]
            have HQ0 : Hid (q = 0) := hq0
            clear hq0
            obtain ⟨W2, HW2⟩ : ∃ W2, Hid (W2 = (wr.setCell ⟨g, p, none⟩ (.slice (some ⟨hb, 0, none⟩) q ch)).alloc (.cells #[.int .i64 p, .int .i64 q] 51)) := ⟨_, rfl⟩
            have HB2 : Hid (Below w0.heap.size w0 W2) := by
              rw [HW2.out]
              exact (HB.out.1.setCell (p := ⟨g, p, none⟩) hSg.1 _).alloc (by simp; have := HB.out.1.size; omega) _
            have hz0 := HZ0.out
            have hk1 : W2.cell? ⟨wr.heap.size, 0, none⟩ = some (.int .i64 p) := by rw [HW2.out, World.cell?_alloc_at _ _ _ _ (by simp)]; rfl
            have hk2 : W2.cell? ⟨wr.heap.size, 1, none⟩ = some (.int .i64 q) := by rw [HW2.out, World.cell?_alloc_at _ _ _ _ (by simp)]; rfl
            have hk3 : W2.cell? ⟨w.heap.size, 0, none⟩ = some (.int .i64 0) := by rw [HB2.out.cell (p := ⟨w.heap.size, 0, none⟩) (by show w.heap.size < _; omega)]; exact HC0.out.1
            have hk4 : W2.cell? ⟨w.heap.size, 1, none⟩ = some (.int .i64 0) := by rw [HB2.out.cell (p := ⟨w.heap.size, 1, none⟩) (by show w.heap.size < _; omega)]; exact HC0.out.2
            have hf3 : ∀ j, W2.frozen? ⟨w.heap.size, j, none⟩ = false := fun j => by
              rw [HB2.out.frozen (p := ⟨w.heap.size, j, none⟩) (by show w.heap.size < _; omega), HW0.out]
              exact World.frozen?_alloc_at _ _ _ _ rfl
            have hf4 := hf3 0
            have hf5 := hf3 1
            have hne : ¬ w.heap.size = wr.heap.size := by have := HB.out.1.size; omega
            have HSame : Hid (∀ k, w0.heap.size ≤ k ∧ k < w1.heap.size → ((W2.setCell ⟨w.heap.size, 0, none⟩ (.int .i64 p)).setCell ⟨w.heap.size, 1, none⟩ (.int .i64 q)).drew.heap[k]? = (wr.setCell ⟨g, p, none⟩ (.slice (some ⟨hb, 0, none⟩) q ch)).heap[k]?) := fun k hk => by
              show ((W2.setCell ⟨w.heap.size, 0, none⟩ (.int .i64 p)).setCell ⟨w.heap.size, 1, none⟩ (.int .i64 q)).heap[k]? = _
              rw [heap_setCell_other _ _ _ _ (fun e => by have e' : k = w.heap.size := e; have := hk.1; omega), heap_setCell_other _ _ _ _ (fun e => by have e' : k = w.heap.size := e; have := hk.1; omega), HW2.out]
              exact Below.heap_alloc _ _ k (by simp; rw [HB.out.2]; exact hk.2)
            have HBf : Hid (Below w.heap.size w ((W2.setCell ⟨w.heap.size, 0, none⟩ (.int .i64 p)).setCell ⟨w.heap.size, 1, none⟩ (.int .i64 q)).drew) :=
              below_drewN (((HB0.out.trans (HB2.out.mono HB0.out.size)).setCell (p := ⟨w.heap.size, 0, none⟩) (Nat.le_refl _) _).setCell (p := ⟨w.heap.size, 1, none⟩) (Nat.le_refl _) _) 1
            have HFt : Hid (Tbl ((W2.setCell ⟨w.heap.size, 0, none⟩ (.int .i64 p)).setCell ⟨w.heap.size, 1, none⟩ (.int .i64 q)).drew w.heap.size (.slice (some ⟨g, 0, none⟩) p vc) (tk ms p)) := by
              have := (HP1.out.take (k := p) (by rw [List.length_set]; exact HL.out.1.symm) (by rw [List.length_set]; exact Nat.le_of_lt HH.out.row)).same (fun k hk => HSame.out k hk)
              rw [List.take_set_of_le (l := ms) (Nat.le_refl _)] at this
              show Tbl _ _ _ _
              unfold tk
              rw [if_pos (by rw [← HMm.out]; have := HQ0.out; omega)]
              exact TIn.tbl ⟨_, this⟩
            clear hf3 hz0
            go_wp2_with fail
            rw [← HW2.out]
            go_region
            go_wp2
            refine bodyPost_ret (v := .tuple #[.slice (some ⟨g, 0, none⟩) p vc, .agg #[.int .i64 p, .int .i64 q]]) (by simp [results, Try.results23, go_sem, hk3, hk4]) rfl ⟨_, by rw [HEnd.out], by rw [HEnd.out]; exact HFt.out, HBf.out⟩
          · have hq0' : ((q : Int) == 0) = false := beq_false_of_ne (by omega)
            have HQ0 : Hid (¬ q = 0) := hq0
            clear hq0
            obtain ⟨W2, HW2⟩ : ∃ W2, Hid (W2 = (wr.setCell ⟨g, p, none⟩ (.slice (some ⟨hb, 0, none⟩) q ch)).alloc (.cells #[.int .i64 p, .int .i64 q] 51)) := ⟨_, rfl⟩
            have HB2 : Hid (Below w0.heap.size w0 W2) := by
              rw [HW2.out]
              exact (HB.out.1.setCell (p := ⟨g, p, none⟩) hSg.1 _).alloc (by simp; have := HB.out.1.size; omega) _
            have hz0 := HZ0.out
            have hk1 : W2.cell? ⟨wr.heap.size, 0, none⟩ = some (.int .i64 p) := by rw [HW2.out, World.cell?_alloc_at _ _ _ _ (by simp)]; rfl
            have hk2 : W2.cell? ⟨wr.heap.size, 1, none⟩ = some (.int .i64 q) := by rw [HW2.out, World.cell?_alloc_at _ _ _ _ (by simp)]; rfl
            have hk3 : W2.cell? ⟨w.heap.size, 0, none⟩ = some (.int .i64 0) := by rw [HB2.out.cell (p := ⟨w.heap.size, 0, none⟩) (by show w.heap.size < _; omega)]; exact HC0.out.1
            have hk4 : W2.cell? ⟨w.heap.size, 1, none⟩ = some (.int .i64 0) := by rw [HB2.out.cell (p := ⟨w.heap.size, 1, none⟩) (by show w.heap.size < _; omega)]; exact HC0.out.2
            have hf3 : ∀ j, W2.frozen? ⟨w.heap.size, j, none⟩ = false := fun j => by
              rw [HB2.out.frozen (p := ⟨w.heap.size, j, none⟩) (by show w.heap.size < _; omega), HW0.out]
              exact World.frozen?_alloc_at _ _ _ _ rfl
            have hf4 := hf3 0
            have hf5 := hf3 1
            have hne : ¬ w.heap.size = wr.heap.size := by have := HB.out.1.size; omega
            have HSame : Hid (∀ k, w0.heap.size ≤ k ∧ k < w1.heap.size → ((W2.setCell ⟨w.heap.size, 0, none⟩ (.int .i64 p)).setCell ⟨w.heap.size, 1, none⟩ (.int .i64 q)).drew.heap[k]? = (wr.setCell ⟨g, p, none⟩ (.slice (some ⟨hb, 0, none⟩) q ch)).heap[k]?) := fun k hk => by
              show ((W2.setCell ⟨w.heap.size, 0, none⟩ (.int .i64 p)).setCell ⟨w.heap.size, 1, none⟩ (.int .i64 q)).heap[k]? = _
              rw [heap_setCell_other _ _ _ _ (fun e => by have e' : k = w.heap.size := e; have := hk.1; omega), heap_setCell_other _ _ _ _ (fun e => by have e' : k = w.heap.size := e; have := hk.1; omega), HW2.out]
              exact Below.heap_alloc _ _ k (by simp; rw [HB.out.2]; exact hk.2)
            have HBf : Hid (Below w.heap.size w ((W2.setCell ⟨w.heap.size, 0, none⟩ (.int .i64 p)).setCell ⟨w.heap.size, 1, none⟩ (.int .i64 q)).drew) :=
              below_drewN (((HB0.out.trans (HB2.out.mono HB0.out.size)).setCell (p := ⟨w.heap.size, 0, none⟩) (Nat.le_refl _) _).setCell (p := ⟨w.heap.size, 1, none⟩) (Nat.le_refl _) _) 1
            have HFt : Hid (Tbl ((W2.setCell ⟨w.heap.size, 0, none⟩ (.int .i64 p)).setCell ⟨w.heap.size, 1, none⟩ (.int .i64 q)).drew w.heap.size (.slice (some ⟨g, 0, none⟩) ls.length vc) (tk ms p)) := by
              have := HP1.out.same (fun k hk => HSame.out k hk)
              show Tbl _ _ _ _
              unfold tk
              rw [if_neg (by rw [← HMm.out]; have := HQ0.out; omega)]
              exact TIn.tbl ⟨_, this⟩
            clear hf3 hz0
            go_wp2_with fail
            rw [← HW2.out]
            go_region
            go_wp2
            refine bodyPost_ret (v := .tuple #[.slice (some ⟨g, 0, none⟩) ls.length vc, .agg #[.int .i64 p, .int .i64 q]]) (by simp [results, Try.results23, go_sem, hk3, hk4]) rfl ⟨_, by rw [HEnd.out], by rw [HEnd.out]; exact HFt.out, HBf.out⟩
      · have cP' : ¬ ((p + 1 : Nat) : Int) < (ls.length : Int) := by omega
        have hy1 : y = 0 := by rw [HY.out]; exact box_out (by rw [row_out (by rw [HL.out.1]; omega)]; simp)
        have HEnd : Hid (M = (ms, p, q)) := by show _ = _; rw [HE.out]; exact mv_end (by rw [← HX.out, ← HY.out]; omega) (by rw [← HX.out]; omega)
        have hmq : m = q + 1 := by omega
        subst hmq
        have hrow := HT.out.t.rows p HH.out.row
        rw [HRv.out] at hrow
        have hO2 : Owns wr w.heap.size (.slice (some ⟨hb, 0, none⟩) q ch) (row ms p).dropLast := by
          have := hrow.front HMm.out (by omega)
          rw [Nat.add_sub_cancel] at this
          exact this
        have hKb : KeepB (rowv vs p) (.slice (some ⟨hb, 0, none⟩) q ch) wr wr := ⟨Nat.le_refl _, fun _ _ _ => rfl, fun z e2 => by rw [HRv.out]; exact Or.inl e2⟩
        obtain ⟨t1, t2⟩ := HT.out.setRow HH.out.row hO2 hKb
        have hcape : q + 1 ≤ ch := by
          have := ownsRow_cap (n := q + 1) (xs := (row ms p).map (Value.int .i64)) (by unfold Owns at hrow; rw [show (ms.getD p []).length = q + 1 from HMm.out.symm] at hrow; exact hrow)
          exact this.1
        have hcapg : ls.length ≤ vc := by
          have := HT.out.t.own
          rw [HT.out.t.len, HL.out.1] at this
          exact (ownsRow_cap this).1
        have hqch : (q : Int) ≤ (ch : Int) := by omega
        have hpvc : (p : Int) ≤ (vc : Int) := by omega
        have hfg := HT.out.t.own
        rw [HT.out.t.len, HL.out.1] at hfg
        have hfz := World.ownsRow.frozenAt hfg p
        have HP1 : Hid (TblIn (wr.setCell ⟨g, p, none⟩ (.slice (some ⟨hb, 0, none⟩) q ch)) w.heap.size (fun k => w0.heap.size ≤ k ∧ k < w1.heap.size) (.slice (some ⟨g, 0, none⟩) ls.length vc) (vs.set p (.slice (some ⟨hb, 0, none⟩) q ch)) (ms.set p (row ms p).dropLast)) :=
          ⟨t1.t, HT.out.hd, fun j2 hj2 k2 ek => by
            rcases t1.rs j2 hj2 k2 ek with z | z
            · exact z
            · omega⟩
        have hSg : w0.heap.size ≤ g ∧ g < w1.heap.size := HT.out.hd g rfl
        clear hrow hO2 hKb t1 t2 hfg hat1 hat2
        by_cases hq0 : q = 0
        · have hq0' : ((q : Int) == 0) = true := by simp [hq0]
          have HQ0 : Hid (q = 0) := hq0
          clear hq0
          obtain ⟨W2, HW2⟩ : ∃ W2, Hid (W2 = (wr.setCell ⟨g, p, none⟩ (.slice (some ⟨hb, 0, none⟩) q ch)).alloc (.cells #[.int .i64 p, .int .i64 q] 51)) := ⟨_, rfl⟩
          have HB2 : Hid (Below w0.heap.size w0 W2) := by
            rw [HW2.out]
            exact (HB.out.1.setCell (p := ⟨g, p, none⟩) hSg.1 _).alloc (by simp; have := HB.out.1.size; omega) _
          have hz0 := HZ0.out
          have hk1 : W2.cell? ⟨wr.heap.size, 0, none⟩ = some (.int .i64 p) := by rw [HW2.out, World.cell?_alloc_at _ _ _ _ (by simp)]; rfl
          have hk2 : W2.cell? ⟨wr.heap.size, 1, none⟩ = some (.int .i64 q) := by rw [HW2.out, World.cell?_alloc_at _ _ _ _ (by simp)]; rfl
          have hk3 : W2.cell? ⟨w.heap.size, 0, none⟩ = some (.int .i64 0) := by rw [HB2.out.cell (p := ⟨w.heap.size, 0, none⟩) (by show w.heap.size < _; omega)]; exact HC0.out.1
          have hk4 : W2.cell? ⟨w.heap.size, 1, none⟩ = some (.int .i64 0) := by rw [HB2.out.cell (p := ⟨w.heap.size, 1, none⟩) (by show w.heap.size < _; omega)]; exact HC0.out.2
          have hf3 : ∀ j, W2.frozen? ⟨w.heap.size, j, none⟩ = false := fun j => by
            rw [HB2.out.frozen (p := ⟨w.heap.size, j, none⟩) (by show w.heap.size < _; omega), HW0.out]
            exact World.frozen?_alloc_at _ _ _ _ rfl
          have hf4 := hf3 0
          have hf5 := hf3 1
          have hne : ¬ w.heap.size = wr.heap.size := by have := HB.out.1.size; omega
          have HSame : Hid (∀ k, w0.heap.size ≤ k ∧ k < w1.heap.size → ((W2.setCell ⟨w.heap.size, 0, none⟩ (.int .i64 p)).setCell ⟨w.heap.size, 1, none⟩ (.int .i64 q)).drew.heap[k]? = (wr.setCell ⟨g, p, none⟩ (.slice (some ⟨hb, 0, none⟩) q ch)).heap[k]?) := fun k hk => by
            show ((W2.setCell ⟨w.heap.size, 0, none⟩ (.int .i64 p)).setCell ⟨w.heap.size, 1, none⟩ (.int .i64 q)).heap[k]? = _
            rw [heap_setCell_other _ _ _ _ (fun e => by have e' : k = w.heap.size := e; have := hk.1; omega), heap_setCell_other _ _ _ _ (fun e => by have e' : k = w.heap.size := e; have := hk.1; omega), HW2.out]
            exact Below.heap_alloc _ _ k (by simp; rw [HB.out.2]; exact hk.2)
          have HBf : Hid (Below w.heap.size w ((W2.setCell ⟨w.heap.size, 0, none⟩ (.int .i64 p)).setCell ⟨w.heap.size, 1, none⟩ (.int .i64 q)).drew) :=
            below_drewN (((HB0.out.trans (HB2.out.mono HB0.out.size)).setCell (p := ⟨w.heap.size, 0, none⟩) (Nat.le_refl _) _).setCell (p := ⟨w.heap.size, 1, none⟩) (Nat.le_refl _) _) 1
          have HFt : Hid (Tbl ((W2.setCell ⟨w.heap.size, 0, none⟩ (.int .i64 p)).setCell ⟨w.heap.size, 1, none⟩ (.int .i64 q)).drew w.heap.size (.slice (some ⟨g, 0, none⟩) p vc) (tk ms p)) := by
            have := (HP1.out.take (k := p) (by rw [List.length_set]; exact HL.out.1.symm) (by rw [List.length_set]; exact Nat.le_of_lt HH.out.row)).same (fun k hk => HSame.out k hk)
            rw [List.take_set_of_le (l := ms) (Nat.le_refl _)] at this
            show Tbl _ _ _ _
            unfold tk
            rw [if_pos (by rw [← HMm.out]; have := HQ0.out; omega)]
            exact TIn.tbl ⟨_, this⟩
          clear hf3 hz0
          go_wp2_with fail
          rw [← HW2.out]
          go_region
          go_wp2
          refine bodyPost_ret (v := .tuple #[.slice (some ⟨g, 0, none⟩) p vc, .agg #[.int .i64 p, .int .i64 q]]) (by simp [results, Try.results23, go_sem, hk3, hk4]) rfl ⟨_, by rw [HEnd.out], by rw [HEnd.out]; exact HFt.out, HBf.out⟩
        · have hq0' : ((q : Int) == 0) = false := beq_false_of_ne (by omega)
          have HQ0 : Hid (¬ q = 0) := hq0
          clear hq0
          obtain ⟨W2, HW2⟩ : ∃ W2, Hid (W2 = (wr.setCell ⟨g, p, none⟩ (.slice (some ⟨hb, 0, none⟩) q ch)).alloc (.cells #[.int .i64 p, .int .i64 q] 51)) := ⟨_, rfl⟩
          have HB2 : Hid (Below w0.heap.size w0 W2) := by
            rw [HW2.out]
            exact (HB.out.1.setCell (p := ⟨g, p, none⟩) hSg.1 _).alloc (by simp; have := HB.out.1.size; omega) _
          have hz0 := HZ0.out
          have hk1 : W2.cell? ⟨wr.heap.size, 0, none⟩ = some (.int .i64 p) := by rw [HW2.out, World.cell?_alloc_at _ _ _ _ (by simp)]; rfl
          have hk2 : W2.cell? ⟨wr.heap.size, 1, none⟩ = some (.int .i64 q) := by rw [HW2.out, World.cell?_alloc_at _ _ _ _ (by simp)]; rfl
          have hk3 : W2.cell? ⟨w.heap.size, 0, none⟩ = some (.int .i64 0) := by rw [HB2.out.cell (p := ⟨w.heap.size, 0, none⟩) (by show w.heap.size < _; omega)]; exact HC0.out.1
          have hk4 : W2.cell? ⟨w.heap.size, 1, none⟩ = some (.int .i64 0) := by rw [HB2.out.cell (p := ⟨w.heap.size, 1, none⟩) (by show w.heap.size < _; omega)]; exact HC0.out.2
          have hf3 : ∀ j, W2.frozen? ⟨w.heap.size, j, none⟩ = false := fun j => by
            rw [HB2.out.frozen (p := ⟨w.heap.size, j, none⟩) (by show w.heap.size < _; omega), HW0.out]
            exact World.frozen?_alloc_at _ _ _ _ rfl
          have hf4 := hf3 0
          have hf5 := hf3 1
          have hne : ¬ w.heap.size = wr.heap.size := by have := HB.out.1.size; omega
          have HSame : Hid (∀ k, w0.heap.size ≤ k ∧ k < w1.heap.size → ((W2.setCell ⟨w.heap.size, 0, none⟩ (.int .i64 p)).setCell ⟨w.heap.size, 1, none⟩ (.int .i64 q)).drew.heap[k]? = (wr.setCell ⟨g, p, none⟩ (.slice (some ⟨hb, 0, none⟩) q ch)).heap[k]?) := fun k hk => by
            show ((W2.setCell ⟨w.heap.size, 0, none⟩ (.int .i64 p)).setCell ⟨w.heap.size, 1, none⟩ (.int .i64 q)).heap[k]? = _
            rw [heap_setCell_other _ _ _ _ (fun e => by have e' : k = w.heap.size := e; have := hk.1; omega), heap_setCell_other _ _ _ _ (fun e => by have e' : k = w.heap.size := e; have := hk.1; omega), HW2.out]
            exact Below.heap_alloc _ _ k (by simp; rw [HB.out.2]; exact hk.2)
          have HBf : Hid (Below w.heap.size w ((W2.setCell ⟨w.heap.size, 0, none⟩ (.int .i64 p)).setCell ⟨w.heap.size, 1, none⟩ (.int .i64 q)).drew) :=
            below_drewN (((HB0.out.trans (HB2.out.mono HB0.out.size)).setCell (p := ⟨w.heap.size, 0, none⟩) (Nat.le_refl _) _).setCell (p := ⟨w.heap.size, 1, none⟩) (Nat.le_refl _) _) 1
          have HFt : Hid (Tbl ((W2.setCell ⟨w.heap.size, 0, none⟩ (.int .i64 p)).setCell ⟨w.heap.size, 1, none⟩ (.int .i64 q)).drew w.heap.size (.slice (some ⟨g, 0, none⟩) ls.length vc) (tk ms p)) := by
            have := HP1.out.same (fun k hk => HSame.out k hk)
            show Tbl _ _ _ _
            unfold tk
            rw [if_neg (by rw [← HMm.out]; have := HQ0.out; omega)]
            exact TIn.tbl ⟨_, this⟩
          clear hf3 hz0
          go_wp2_with fail
          rw [← HW2.out]
          go_region
          go_wp2
          refine bodyPost_ret (v := .tuple #[.slice (some ⟨g, 0, none⟩) ls.length vc, .agg #[.int .i64 p, .int .i64 q]]) (by simp [results, Try.results23, go_sem, hk3, hk4]) rfl ⟨_, by rw [HEnd.out], by rw [HEnd.out]; exact HFt.out, HBf.out⟩

end Go.Proofs.Ytjciandmpfcfjaa
