/-
  paths.Determinant.
-/
import Derived.Test.YtapchcamjeafmaaDoorQCou
import Derived.Test.YtapchcamjeafmaaDoorQDtm
import Derived.Test.YtapchcamjeafmaaDoorQLin
import Derived.Deep.RegionHeld3
import Derived.Deep.MidRow
namespace Go.Proofs.YtapchcamjeafmaaDoor
open Go.RowKit

theorem run_makeL (m : Nat) (hm : m ≤ 4) (W : World) : (Instr.makeSlice 33 (.int .i64 (m : Int)) (.int .i64 (m : Int))).run Tryd.prog W = .ok (.slice (some ⟨W.heap.size, 0, none⟩) m m) (W.alloc (.cells (rgC m fun _ => .int .i64 0) 2)) := by
  obtain ⟨i, hi, hzz⟩ := Option.map_eq_some_iff.1 Tryd.infoL
  simp only [Prod.mk.injEq] at hzz
  obtain ⟨hz, hs, hb⟩ := hzz
  have h := run_make (P := Tryd.prog) W 33 2 i _ Tryd.underlying33 hi hz .i64 .i64 (m : Int) (m : Int) (by omega) (Int.le_refl _) (by rw [hb]; omega) (by omega)
  rw [h, hs, Int.toNat_natCast, Nat.mul_one]
  have e : madeCells (Value.int .i64 0).cells m = rgC m fun _ => .int .i64 0 := by
    apply Array.ext_getElem?
    intro k
    by_cases hk : k < m
    · rw [rgC_get _ _ _ hk]
      have e2 : (Value.int .i64 0).cells = #[.int .i64 0] := rfl
      rw [e2]
      simp only [madeCells, Array.getElem?_map, Array.getElem?_range, hk, if_true, Option.map_some]
      have e3 : k % (#[Value.int .i64 0]).size = 0 := by show k % 1 = 0; omega
      rw [e3]; rfl
    · rw [Array.getElem?_eq_none (by rw [size_madeCells]; omega), Array.getElem?_eq_none (by simp [rgC]; omega)]
  rw [e]
theorem rgC_congr {m : Nat} {f g : Nat → Value} (h : ∀ k, k < m → f k = g k) : rgC m f = rgC m g := by
  unfold rgC
  congr 1
  exact List.map_congr_left fun k hk => h k (List.mem_range.1 hk)
/-- The numbers of a row, the first j. -/
def gI (cl : Nat → Bool) (s : Nat × Nat) (E : List (Nat × Nat)) (j k : Nat) : Value := if k < j then .int .i64 ((nP cl s (ptD E k) : Nat) : Int) else .int .i64 0
theorem mt_row (cl : Nat → Bool) (S E : List (Nat × Nat)) {i : Nat} (hi : i < S.length) : (mtL cl S E).getD i [] = E.map fun e => (nP cl (ptD S i) e : Int) := by
  unfold mtL
  simp [ptD, List.getD, List.getElem?_map, List.getElem?_eq_getElem hi]
theorem mt_at (cl : Nat → Bool) (s : Nat × Nat) (E : List (Nat × Nat)) {q : Nat} (hq : q < E.length) : (E.map fun e => (nP cl s e : Int)).getD q 0 = (nP cl s (ptD E q) : Int) := by
  simp [ptD, List.getD, List.getElem?_map, List.getElem?_eq_getElem hq]
theorem ptD_getD {ps : List (Int × Int)} {gw gh : Int} (hg : ps.all (inG gw gh) = true) {i : Nat} (hi : i < ps.length) : ps.getD i (0, 0) = (((ptD (toN ps) i).1 : Int), ((ptD (toN ps) i).2 : Int)) := by
  have hm : ps.getD i (0, 0) ∈ ps := by simp [List.getD, List.getElem?_eq_getElem hi]
  have hin := (List.all_eq_true.1 hg) _ hm
  unfold inG at hin
  simp only [Bool.and_eq_true, decide_eq_true_eq] at hin
  have e : ptD (toN ps) i = ((ps.getD i (0, 0)).1.toNat, (ps.getD i (0, 0)).2.toNat) := by
    simp [ptD, toN, List.getD, List.getElem?_map, List.getElem?_eq_getElem hi]
  rw [e]
  exact Prod.ext (by show _ = (((ps.getD i (0, 0)).1.toNat : Nat) : Int); omega) (by show _ = (((ps.getD i (0, 0)).2.toNat : Nat) : Int); omega)

set_option maxHeartbeats 8000000 in
set_option maxRecDepth 100000 in
theorem Determinant_at (gw gh : Int) (ba sa ea : Option Addr) (n c sn sc en ec : Nat) (bs S E : List (Int × Int)) (w : World) (hn : n = bs.length) (hl : n ≤ 17592186044416) (hsn : sn = S.length) (hsl : sn ≤ 17592186044416) (hen : en = E.length) (hel : en ≤ 17592186044416) (hP : PtI w ba bs) (hS : PtI w sa S) (hE : PtI w ea E) (o : Option (Nat → Bool)) (ho : o = brO gw gh bs) (x : Int) (hx : x = chkE gw gh o S E) (F : Int → ByteArray)
    (hF : ∀ (d : Int) (W : World), -9223372036854775808 ≤ d → d ≤ 9223372036854775807 → Below w.heap.size w W → Calls Tryd.prog 8 #[.int .i64 d, .int .i64 10] W fun e w' => e = .returned (.string (F d)) ∧ Below W.heap.size W w') (t : ByteArray) (ht : t = if x = 0 then F (dtN S.length (mtL (brC o) (toN S) (toN E))) else ⟨#[]⟩) :
    Calls Tryd.prog 5 #[gridV gw gh (.slice ba n c), .slice sa sn sc, .slice ea en ec] w fun e w' => e = .returned (.tuple #[.string t, .int .i64 x]) ∧ Hid (Below w.heap.size w w') := by
  have HN := hid_w (And.intro hn (And.intro hsn hen))
  have HP : Hid (PtI w ba bs) := hP
  have HS : Hid (PtI w sa S) := hS
  have HE : Hid (PtI w ea E) := hE
  have HX : Hid (x = chkE gw gh o S E) := hx
  have HFm := hid_w hF
  have HTt : Hid (t = if x = 0 then F (dtN S.length (mtL (brC o) (toN S) (toN E))) else ⟨#[]⟩) := ht
  obtain ⟨Z, HZ⟩ : ∃ Z, Hid (Z = mkC fun _ => false) := ⟨_, rfl⟩
  have hz : ∀ W : World, (zeroValue 42).run Tryd.prog W = .ok (.agg Z) W := fun W => by rw [HZ.out]; exact (zero_of_info zeroM).1 W
  have HZ6 : Hid (C64 Z) := by rw [HZ.out]; exact mkC_64 _
  obtain ⟨Y, HY⟩ : ∃ Y, Hid (Y = mkC (chkM gw gh o S E)) := ⟨_, rfl⟩
  have HY6 : Hid (C64 Y) := by rw [HY.out]; exact mkC_64 _
  unfold gridV
  obtain ⟨Q, HQ⟩ : ∃ Q, Hid (Q = w.heap.size) := ⟨_, rfl⟩
  obtain ⟨W0, HW0⟩ : ∃ W0, Hid (W0 = w.alloc (.cells #[.int .i64 gw, .int .i64 gh, .slice ba n c] 24)) := ⟨_, rfl⟩
  have HB0 : Hid (Below w.heap.size w W0) := by rw [HW0.out]; exact (Below.refl _ _).alloc (Nat.le_refl _) _
  have HQb : Hid (W0.heap[Q]? = some (.cells #[.int .i64 gw, .int .i64 gh, .slice ba n c] 24 (0, 0))) := by
    show _ = _
    rw [HW0.out, HQ.out]; exact heap_alloc_last _ _
  have q0 : W0.cell? ⟨Q, 0, none⟩ = some (.int .i64 gw) := by rw [cell_of_row W0 Q 0 _ _ _ HQb.out]; rfl
  have q1 : W0.cell? ⟨Q, 1, none⟩ = some (.int .i64 gh) := by rw [cell_of_row W0 Q 1 _ _ _ HQb.out]; rfl
  have q2 : W0.cell? ⟨Q, 2, none⟩ = some (.slice ba n c) := by rw [cell_of_row W0 Q 2 _ _ _ HQb.out]; rfl
  have HC1 : Hid (Calls Tryd.prog 12 #[.agg #[.int .i64 gw, .int .i64 gh, .slice ba n c], .slice sa sn sc, .slice ea en ec] W0 fun e w' => e = .returned (.tuple #[.agg Y, .int .i64 x]) ∧ Hid (Below W0.heap.size W0 w')) :=
    checked_at gw gh ba sa ea n c sn sc en ec bs S E W0 hn hl hsn hsl hen hel (HP.out.below HB0.out) (HS.out.below HB0.out) (HE.out.below HB0.out) o ho x Y hx HY.out
  have HO : Hid (o = brO gw gh bs) := ho
  clear hP hS hE hn hsn hen hx ho hF ht
  go_enter Tryd.func5, Tryd.ntmps5
  go_upto_region 1 with fail
  rw [← HQ.out, ← HW0.out]
  go_upto_region 2 with (first | (go_at_call 12; with_reducible (refine HC1.out.mono ?_); rintro e W1 ⟨rfl, HB1⟩) | (refine wpList_store64 rfl (.tmp 8) (.tmp 20) rfl _ Y Z rfl rfl (heap_alloc_last _ _) HY6.out HZ6.out ?_))
  obtain ⟨P, HPq⟩ : ∃ P, Hid (P = W1.heap.size) := ⟨_, rfl⟩
  obtain ⟨W2, HW2⟩ : ∃ W2, Hid (W2 = (W1.alloc (.cells Z 42)).setRow W1.heap.size Y) := ⟨_, rfl⟩
  rw [← HW2.out, ← HPq.out]
  have hB2 : Below W0.heap.size W0 W2 := by
    rw [HW2.out]; exact below_setRow (HB1.out.alloc HB1.out.size _) _ HB1.out.size _
  have HB2 : Hid (Below w.heap.size w W2) := HB0.out.trans (hB2.mono HB0.out.size)
  have HP2 : Hid (W2.heap[P]? = some (.cells Y 42 (0, 0))) := by
    show _ = _
    rw [HW2.out, HPq.out]; exact setRow_heap _ _ _ _ _ _ (heap_alloc_last _ _)
  clear q0 q1 q2 hB2 HC1 hz
  by_cases hx0 : x = 0
  · subst hx0
    have HX0 : Hid (0 = chkE gw gh o S E) := HX
    have HYk : Hid (Y = mkC (brC o)) := by show _ = _; rw [HY.out]; unfold chkM; rw [← HX0.out, if_pos rfl]
    have HSE : Hid (S.all (inG gw gh) = true ∧ E.all (inG gw gh) = true ∧ sn = en ∧ sn ≤ 4 ∧ gw ≤ 8 ∧ gh ≤ 8) := by
      have h := HX0.out
      have h2 := chk_ok (by rw [HO.out] at h; exact h)
      have h3 := HN.out
      exact ⟨h2.1, h2.2.1, by omega, by omega, h2.2.2.2.2⟩
    have HTf : Hid (t = F (dtN sn (mtL (brC o) (toN S) (toN E)))) := by show _ = _; rw [HTt.out, if_pos rfl, HN.out.2.1]
    have hse : sn = en := HSE.out.2.2.1
    subst hse
    have hs4 : sn ≤ 4 := HSE.out.2.2.2.1
    obtain ⟨ls, HLs⟩ : ∃ ls, Hid (ls = mtL (brC o) (toN S) (toN E)) := ⟨_, rfl⟩
    have hmk := run_makeLr sn hs4
    obtain ⟨R, HR⟩ : ∃ R, Hid (R = W2.heap.size) := ⟨_, rfl⟩
    obtain ⟨W3, HW3⟩ : ∃ W3, Hid (W3 = W2.alloc (.cells (rgC sn fun _ => Value.slice none 0 0) 33)) := ⟨_, rfl⟩
    have HB3 : Hid (Below w.heap.size w W3) := by rw [HW3.out]; exact HB2.out.alloc HB2.out.size _
    have HP3 : Hid (W3.heap[P]? = some (.cells Y 42 (0, 0))) := by
      show _ = _
      rw [HW3.out, heap_alloc_old _ _ _ (lt_of_some HP2.out)]; exact HP2.out
    have HL3 : Hid (LfB W3 R sn sn 0 ls) := ⟨_, by rw [HW3.out, HR.out]; exact heap_alloc_last _ _, fun i hi => absurd hi (by omega)⟩
    have HPR : Hid (P < R ∧ w.heap.size ≤ R ∧ w.heap.size ≤ P) := ⟨by rw [HR.out]; exact lt_of_some HP2.out, by rw [HR.out]; exact HB2.out.size, by rw [HPq.out]; exact Nat.le_trans HB0.out.size HB1.out.size⟩
    go_upto_region 5 with fail
    rw [← HW3.out, ← HR.out]
    go_wp2_with fail
    go_loopw [30] (fun iv wr => ∃ i : Nat, i ≤ sn ∧ iv = .int .i64 (i : Int) ∧ Hid (LfB wr R sn sn i ls) ∧ Hid (wr.heap[P]? = some (.cells Y 42 (0, 0))) ∧ Hid (Below w.heap.size w wr)) (fun iv _ => sn - (intOf iv).toNat)
    case atStart => exact ⟨0, Nat.zero_le _, rfl, HL3, HP3, HB3⟩
    case round =>
      clear HL3 HP3 HB3 HP2 HB2
      obtain ⟨i, hi, rfl, HL, HPr, HB⟩ := hrel
      by_cases hlt : i < sn
      · have hlt' : (i : Int) < (sn : Int) := by omega
        have hiS : i < S.length := by rw [← HN.out.2.1]; exact hlt
        obtain ⟨sb, so, hsa, hsb, k0, k1⟩ := (HS.out.below HB.out) i hiS
        rw [ptD_getD HSE.out.1 hiS] at k0 k1
        obtain ⟨ax, ay, HAx⟩ : ∃ ax ay, Hid (ptD (toN S) i = (ax, ay)) := ⟨_, _, rfl⟩
        rw [HAx.out] at k0 k1
        have ha8 := ptD_lt HSE.out.1 HSE.out.2.2.2.2.1 HSE.out.2.2.2.2.2 i
        rw [HAx.out] at ha8
        have HA8 : Hid (ax < 8 ∧ ay < 8) := ha8
        obtain ⟨A, HA⟩ : ∃ A, Hid (A = wr.heap.size) := ⟨_, rfl⟩
        obtain ⟨W4, HW4⟩ : ∃ W4, Hid (W4 = wr.alloc (.cells #[.int .i64 (ax : Int), .int .i64 (ay : Int)] 29)) := ⟨_, rfl⟩
        obtain ⟨B, HBb⟩ : ∃ B, Hid (B = W4.heap.size) := ⟨_, rfl⟩
        obtain ⟨W5, HW5⟩ : ∃ W5, Hid (W5 = W4.alloc (.cells (rgC sn fun _ => Value.int .i64 0) 2)) := ⟨_, rfl⟩
        obtain ⟨W6, HW6⟩ : ∃ W6, Hid (W6 = W5.setCell ⟨R, i, none⟩ (.slice (some ⟨B, 0, none⟩) sn sn)) := ⟨_, rfl⟩
        have hB4 : Below wr.heap.size wr W4 := by rw [HW4.out]; exact (Below.refl _ _).alloc (Nat.le_refl _) _
        have hB5 : Below wr.heap.size wr W5 := by rw [HW5.out]; exact hB4.alloc hB4.size _
        have hsA : B = A + 1 := by rw [HBb.out, HA.out, HW4.out]; simp
        have HsB : Hid (B = A + 1 ∧ P < A ∧ R < A) := ⟨hsA, by rw [HA.out]; exact lt_of_some HPr.out, by obtain ⟨f, hf, -⟩ := HL.out; rw [HA.out]; exact lt_of_some hf⟩
        have hA4 : W4.heap[A]? = some (.cells #[.int .i64 (ax : Int), .int .i64 (ay : Int)] 29 (0, 0)) := by rw [HW4.out, HA.out]; exact heap_alloc_last _ _
        have hA5 : W5.heap[A]? = some (.cells #[.int .i64 (ax : Int), .int .i64 (ay : Int)] 29 (0, 0)) := by rw [HW5.out, heap_alloc_old _ _ _ (lt_of_some hA4)]; exact hA4
        have HA6 : Hid (W6.heap[A]? = some (.cells #[.int .i64 (ax : Int), .int .i64 (ay : Int)] 29 (0, 0))) := by
          show _ = _
          have := HsB.out
          rw [HW6.out, heap_setCell_other _ _ _ _ (by show A ≠ R; omega)]; exact hA5
        have hBk5 : W5.heap[B]? = some (.cells (rgC sn fun _ => Value.int .i64 0) 2 (0, 0)) := by rw [HW5.out, HBb.out]; exact heap_alloc_last _ _
        have HBk6 : Hid (W6.heap[B]? = some (.cells (rgC sn (gI (brC o) (ax, ay) (toN E) 0)) 2 (0, 0))) := by
          show _ = _
          have := HsB.out
          rw [HW6.out, heap_setCell_other _ _ _ _ (by show B ≠ R; omega), hBk5]; rfl
        have HP6 : Hid (W6.heap[P]? = some (.cells Y 42 (0, 0))) := by
          show _ = _
          have h1 := HsB.out
          have h2 := HPR.out
          rw [HW6.out, heap_setCell_other _ _ _ _ (by show P ≠ R; omega), hB5.block P (lt_of_some HPr.out)]; exact HPr.out
        have HRc : Hid (∃ f, W5.heap[R]? = some (.cells (rgC sn f) 33 (0, 0)) ∧ ∀ q, q < i → RwB wr R sn (f q) (ls.getD q [])) := by
          obtain ⟨f, hf1, hf2⟩ := HL.out
          exact ⟨f, (hB5.block R (lt_of_some hf1)).trans hf1, hf2⟩
        have HB6 : Hid (Below w.heap.size w W6) := by
          rw [HW6.out]
          exact (HB.out.trans (hB5.mono HB.out.size)).setCell (p := ⟨R, i, none⟩) HPR.out.2.1 _
        have HO6 : Hid (∀ q, q < A → q ≠ R → W6.heap[q]? = wr.heap[q]?) := fun q hq hqr => by
          rw [HW6.out, heap_setCell_other _ _ _ _ hqr]
          exact hB5.block q (by rw [← HA.out]; exact hq)
        obtain ⟨f, hfR, hfRw⟩ := HRc.out
        have HfR := hid_w hfR
        have HfRw := hid_w hfRw
        clear HRc hfRw
        have cR : W5.cell? ⟨R, i, none⟩ = some (f i) := by rw [cell_of_row W5 R i _ _ _ hfR, rgC_get _ _ _ hlt]
        have fR : W5.frozen? ⟨R, i, none⟩ = false := frozen_of_row W5 R i _ _ hfR
        have hmk2 := run_makeL sn hs4 W4
        rw [← HBb.out, ← HW5.out] at hmk2
        subst hsa
        clear hB4 hB5 hsA hA4 hA5 hBk5 hfR ha8
        go_upto_region 8 with fail
        rw [← HW4.out, ← HA.out]
        clear k0 k1
        go_upto_region 9 with fail
        rw [← HW6.out]
        clear cR fR hmk2
        go_wp2_with fail
        go_loopw [43] (fun jv wr => ∃ j : Nat, j ≤ sn ∧ jv = .int .i64 (j : Int) ∧ Hid (wr.heap[B]? = some (.cells (rgC sn (gI (brC o) (ax, ay) (toN E) j)) 2 (0, 0))) ∧ Hid (Below B W6 wr)) (fun jv _ => sn - (intOf jv).toNat)
        case atStart => exact ⟨0, Nat.zero_le _, rfl, HBk6, hid_w (Below.refl _ _)⟩
        case round =>
          clear HBk6
          obtain ⟨j, hj, rfl, HBk, HBr⟩ := hrel
          by_cases hjl : j < sn
          · have hjl' : (j : Int) < (sn : Int) := by omega
            have hjE : j < E.length := by rw [← HN.out.2.2]; exact hjl
            have HBw : Hid (Below w.heap.size w wr) := HB6.out.trans (HBr.out.mono (by have := HsB.out; have := HPR.out; omega))
            obtain ⟨eb, eo, hea, heb, k0, k1⟩ := (HE.out.below HBw.out) j hjE
            rw [ptD_getD HSE.out.2.1 hjE] at k0 k1
            obtain ⟨bx, bY, HBx⟩ : ∃ bx bY, Hid (ptD (toN E) j = (bx, bY)) := ⟨_, _, rfl⟩
            rw [HBx.out] at k0 k1
            have hb8 := ptD_lt HSE.out.2.1 HSE.out.2.2.2.2.1 HSE.out.2.2.2.2.2 j
            rw [HBx.out] at hb8
            obtain ⟨C, HC⟩ : ∃ C, Hid (C = wr.heap.size) := ⟨_, rfl⟩
            obtain ⟨W7, HW7⟩ : ∃ W7, Hid (W7 = wr.alloc (.cells #[.int .i64 (bx : Int), .int .i64 (bY : Int)] 29)) := ⟨_, rfl⟩
            have hB7 : Below wr.heap.size wr W7 := by rw [HW7.out]; exact (Below.refl _ _).alloc (Nat.le_refl _) _
            have hC7 : W7.heap[C]? = some (.cells #[.int .i64 (bx : Int), .int .i64 (bY : Int)] 29 (0, 0)) := by rw [HW7.out, HC.out]; exact heap_alloc_last _ _
            have hA7 : W7.heap[A]? = some (.cells #[.int .i64 (ax : Int), .int .i64 (ay : Int)] 29 (0, 0)) := by
              have h1 := HBr.out.block A (by have := HsB.out; omega)
              have h2 := lt_of_some (h1.trans HA6.out)
              rw [hB7.block A h2, h1]; exact HA6.out
            have hP7 : W7.heap[P]? = some (.cells Y 42 (0, 0)) := by
              have h1 := HBr.out.block P (by have := HsB.out; omega)
              have h2 := lt_of_some (h1.trans HP6.out)
              rw [hB7.block P h2, h1]; exact HP6.out
            have hR6 : W6.heap[R]? = some (.cells (rgC sn fun q => if q = i then .slice (some ⟨B, 0, none⟩) sn sn else f q) 33 (0, 0)) := by
              rw [HW6.out, heap_setCell_same W5 R i _ _ _ HfR.out, rgC_set]
            have hR7 : W7.heap[R]? = some (.cells (rgC sn fun q => if q = i then .slice (some ⟨B, 0, none⟩) sn sn else f q) 33 (0, 0)) := by
              have h1 := HBr.out.block R (by have := HsB.out; omega)
              have h2 := lt_of_some (h1.trans hR6)
              rw [hB7.block R h2, h1]; exact hR6
            have hB7k : W7.heap[B]? = some (.cells (rgC sn (gI (brC o) (ax, ay) (toN E) j)) 2 (0, 0)) := by rw [hB7.block B (lt_of_some HBk.out)]; exact HBk.out
            have HR7 := hid_w hR7
            have HK7 := hid_w hB7k
            have HSd : Hid (∀ W : World, (∀ q, q < W7.heap.size → q ≠ B → W.heap[q]? = W7.heap[q]?) → W.cell? ⟨R, i, none⟩ = some (.slice (some ⟨B, 0, none⟩) sn sn) ∧ W.rangeAt P 0 Y.toList ∧ W.cell? ⟨A, 0, none⟩ = some (.int .i64 (ax : Int)) ∧ W.cell? ⟨A, 1, none⟩ = some (.int .i64 (ay : Int)) ∧ W.cell? ⟨C, 0, none⟩ = some (.int .i64 (bx : Int)) ∧ W.cell? ⟨C, 1, none⟩ = some (.int .i64 (bY : Int))) := fun W hW => by
              have h0 := HsB.out
              have hBC : B < C := by rw [HC.out]; exact lt_of_some HBk.out
              have r1 : W.heap[R]? = _ := (hW R (lt_of_some hR7) (by omega)).trans hR7
              have r2 : W.heap[P]? = _ := (hW P (lt_of_some hP7) (by omega)).trans hP7
              have r3 : W.heap[A]? = _ := (hW A (lt_of_some hA7) (by omega)).trans hA7
              have r4 : W.heap[C]? = _ := (hW C (lt_of_some hC7) (by omega)).trans hC7
              refine ⟨by rw [cell_of_row W R i _ _ _ r1, rgC_get _ _ _ hlt, if_pos rfl], fun k v hk => ?_, by rw [cell_of_row W A 0 _ _ _ r3]; rfl, by rw [cell_of_row W A 1 _ _ _ r3]; rfl, by rw [cell_of_row W C 0 _ _ _ r4]; rfl, by rw [cell_of_row W C 1 _ _ _ r4]; rfl⟩
              rw [cell_of_row W P _ _ _ _ r2, Nat.zero_add, ← hk, Array.getElem?_toList]
            have HYi : Hid ((Tryd.prog.info? 42).map (·.size) = some Y.toList.length) := by show _ = _; rw [infoM, Array.length_toList, HY6.out.1]
            have HSk : Hid (∀ W, Below W7.drew.heap.size W7.drew W → ∀ q, q < W7.heap.size → q ≠ B → W.heap[q]? = W7.heap[q]?) := fun W hW q hq _ => hW.block q hq
            obtain ⟨r, HRr⟩ : ∃ r, Hid (r = (nP (brC o) (ax, ay) (bx, bY) : Int)) := ⟨_, rfl⟩
            have HCc := hid_w (count_at (brC o) ax ay bx bY W7.drew HA8.out hb8 Y HYk.out r HRr.out)
            have HSw : Hid (∀ W, Below W7.drew.heap.size W7.drew W → (∃ u, W.cell? ⟨B, j, none⟩ = some u) ∧ W.frozen? ⟨B, j, none⟩ = false) := fun W hW => by
              have h2 : W.heap[B]? = _ := (hW.block B (lt_of_some HK7.out)).trans HK7.out
              exact ⟨⟨_, by rw [cell_of_row W B j _ _ _ h2, rgC_get _ _ _ hjl]⟩, frozen_of_row W B j _ _ h2⟩
            have HB7 : Hid (Below B W6 W7.drew) := HBr.out.trans (below_drewN (hB7.mono (by have := HBr.out.size; have := lt_of_some HBk.out; omega)) 1)
            subst hea
            clear hB7 hC7 hA7 hP7 hR6 hR7 hB7k hb8
            go_upto_region 12 with fail
            rw [← HW7.out, ← HC.out]
            clear k0 k1
            refine wp_region_held_drew (S := fun W => ∀ q, q < W7.heap.size → q ≠ B → W.heap[q]? = W7.heap[q]?) (by kernel_rfl) (fun q _ _ => rfl) (fun hHeld => ?_)
            refine wpAnyH_take (i := 0) (v := .slice (some ⟨R, 0, none⟩) sn sn) rfl (by kernel_rfl) (by kernel_rfl) (by kernel_rfl) (fun _ _ _ h => h) (Or.inl ⟨by rfl, fun W h => by first | (go_simp; done) | (go_simp; with_reducible rfl)⟩) hHeld ?_
            simp only [Act.put, List.setIfInBounds_toArray]
            refine wpAnyH_take (i := 1) (v := .int .i64 (i : Int)) rfl (by kernel_rfl) (by kernel_rfl) (by kernel_rfl) (fun _ _ _ h => h) (Or.inl ⟨by rfl, fun W h => by first | (go_simp; done) | (go_simp; with_reducible rfl)⟩) hHeld ?_
            simp only [Act.put]
            refine wpAnyH_take (i := 2) (v := .pointer (some ⟨R, i, none⟩)) rfl (by kernel_rfl) (by kernel_rfl) (by kernel_rfl) (fun _ _ _ h => h) (Or.inl ⟨by rfl, fun W h => by first | (go_simp; done) | (go_simp; with_reducible rfl)⟩) hHeld ?_
            simp only [Act.put]
            refine wpAnyH_take (i := 3) (v := .slice (some ⟨B, 0, none⟩) sn sn) rfl (by kernel_rfl) (by kernel_rfl) (by kernel_rfl) (fun _ _ _ h => h) (Or.inl ⟨by rfl, fun W h => by obtain ⟨e1, -, e2, e3, e4, e5⟩ := HSd.out W h; first | (go_simp; done) | (go_simp; with_reducible rfl)⟩) hHeld ?_
            simp only [Act.put]
            refine wpAnyH_take (i := 4) (v := .int .i64 (j : Int)) rfl (by kernel_rfl) (by kernel_rfl) (by kernel_rfl) (fun _ _ _ h => h) (Or.inl ⟨by rfl, fun W h => by first | (go_simp; done) | (go_simp; with_reducible rfl)⟩) hHeld ?_
            simp only [Act.put]
            refine wpAnyH_take (i := 5) (v := .agg Y.toList.toArray) rfl (by kernel_rfl) (by kernel_rfl) (by kernel_rfl) (fun _ _ _ h => h) (yieldsIf_load_mid (by rfl) 42 (.tmp 8) rfl P 0 rfl Y.toList _ (fun W h => (HSd.out W h).2.1) Tryd.underlying42 rfl HYi.out) hHeld ?_
            simp only [Act.put]
            refine wpAnyH_take (i := 6) (v := .agg #[.int .i64 (ax : Int), .int .i64 (ay : Int)]) rfl (by kernel_rfl) (by kernel_rfl) (by kernel_rfl) (fun _ _ _ h => h) (Or.inl ⟨by rfl, fun W h => by obtain ⟨e1, -, e2, e3, e4, e5⟩ := HSd.out W h; first | (go_simp; done) | (go_simp; with_reducible rfl)⟩) hHeld ?_
            simp only [Act.put]
            refine wpAnyH_take (i := 7) (v := .agg #[.int .i64 (bx : Int), .int .i64 (bY : Int)]) rfl (by kernel_rfl) (by kernel_rfl) (by kernel_rfl) (fun _ _ _ h => h) (Or.inl ⟨by rfl, fun W h => by obtain ⟨e1, -, e2, e3, e4, e5⟩ := HSd.out W h; first | (go_simp; done) | (go_simp; with_reducible rfl)⟩) hHeld ?_
            simp only [Act.put]
            have eY : Y.toList.toArray = Y := Array.toArray_toList
            rw [eY]
            refine wpAnyH_ready (rs := [8]) (by kernel_rfl) (by simp) ?_
            refine AllReadyH.cons rfl (fun K hK => ?_) AllReadyH.nil
            go_simp
            go_at_call 11
            refine HCc.out.mono ?_
            rintro e W8 ⟨rfl, HB8⟩
            go_wp2_with fail
            refine hK.out _ _ (HSk.out W8 HB8.out) (fun hHeld2 => ?_)
            clear hK K hHeld
            refine wpAnyH_take (i := 9) (v := .pointer (some ⟨B, j, none⟩)) rfl (by kernel_rfl) (by kernel_rfl) (by kernel_rfl) (fun _ _ _ h => h) (Or.inl ⟨by rfl, fun W h => by first | (go_simp; done) | (go_simp; with_reducible rfl)⟩) hHeld2 ?_
            simp only [Act.put]
            obtain ⟨cu, hcu⟩ := (HSw.out W8 HB8.out).1
            have hfu := (HSw.out W8 HB8.out).2
            refine wpAnyH_ready (rs := [10]) (by kernel_rfl) (by simp) ?_
            refine AllReadyH.cons rfl (fun K hK => ?_) AllReadyH.nil
            go_simp
            refine hK.out _ _ (fun q hq hqb => ?_) (fun hHeld3 => ?_)
            · rw [heap_setCell_other _ _ _ _ hqb]; exact hHeld2 q hq hqb
            clear hK K hHeld2
            refine wpAnyH_done (by kernel_rfl) ?_ _
            have HBk9 : Hid ((W8.setCell ⟨B, j, none⟩ (.int .i64 r)).heap[B]? = some (.cells (rgC sn (gI (brC o) (ax, ay) (toN E) (j + 1))) 2 (0, 0))) := by
              show _ = _
              have h2 : W8.heap[B]? = _ := (HB8.out.block B (lt_of_some HK7.out)).trans HK7.out
              rw [heap_setCell_same _ B j _ 2 _ h2, rgC_set]
              congr 3
              funext k
              unfold gI
              by_cases e : k = j
              · rw [if_pos e, if_pos (by omega), e, HBx.out, HRr.out]
              · rw [if_neg e]
                by_cases e2 : k < j
                · rw [if_pos e2, if_pos (by omega)]
                · rw [if_neg e2, if_neg (by omega)]
            have HB9 : Hid (Below B W6 (W8.setCell ⟨B, j, none⟩ (.int .i64 r))) := (HB7.out.trans (HB8.out.mono (by have := HB7.out.size; have h2 := lt_of_some HK7.out; show B ≤ W7.heap.size; omega))).setCell (p := ⟨B, j, none⟩) (Nat.le_refl _) _
            go_wp2
            go_roundw
            case rel => exact ⟨j + 1, by omega, by go_num, HBk9, HB9⟩
            case measure => simp [intOf]; omega
          · have hjl' : ¬ (j : Int) < (sn : Int) := by omega
            obtain rfl : j = sn := by omega
            have h0 := HsB.out
            have hsz := HBr.out.size
            have hBl := lt_of_some HBk.out
            have hR9 : wr.heap[R]? = some (.cells (rgC j fun q => if q = i then .slice (some ⟨B, 0, none⟩) j j else f q) 33 (0, 0)) := by
              rw [HBr.out.block R (by omega), HW6.out, heap_setCell_same W5 R i _ _ _ HfR.out, rgC_set]
            have e1 : (toN S).length = j := by rw [toN, List.length_map, ← HN.out.2.1]
            have e2 : (toN E).length = j := by rw [toN, List.length_map, ← HN.out.2.2]
            have HL9 : Hid (LfB wr R j j (i + 1) ls) := by
              refine ⟨_, hR9, fun q hq => ?_⟩
              by_cases e : q = i
              · subst e
                simp only [if_true]
                have er : ls.getD q [] = (toN E).map fun e => (nP (brC o) (ax, ay) e : Int) := by rw [HLs.out, mt_row _ _ _ (by omega), HAx.out]
                rw [er]
                refine ⟨by rw [List.length_map, e2], B, j, rfl, Nat.le_refl _, by omega, hBl, fun k hk => ?_⟩
                rw [cell_of_row wr B k _ _ _ HBk.out, rgC_get _ _ _ hk, mt_at _ _ _ (by omega)]
                unfold gI
                rw [if_pos hk]
              · simp only [if_neg e]
                have h := HfRw.out q (by omega)
                obtain ⟨g1, b', c', g2, g3, g4, g5, g6⟩ := h
                have hbA : b' < A := by rw [HA.out]; exact g5
                have hwb : wr.heap[b']? = _ := (HBr.out.block b' (by omega)).trans (HO6.out b' hbA (by omega))
                refine ⟨g1, b', c', g2, g3, g4, by omega, fun k hk => ?_⟩
                rw [← g6 k hk]
                simp only [World.cell?]
                rw [hwb]
            have HP9 : Hid (wr.heap[P]? = some (.cells Y 42 (0, 0))) := by
              show _ = _
              rw [HBr.out.block P (by omega)]; exact HP6.out
            have HB9 : Hid (Below w.heap.size w wr) := HB6.out.trans (HBr.out.mono (by have := HPR.out; omega))
            clear h0 hsz hBl hR9 e1 e2
            go_wp2_with fail
            go_roundw
            case rel => exact ⟨i + 1, by omega, by go_num, HL9, HP9, HB9⟩
            case measure => simp [intOf]; omega
      · obtain rfl : i = sn := by omega
        have hlt' : ¬ (i : Int) < (i : Int) := by omega
        have hsq : Sqr i i ls := by
          have h := mt_sqr (cl := brC o) (S := toN S) (E := toN E) (fun e he => by
            obtain ⟨k, hk, rfl⟩ := List.mem_iff_getElem.1 he
            have h := ptD_lt HSE.out.2.1 HSE.out.2.2.2.2.1 HSE.out.2.2.2.2.2 k
            simpa [ptD, List.getD, List.getElem?_eq_getElem hk] using h)
          have e1 : (toN S).length = i := by rw [toN, List.length_map, ← HN.out.2.1]
          have e2 : (toN E).length = i := by rw [toN, List.length_map, ← HN.out.2.2]
          rw [e1, e2, ← HLs.out] at h
          exact h
        obtain ⟨dd, HDd⟩ : ∃ dd, Hid (dd = dtN i ls) := ⟨_, rfl⟩
        have hbd := dtN_bd i ls hsq
        have hbn := bnN_le hs4
        rw [← HDd.out] at hbd
        have HCd := hid_w (det_at i hs4 (some ⟨R, 0, none⟩) i ls wr (HL.out.table hsq.1) hsq (Nat.le_refl _) dd HDd.out)
        have HTd : Hid (t = F dd) := by show _ = _; rw [HTf.out, HDd.out, HLs.out]
        have HCf : Hid (∀ W, Below w.heap.size w W → Calls Tryd.prog 8 #[.int .i64 dd, .int .i64 10] W fun e w' => e = .returned (.string t) ∧ Below W.heap.size W w') := fun W hW => by
          rw [HTd.out]; exact HFm.out dd W (by omega) (by omega) hW
        clear hbd hbn hsq
        go_wp2_with (first
          | (go_at_call 13; refine HCd.out.mono ?_; rintro e W8 ⟨rfl, HB8⟩; have HB8w : Hid (Below w.heap.size w W8) := HB.out.trans (HB8.out.mono HB.out.size))
          | (go_at_call 8; refine (HCf.out _ HB8w.out).mono ?_; rintro e W9 ⟨rfl, hB9⟩; have HB9 : Hid (Below w.heap.size w W9) := HB8w.out.trans (hB9.mono HB8w.out.size); clear hB9))
        go_ret2
        exact ⟨rfl, HB9⟩
  · have ht0 : t = ⟨#[]⟩ := by rw [HTt.out, if_neg hx0]
    subst ht0
    have hx' : (x == 0) = false := by simpa using hx0
    go_wp2_with fail
    go_ret2
    exact ⟨rfl, HB2⟩
end Go.Proofs.YtapchcamjeafmaaDoor
