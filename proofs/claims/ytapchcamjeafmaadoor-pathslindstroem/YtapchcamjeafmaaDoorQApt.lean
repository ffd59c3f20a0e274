/-
  paths.Apart.
-/
import Derived.Test.YtapchcamjeafmaaDoorQWay
import Derived.Test.YtapchcamjeafmaaDoorQFmb
import Derived.Test.YtapchcamjeafmaaDoorQRgc
import Derived.Laws.EntriesVeiled
namespace Go.Proofs.YtapchcamjeafmaaDoor
open Go.RowKit

def toN (ps : List (Int × Int)) : List (Nat × Nat) := ps.map fun p => (p.1.toNat, p.2.toNat)
def runA (cl : Nat → Bool) (S E : List (Nat × Nat)) : Bool × Nat × Nat := if S.length = 0 then (true, 0, 1) else goF S E fndN 64 0 (ptD S 0) cl (List.replicate S.length []) 0 0
def wayE (zs : List Int) (E : List (Int × Int)) : List (Nat × Nat) := zs.map fun z => ptD (toN E) z.toNat
/-- What Apart says: an error, or how many. -/
def aptE (x : Int) (cl : Nat → Bool) (S E : List (Int × Int)) (zs : List Int) : Int :=
  if x ≠ 0 then x else if zs.length ≠ S.length then 3 else if wyF zs.length (fun _ => false) zs = false then 1 else if 1000000 < (runA cl (toN S) (wayE zs E)).2.1 then 2 else 0
def aptN (x : Int) (cl : Nat → Bool) (S E : List (Int × Int)) (zs : List Int) : Int := if aptE x cl S E zs = 0 then ((runA cl (toN S) (wayE zs E)).2.2 : Int) else 0

theorem chk_ok {gw gh : Int} {bs : List (Int × Int)} {S E : List (Int × Int)} (h : 0 = chkE gw gh (brO gw gh bs) S E) : S.all (inG gw gh) = true ∧ E.all (inG gw gh) = true ∧ S.length = E.length ∧ S.length ≤ 4 ∧ gw ≤ 8 ∧ gh ≤ 8 := by
  unfold chkE at h
  by_cases h1 : (brO gw gh bs).isNone = true
  · rw [if_pos h1] at h; omega
  rw [if_neg h1] at h
  by_cases h2 : S.all (inG gw gh) = false
  · rw [if_pos h2] at h; omega
  rw [if_neg h2] at h
  by_cases h3 : E.all (inG gw gh) = false
  · rw [if_pos h3] at h; omega
  rw [if_neg h3] at h
  by_cases h4 : S.length ≠ E.length
  · rw [if_pos h4] at h; omega
  rw [if_neg h4] at h
  by_cases h5 : 4 < S.length
  · rw [if_pos h5] at h; omega
  have hb : badD gw gh = false := by
    cases hb : badD gw gh with
    | false => rfl
    | true => exact absurd (by unfold brO; rw [if_pos hb]; rfl) h1
  unfold badD at hb
  simp only [Bool.or_eq_false_iff, decide_eq_false_iff_not] at hb
  exact ⟨by simpa using h2, by simpa using h3, by simpa using h4, by omega, by omega, by omega⟩
theorem infoPt : (Tryd.prog.info? 29).map (fun i => (i.zero, i.size, i.bytes)) = some (some (.agg #[.int .i64 0, .int .i64 0]), 2, 16) := by kernel_rfl
theorem make_pts (n : Nat) (hn : n ≤ 4) (W : World) : (Instr.makeSlice 22 (.int .i64 (n : Int)) (.int .i64 (n : Int))).run Tryd.prog W = .ok (.slice (some ⟨W.heap.size, 0, none⟩) n n) (W.alloc (.cells (rgC (n * 2) fun _ => .int .i64 0) 29)) := by
  obtain ⟨i, hi, hzz⟩ := Option.map_eq_some_iff.1 infoPt
  simp only [Prod.mk.injEq] at hzz
  obtain ⟨hz, hs, hb⟩ := hzz
  have h := run_make (P := Tryd.prog) W 22 29 i _ Tryd.underlying22 hi hz .i64 .i64 (n : Int) (n : Int) (by omega) (Int.le_refl _) (by rw [hb]; omega) (by omega)
  rw [h, hs, Int.toNat_natCast]
  have e : madeCells (Value.agg #[.int .i64 0, .int .i64 0]).cells (n * 2) = rgC (n * 2) fun _ => .int .i64 0 := by
    apply Array.ext_getElem?
    intro k
    by_cases hk : k < n * 2
    · rw [rgC_get _ _ _ hk]
      have e2 : (Value.agg #[.int .i64 0, .int .i64 0]).cells = #[.int .i64 0, .int .i64 0] := rfl
      rw [e2]
      simp only [madeCells, Array.getElem?_map, Array.getElem?_range, hk, if_true, Option.map_some]
      rcases Nat.mod_two_eq_zero_or_one k with q | q
      · show some (#[Value.int .i64 0, .int .i64 0][k % 2]!) = _
        rw [q]; rfl
      · show some (#[Value.int .i64 0, .int .i64 0][k % 2]!) = _
        rw [q]; rfl
    · rw [Array.getElem?_eq_none (by rw [size_madeCells]; omega), Array.getElem?_eq_none (by simp [rgC]; omega)]
  rw [e]
/-- Points of the grid, read as such. -/
theorem PtI.psh {w0 w : World} {a : Option Addr} {ps : List (Int × Int)} (h : PtI w0 a ps) (hb : Below w0.heap.size w0 w) (gw gh : Int) (hg : ps.all (inG gw gh) = true) {Fx : Nat → Prop} (hF : ∀ q, q < w0.heap.size → Fx q) (c n : Nat) (hn : n = ps.length) (hc : n ≤ c) : PSh w Fx (.slice a n c) (toN ps) := by
  have hl : (toN ps).length = ps.length := by simp [toN]
  refine ⟨a, c, by rw [hl, hn], by omega, fun j hj => ?_⟩
  rw [hl] at hj
  obtain ⟨b, off, h1, h2, h3, h4⟩ := h j hj
  have e : ptD (toN ps) j = ((ps.getD j (0, 0)).1.toNat, (ps.getD j (0, 0)).2.toNat) := by
    simp [ptD, toN, List.getD, List.getElem?_map, List.getElem?_eq_getElem hj]
  have hm : ps.getD j (0, 0) ∈ ps := by simp [List.getD, List.getElem?_eq_getElem hj]
  have hin := (List.all_eq_true.1 hg) _ hm
  unfold inG at hin
  simp only [Bool.and_eq_true, decide_eq_true_eq] at hin
  refine ⟨b, off, h1, hF b h2, ?_, ?_⟩
  · rw [hb.cell (p := ⟨b, off + j * 2, none⟩) h2, h3, e, Int.toNat_of_nonneg (by omega)]
  · rw [hb.cell (p := ⟨b, off + j * 2 + 1, none⟩) h2, h4, e, Int.toNat_of_nonneg (by omega)]
theorem ptD_lt {ps : List (Int × Int)} {gw gh : Int} (hg : ps.all (inG gw gh) = true) (hw : gw ≤ 8) (hh : gh ≤ 8) (i : Nat) : (ptD (toN ps) i).1 < 8 ∧ (ptD (toN ps) i).2 < 8 := by
  by_cases hi : i < ps.length
  · have hm : ps.getD i (0, 0) ∈ ps := by simp [List.getD, List.getElem?_eq_getElem hi]
    have hin := (List.all_eq_true.1 hg) _ hm
    unfold inG at hin
    simp only [Bool.and_eq_true, decide_eq_true_eq] at hin
    have e : ptD (toN ps) i = ((ps.getD i (0, 0)).1.toNat, (ps.getD i (0, 0)).2.toNat) := by
      simp [ptD, toN, List.getD, List.getElem?_map, List.getElem?_eq_getElem hi]
    rw [e]
    constructor
    · show (ps.getD i (0, 0)).1.toNat < 8; omega
    · show (ps.getD i (0, 0)).2.toNat < 8; omega
  · have e : ptD (toN ps) i = (0, 0) := by
      simp [ptD, toN, List.getD, List.getElem?_eq_none (Nat.le_of_not_lt hi)]
    rw [e]; exact ⟨by decide, by decide⟩
theorem wy_lt : ∀ (zs : List Int) (n : Nat) (u : Nat → Bool), wyF n u zs = true → ∀ z ∈ zs, 0 ≤ z ∧ z < (n : Int)
  | [], _, _, _, z, hz => by cases hz
  | y :: r, n, u, h, z, hz => by
    rw [wyF] at h
    by_cases hc : 0 ≤ y ∧ y < (n : Int) ∧ u y.toNat = false
    · rw [if_pos hc] at h
      rcases List.mem_cons.1 hz with e | e
      · subst e; exact ⟨hc.1, hc.2.1⟩
      · exact wy_lt r n _ h z e
    · rw [if_neg hc] at h; cases h

set_option maxHeartbeats 8000000 in
set_option maxRecDepth 100000 in
theorem Apart_at (gw gh : Int) (ba sa ea za : Option Addr) (n c sn sc en ec zn zc : Nat) (bs S E : List (Int × Int)) (zs : List Int) (w : World) (hn : n = bs.length) (hl : n ≤ 17592186044416) (hsn : sn = S.length) (hsl : sn ≤ 17592186044416) (hsc : sn ≤ sc) (hen : en = E.length) (hel : en ≤ 17592186044416) (hzn : zn = zs.length) (hzl : zn ≤ 17592186044416) (hP : PtI w ba bs) (hS : PtI w sa S) (hE : PtI w ea E) (hZ : Shows w za zs) (o : Option (Nat → Bool)) (ho : o = brO gw gh bs) (x : Int) (hx : x = chkE gw gh o S E) (k y : Int) (hk : k = aptN x (brC o) S E zs) (hy : y = aptE x (brC o) S E zs) :
    Calls Tryd.prog 7 #[gridV gw gh (.slice ba n c), .slice sa sn sc, .slice ea en ec, .slice za zn zc] w fun e w' => e = .returned (.tuple #[.int .i64 k, .int .i64 y]) ∧ Hid (Below w.heap.size w w') := by
  have HN := hid_w (And.intro hn (And.intro hsn (And.intro hen hzn)))
  have HP : Hid (PtI w ba bs) := hP
  have HS : Hid (PtI w sa S) := hS
  have HE : Hid (PtI w ea E) := hE
  have HZs : Hid (Shows w za zs) := hZ
  have HX : Hid (x = chkE gw gh o S E) := hx
  have HK : Hid (k = aptN x (brC o) S E zs) := hk
  have HYe : Hid (y = aptE x (brC o) S E zs) := hy
  obtain ⟨Z, HZ⟩ : ∃ Z, Hid (Z = mkC fun _ => false) := ⟨_, rfl⟩
  have hz : ∀ W : World, (zeroValue 42).run Tryd.prog W = .ok (.agg Z) W := fun W => by rw [HZ.out]; exact (zero_of_info zeroM).1 W
  have HZ6 : Hid (C64 Z) := by rw [HZ.out]; exact mkC_64 _
  obtain ⟨Y, HY⟩ : ∃ Y, Hid (Y = mkC (chkM gw gh o S E)) := ⟨_, rfl⟩
  have HY6 : Hid (C64 Y) := by rw [HY.out]; exact mkC_64 _
  unfold gridV
  obtain ⟨Q, HQ⟩ : ∃ Q, Hid (Q = w.heap.size) := ⟨_, rfl⟩
  obtain ⟨W0, HW0⟩ : ∃ W0, Hid (W0 = w.alloc (.cells #[.int .i64 gw, .int .i64 gh, .slice ba n c] 24)) := ⟨_, rfl⟩
  have HB0 : Hid (Below w.heap.size w W0) := by rw [HW0.out]; exact (Below.refl _ _).alloc (Nat.le_refl _) _
  have HQb : Hid (W0.heap[Q]? = some (.cells #[.int .i64 gw, .int .i64 gh, .slice ba n c] 24 (0, 0))) := by
    show _ = _
    rw [HW0.out, HQ.out]; exact heap_alloc_last _ _
  have q0 : W0.cell? ⟨Q, 0, none⟩ = some (.int .i64 gw) := by rw [cell_of_row W0 Q 0 _ _ _ HQb.out]; rfl
  have q1 : W0.cell? ⟨Q, 1, none⟩ = some (.int .i64 gh) := by rw [cell_of_row W0 Q 1 _ _ _ HQb.out]; rfl
  have q2 : W0.cell? ⟨Q, 2, none⟩ = some (.slice ba n c) := by rw [cell_of_row W0 Q 2 _ _ _ HQb.out]; rfl
  have HC1 : Hid (Calls Tryd.prog 12 #[.agg #[.int .i64 gw, .int .i64 gh, .slice ba n c], .slice sa sn sc, .slice ea en ec] W0 fun e w' => e = .returned (.tuple #[.agg Y, .int .i64 x]) ∧ Hid (Below W0.heap.size W0 w')) :=
    checked_at gw gh ba sa ea n c sn sc en ec bs S E W0 hn hl hsn hsl hen hel (HP.out.below HB0.out) (HS.out.below HB0.out) (HE.out.below HB0.out) o ho x Y hx HY.out
  have HO : Hid (o = brO gw gh bs) := ho
  clear hP hS hE hn hsn hen hzn hx hk hy hZ ho
  go_enter Tryd.func7, Tryd.ntmps7
  go_upto_region 1 with fail
  rw [← HQ.out, ← HW0.out]
  go_upto_region 2 with (first | (go_at_call 12; with_reducible (refine HC1.out.mono ?_); rintro e W1 ⟨rfl, HB1⟩) | (refine wpList_store64 rfl (.tmp 10) (.tmp 21) rfl _ Y Z rfl rfl (heap_alloc_last _ _) HY6.out HZ6.out ?_))
  obtain ⟨P, HPq⟩ : ∃ P, Hid (P = W1.heap.size) := ⟨_, rfl⟩
  obtain ⟨W2, HW2⟩ : ∃ W2, Hid (W2 = (W1.alloc (.cells Z 42)).setRow W1.heap.size Y) := ⟨_, rfl⟩
  rw [← HW2.out, ← HPq.out]
  have hB2 : Below W0.heap.size W0 W2 := by
    rw [HW2.out]; exact below_setRow (HB1.out.alloc HB1.out.size _) _ HB1.out.size _
  have HB2 : Hid (Below w.heap.size w W2) := HB0.out.trans (hB2.mono HB0.out.size)
  have HP2 : Hid (W2.heap[P]? = some (.cells Y 42 (0, 0))) := by
    show _ = _
    rw [HW2.out, HPq.out]; exact setRow_heap _ _ _ _ _ _ (heap_alloc_last _ _)
  clear q0 q1 q2 hB2 HC1
  by_cases hx0 : x = 0
  · subst hx0
    have HX0 : Hid (0 = chkE gw gh o S E) := HX
    have HYk : Hid (Y = mkC (brC o)) := by show _ = _; rw [HY.out]; unfold chkM; rw [← HX0.out, if_pos rfl]
    have HSE : Hid (S.all (inG gw gh) = true ∧ E.all (inG gw gh) = true ∧ sn = en ∧ sn ≤ 4 ∧ gw ≤ 8 ∧ gh ≤ 8) := by
      have h := HX0.out
      rw [HO.out] at h
      have h2 := chk_ok h
      have h3 := HN.out
      exact ⟨h2.1, h2.2.1, by omega, by omega, h2.2.2.2.2⟩
    by_cases hlz : zn = sn
    · subst hlz
      have hz4 : zn ≤ 4 := HSE.out.2.2.2.1
      obtain ⟨B, HB⟩ : ∃ B, Hid (wyF zn (fun _ => false) zs = B) := ⟨_, rfl⟩
      have HYe2 : Hid (y = if B = false then 1 else if 1000000 < (runA (brC o) (toN S) (wayE zs E)).2.1 then 2 else 0) := by
        show _ = _
        rw [HYe.out]; unfold aptE
        rw [if_neg (by simp), if_neg (by rw [← HN.out.2.2.2, ← HN.out.2.1]; simp), ← HB.out, ← HN.out.2.2.2]
      have HCw : Hid (Calls Tryd.prog 16 #[.slice za zn zc] W2 fun e w' => e = .returned (.bool B) ∧ Hid (Below W2.heap.size W2 w')) := isWay_at za zn zc zs W2 HN.out.2.2.2 hz4 (HZs.out.below HB2.out) B HB.out
      go_upto_region 6 with fail
      go_upto_if 33 with (first | (go_at_call 16; with_reducible (refine HCw.out.mono ?_); rintro e W3 ⟨rfl, HB3⟩))
      have HB3w : Hid (Below w.heap.size w W3) := HB2.out.trans (HB3.out.mono HB2.out.size)
      have HP3 : Hid (W3.heap[P]? = some (.cells Y 42 (0, 0))) := by show _ = _; rw [HB3.out.block P (lt_of_some HP2.out)]; exact HP2.out
      clear HCw
      cases B with
      | false =>
        have hy1 : y = 1 := by rw [HYe2.out, if_pos rfl]
        have hk0 : k = 0 := by rw [HK.out]; unfold aptN; rw [← HYe.out, hy1, if_neg (by omega)]
        subst hy1 hk0
        go_wp2_with fail
        go_ret2
        exact ⟨rfl, HB3w⟩
      | true =>
        have hmk := make_pts zn hz4
        obtain ⟨T, HT⟩ : ∃ T, Hid (T = W3.heap.size) := ⟨_, rfl⟩
        obtain ⟨W4, HW4⟩ : ∃ W4, Hid (W4 = W3.alloc (.cells (rgC (zn * 2) fun _ => .int .i64 0) 29)) := ⟨_, rfl⟩
        have hB4 : Below W3.heap.size W3 W4 := by rw [HW4.out]; exact (Below.refl _ _).alloc (Nat.le_refl _) _
        have HB4 : Hid (Below w.heap.size w W4) := HB3w.out.trans (hB4.mono HB3w.out.size)
        have HT4 : Hid (W4.heap[T]? = some (.cells (rgC (zn * 2) fun _ => .int .i64 0) 29 (0, 0))) := by show _ = _; rw [HW4.out, HT.out]; exact heap_alloc_last _ _
        have HP4 : Hid (W4.heap[P]? = some (.cells Y 42 (0, 0))) := by show _ = _; rw [hB4.block P (lt_of_some HP3.out)]; exact HP3.out
        have HTw : Hid (w.heap.size ≤ T) := by show _ ≤ _; rw [HT.out]; exact HB3w.out.size
        have HTP : Hid (P < T) := by show _ < _; rw [HT.out]; exact lt_of_some HP3.out
        clear hB4
        go_upto_region 9 with fail
        rw [← HW4.out, ← HT.out]
        clear hmk
        go_wp2_with fail
        have HWl : Hid (∀ z ∈ zs, 0 ≤ z ∧ z < (zn : Int)) := wy_lt zs zn _ HB.out
        have HRl : Hid ((wayE zs E).length = zn) := by show _ = _; rw [wayE, List.length_map, ← HN.out.2.2.2]
        have HRd : Hid (∀ j, j < zs.length → ptD (wayE zs E) j = ptD (toN E) (zs.getD j 0).toNat) := fun j hj => by
          simp [ptD, wayE, List.getD, List.getElem?_map, List.getElem?_eq_getElem hj]
        go_loopw [39] (fun iv wr => ∃ (i : Nat) (f : Nat → Value), i ≤ zn ∧ iv = .int .i64 (i : Int) ∧ Hid (wr.heap[T]? = some (.cells (rgC (zn * 2) f) 29 (0, 0))) ∧ Hid (∀ j, j < i → f (j * 2) = .int .i64 ((ptD (wayE zs E) j).1 : Int) ∧ f (j * 2 + 1) = .int .i64 ((ptD (wayE zs E) j).2 : Int)) ∧ Hid (wr.heap[P]? = some (.cells Y 42 (0, 0))) ∧ Hid (Below w.heap.size w wr)) (fun iv _ => zn - (intOf iv).toNat)
        case atStart => exact ⟨0, _, Nat.zero_le _, rfl, HT4, fun j hj => absurd hj (by omega), HP4, HB4⟩
        case round =>
          clear HT4 HP4 HB4
          obtain ⟨i, f, hi, rfl, HTr, HF, HPr, HBr⟩ := hrel
          by_cases hlt : i < zn
          · have hlt' : (i : Int) < (zn : Int) := by omega
            have hiz : i < zs.length := by rw [← HN.out.2.2.2]; exact hlt
            obtain ⟨b, off, z, ha, HZi, z1, z2, k0⟩ := (HZs.out.below HBr.out).elem hiz
            subst ha
            have hzm : z ∈ zs := by rw [HZi.out]; simp [List.getD, List.getElem?_eq_getElem hiz]
            have hzb := HWl.out z hzm
            obtain ⟨m, hm⟩ : ∃ m : Nat, z = (m : Int) := ⟨z.toNat, by omega⟩
            subst hm
            have hmn : m < zn := by omega
            have hme : m < en := by rw [← HSE.out.2.2.1]; exact hmn
            have hmE : m < E.length := by rw [← HN.out.2.2.1]; exact hme
            obtain ⟨eb, eo, he1, he2, e0, e1⟩ := (HE.out.below HBr.out) m hmE
            subst he1
            obtain ⟨px, py, HPx⟩ : ∃ px py, Hid (E.getD m (0, 0) = (px, py)) := ⟨_, _, rfl⟩
            rw [HPx.out] at e0 e1
            have hinE : 0 ≤ px ∧ 0 ≤ py := by
              have hmm : E.getD m (0, 0) ∈ E := by simp [List.getD, List.getElem?_eq_getElem hmE]
              have hin := (List.all_eq_true.1 HSE.out.2.1) _ hmm
              rw [HPx.out] at hin
              unfold inG at hin
              simp only [Bool.and_eq_true, decide_eq_true_eq] at hin
              exact ⟨hin.1.1.1, hin.1.2⟩
            have HPt : Hid (ptD (wayE zs E) i = (px.toNat, py.toNat)) := by
              show _ = _
              rw [HRd.out i hiz, ← HZi.out, Int.toNat_natCast]
              have e : ptD (toN E) m = ((E.getD m (0, 0)).1.toNat, (E.getD m (0, 0)).2.toNat) := by
                simp [ptD, toN, List.getD, List.getElem?_map, List.getElem?_eq_getElem hmE]
              rw [e, HPx.out]
            have t0 : wr.cell? ⟨T, i * 2, none⟩ = some (f (i * 2)) := by rw [cell_of_row wr T _ _ _ _ HTr.out, rgC_get _ _ _ (by omega)]
            have t1 : wr.cell? ⟨T, i * 2 + 1, none⟩ = some (f (i * 2 + 1)) := by rw [cell_of_row wr T _ _ _ _ HTr.out, rgC_get _ _ _ (by omega)]
            have f0 : wr.frozen? ⟨T, i * 2, none⟩ = false := frozen_of_row wr T _ _ _ HTr.out
            have f1 : wr.frozen? ⟨T, i * 2 + 1, none⟩ = false := frozen_of_row wr T _ _ _ HTr.out
            obtain ⟨W5, HW5⟩ : ∃ W5, Hid (W5 = (wr.setCell ⟨T, i * 2, none⟩ (.int .i64 px)).setCell ⟨T, i * 2 + 1, none⟩ (.int .i64 py)) := ⟨_, rfl⟩
            have HT5 : Hid (W5.heap[T]? = some (.cells (rgC (zn * 2) fun k => if k = i * 2 + 1 then .int .i64 py else if k = i * 2 then .int .i64 px else f k) 29 (0, 0))) := by
              show _ = _
              rw [HW5.out, heap_setCell_same _ T _ _ 29 _ (heap_setCell_same wr T _ _ 29 _ HTr.out), rgC_set, rgC_set]
            have HF5 : Hid (∀ j, j < i + 1 → (fun k => if k = i * 2 + 1 then Value.int .i64 py else if k = i * 2 then .int .i64 px else f k) (j * 2) = .int .i64 ((ptD (wayE zs E) j).1 : Int) ∧ (fun k => if k = i * 2 + 1 then Value.int .i64 py else if k = i * 2 then .int .i64 px else f k) (j * 2 + 1) = .int .i64 ((ptD (wayE zs E) j).2 : Int)) := fun j hj => by
              by_cases e : j = i
              · subst e
                rw [HPt.out]
                refine ⟨?_, ?_⟩
                · show (if j * 2 = j * 2 + 1 then _ else if j * 2 = j * 2 then _ else _) = _
                  rw [if_neg (by omega), if_pos rfl]
                  show _ = Value.int .i64 ((px.toNat : Nat) : Int)
                  rw [Int.toNat_of_nonneg hinE.1]
                · show (if j * 2 + 1 = j * 2 + 1 then _ else _) = _
                  rw [if_pos rfl]
                  show _ = Value.int .i64 ((py.toNat : Nat) : Int)
                  rw [Int.toNat_of_nonneg hinE.2]
              · have h := HF.out j (by omega)
                refine ⟨?_, ?_⟩
                · show (if j * 2 = i * 2 + 1 then _ else if j * 2 = i * 2 then _ else _) = _
                  rw [if_neg (by omega), if_neg (by omega)]; exact h.1
                · show (if j * 2 + 1 = i * 2 + 1 then _ else if j * 2 + 1 = i * 2 then _ else _) = _
                  rw [if_neg (by omega), if_neg (by omega)]; exact h.2
            have HP5 : Hid (W5.heap[P]? = some (.cells Y 42 (0, 0))) := by
              show _ = _
              have := HTP.out
              rw [HW5.out, heap_setCell_other _ _ _ _ (by show P ≠ T; omega), heap_setCell_other _ _ _ _ (by show P ≠ T; omega)]; exact HPr.out
            have HB5 : Hid (Below w.heap.size w W5) := by rw [HW5.out]; exact (HBr.out.setCell (p := ⟨T, i * 2, none⟩) HTw.out _).setCell (p := ⟨T, i * 2 + 1, none⟩) HTw.out _
            clear hinE hzb hzm
            go_upto_region 12 with fail
            clear k0
            go_upto_region 13 with fail
            rw [← HW5.out]
            go_wp2_with fail
            go_roundw
            case rel => exact ⟨i + 1, _, by omega, by go_num, HT5, HF5, HP5, HB5⟩
            case measure => simp [intOf]; omega
          · obtain rfl : i = zn := by omega
            have hlt' : ¬ ((i : Int) < (i : Int)) := by omega
            obtain ⟨C, HC⟩ : ∃ C, Hid (C = wr.heap.size) := ⟨_, rfl⟩
            obtain ⟨W6, HW6⟩ : ∃ W6, Hid (W6 = wr.alloc (.cells #[.int .i64 0] 3)) := ⟨_, rfl⟩
            have hB6 : Below wr.heap.size wr W6 := by rw [HW6.out]; exact (Below.refl _ _).alloc (Nat.le_refl _) _
            have HB6 : Hid (Below w.heap.size w W6) := HBr.out.trans (hB6.mono HBr.out.size)
            have HC6 : Hid (W6.heap[C]? = some (.cells #[.int .i64 0] 3 (0, 0))) := by show _ = _; rw [HW6.out, HC.out]; exact heap_alloc_last _ _
            have HT6 : Hid (W6.heap[T]? = some (.cells (rgC (i * 2) f) 29 (0, 0))) := by show _ = _; rw [hB6.block T (lt_of_some HTr.out)]; exact HTr.out
            have HP6 : Hid (W6.heap[P]? = some (.cells Y 42 (0, 0))) := by show _ = _; rw [hB6.block P (lt_of_some HPr.out)]; exact HPr.out
            have HCw6 : Hid (w.heap.size ≤ C ∧ T ≠ C) := ⟨by rw [HC.out]; exact HBr.out.size, fun q => by have := lt_of_some HTr.out; rw [q, HC.out] at this; omega⟩
            obtain ⟨r, HR⟩ : ∃ r, Hid (r = runA (brC o) (toN S) (wayE zs E)) := ⟨_, rfl⟩
            obtain ⟨se, HSe⟩ : ∃ se : Int, Hid (se = if 1000000 < r.2.1 then 2 else 0) := ⟨_, rfl⟩
            have HSl : Hid ((toN S).length = i) := by show _ = _; rw [toN, List.length_map, ← HN.out.2.1]
            have HCf : Hid (Calls Tryd.prog 17 #[.agg Y, .slice sa i sc, .slice (some ⟨T, 0, none⟩) i i, .func (.func 18) #[] #[.pointer (some ⟨C, 0, none⟩)]] W6 fun e w' => e = .returned (.int .i64 se) ∧ Hid (w'.heap[C]? = some (.cells #[.int .i64 (r.2.2 : Int)] 3 (0, 0))) ∧ Hid (Below w.heap.size w w')) := by
              have hr : r = if i = 0 then ((fndN 0 []).1, 0, (fndN 0 []).2) else goF (toN S) (wayE zs E) fndN 64 0 (ptD (toN S) 0) (brC o) (List.replicate i []) 0 0 := by
                rw [HR.out]; unfold runA; rw [HSl.out]; rfl
              have hcnt : r.2.2 ≤ 1000001 := by
                rw [HR.out]; unfold runA
                by_cases h0 : (toN S).length = 0
                · rw [if_pos h0]; show 1 ≤ 1000001; omega
                · rw [if_neg h0]
                  have g1 := cnt_st (toN S) (wayE zs E) 64 0 (ptD (toN S) 0) (brC o) (List.replicate (toN S).length []) 0 0
                  have g2 := (goF_st (toN S) (wayE zs E) fndN 64 0 (ptD (toN S) 0) (brC o) (List.replicate (toN S).length []) 0 0 (by omega)).1
                  omega
              have hlC := lt_of_some HC6.out
              have hlT := lt_of_some HT6.out
              rw [HYk.out, HSe.out]
              refine (families_at (RN.sta C) (lv := fun _ => True) (fnd := fndN) (fun q => q = C) 0 (brC o) sa (some ⟨T, 0, none⟩) sc i i 18 #[.pointer (some ⟨C, 0, none⟩)] W6 (toN S) (wayE zs E) hz4 HSl.out HRl.out (fun j hj => ?_) (fun q hq => ?_) ⟨hlC, fun q => absurd hlC (by have q' : W6.heap.size ≤ C := q; omega), HC6.out⟩ trivial ?_ ?_ (fun V hV hX hfv => end_apart hV C (fun q => by rw [hX]) hfv) r hr).mono ?_
              · have hjz : j < zs.length := by rw [← HN.out.2.2.2]; exact hj
                have g1 := ptD_lt HSE.out.1 HSE.out.2.2.2.2.1 HSE.out.2.2.2.2.2 j
                have g2 := ptD_lt HSE.out.2.1 HSE.out.2.2.2.2.1 HSE.out.2.2.2.2.2 (zs.getD j 0).toNat
                rw [HRd.out j hjz]
                exact ⟨g1.1, g1.2, g2.1, g2.2⟩
              · have hq' : q = C := hq
                rw [hq']; exact hlC
              · exact HS.out.psh HB6.out gw gh HSE.out.1 (fun q hq => ⟨Nat.lt_of_lt_of_le hq HB6.out.size, fun e => by
                  have e' : q = C := e
                  have := HCw6.out.1; omega⟩) sc i HN.out.2.1 hsc
              · refine ⟨some ⟨T, 0, none⟩, i, by rw [HRl.out], by rw [HRl.out]; exact Nat.le_refl _, fun j hj => ?_⟩
                rw [HRl.out] at hj
                have hf := HF.out j hj
                refine ⟨T, 0, rfl, ⟨hlT, HCw6.out.2⟩, ?_, ?_⟩
                · rw [cell_of_row W6 T _ _ _ _ HT6.out, Nat.zero_add, rgC_get _ _ _ (by omega), hf.1]
                · rw [cell_of_row W6 T _ _ _ _ HT6.out, Nat.zero_add, rgC_get _ _ _ (by omega), hf.2]
              · rintro e w' ⟨rfl, B, hB, hF⟩
                refine ⟨rfl, ?_, ?_⟩
                · show _ = _
                  rw [hB.out.2.2]
                  have e : IntKind.i64.wrap (r.2.2 : Int) = (r.2.2 : Int) := by rw [IntKind.wrap_i64]; omega
                  rw [e]
                · have hso := (SmO.of HB6.out).trans hF.out.2.2
                  exact ⟨hso.1, hso.2.1, hso.2.2, Nat.le_trans HB6.out.size hF.out.1, fun q hq => by
                    rw [hF.out.2.1 q (Nat.lt_of_lt_of_le hq HB6.out.size) (fun e => by
                      have e' : q = C := e
                      have := HCw6.out.1; omega)]
                    exact HB6.out.block q hq⟩
            clear hB6
            go_upto_region 15 with fail
            rw [← HW6.out, ← HC.out]
            go_upto_region 16 with (first | (refine wpList_load64 rfl (.tmp 10) rfl P Y rfl HP6.out HY6.out ?_) | (go_at_call 17; with_reducible (refine HCf.out.mono ?_); rintro e W7 ⟨rfl, HC7, HB7⟩))
            clear HCf
            have HYe3 : Hid (y = if 1000000 < r.2.1 then 2 else 0) := by show _ = _; rw [HYe2.out, if_neg (by simp), ← HR.out]
            by_cases h6 : 1000000 < r.2.1
            · have hs2 : se = 2 := by rw [HSe.out, if_pos h6]
              have hy2 : y = 2 := by rw [HYe3.out, if_pos h6]
              have hk0 : k = 0 := by rw [HK.out]; unfold aptN; rw [← HYe.out, hy2, if_neg (by omega)]
              subst hs2 hy2 hk0
              clear h6
              go_wp2_with fail
              go_ret2
              exact ⟨rfl, HB7⟩
            · have hs2 : se = 0 := by rw [HSe.out, if_neg h6]
              have hy2 : y = 0 := by rw [HYe3.out, if_neg h6]
              have hk0 : k = (r.2.2 : Int) := by rw [HK.out]; unfold aptN; rw [← HYe.out, hy2, if_pos rfl, HR.out]
              subst hs2 hy2 hk0
              clear h6
              have c9 : W7.cell? ⟨C, 0, none⟩ = some (.int .i64 (r.2.2 : Int)) := by rw [cell_of_row W7 C 0 _ _ _ HC7.out]; rfl
              go_wp2_with fail
              go_ret2
              exact ⟨rfl, HB7⟩
    · have hy3 : y = 3 := by
        rw [HYe.out]; unfold aptE
        rw [if_neg (by simp), if_pos (by rw [← HN.out.2.2.2, ← HN.out.2.1]; exact hlz)]
      have hk0 : k = 0 := by rw [HK.out]; unfold aptN; rw [← HYe.out, hy3, if_neg (by omega)]
      have hne' : ((zn : Int) == (sn : Int)) = false := by simp; omega
      subst hy3 hk0
      go_wp2_with fail
      go_ret2
      exact ⟨rfl, HB2⟩
  · have hyx : y = x := by rw [HYe.out]; unfold aptE; rw [if_pos hx0]
    have hk0 : k = 0 := by rw [HK.out]; unfold aptN; rw [← HYe.out, hyx, if_neg hx0]
    subst hk0 hyx
    have hx' : (y == 0) = false := by simpa using hx0
    go_wp2_with fail
    go_ret2
    exact ⟨rfl, HB2⟩

end Go.Proofs.YtapchcamjeafmaaDoor
