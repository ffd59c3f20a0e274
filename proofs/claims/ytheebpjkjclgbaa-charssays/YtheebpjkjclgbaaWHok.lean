/-
  The contract of hooks.Hooks.
-/
import Derived.Test.YtheebpjkjclgbaaHChr
import Derived.Test.YtheebpjkjclgbaaCCst
import Derived.Deep.DeepCutAuto
import Derived.Deep.OwnRows
import Derived.Deep.RegionLaw
import Derived.Test.YtheebpjkjclgbaaCRow
namespace Go.Proofs.Ytheebpjkjclgbaa
open Go.RowKit

/-- Row i, j boxes told. -/
def rowH (zs : List Int) (i j : Nat) : List Nat := (List.range (pF zs i)).map fun q => if q < j then hkN zs i q else 0
theorem rowH_zero (zs : List Int) (i : Nat) : rowH zs i 0 = List.replicate (pF zs i) 0 := by
  unfold rowH; rw [List.eq_replicate_iff]; exact ⟨by simp, fun b hb => by obtain ⟨q, _, rfl⟩ := List.mem_map.1 hb; simp⟩
theorem rowH_len (zs : List Int) (i j : Nat) : (rowH zs i j).length = pF zs i := by simp [rowH]
theorem rowH_set (zs : List Int) (i j : Nat) : (rowH zs i j).set j (hkN zs i j) = rowH zs i (j + 1) := by
  refine List.ext_getElem (by simp [rowH]) fun q h1 h2 => ?_
  simp only [rowH, List.getElem_set, List.getElem_map, List.getElem_range]
  by_cases e : j = q
  · subst e; simp
  · rw [if_neg e]
    by_cases e2 : q < j
    · rw [if_pos e2, if_pos (by omega)]
    · rw [if_neg e2, if_neg (by omega)]
theorem rowH_full (zs : List Int) (i : Nat) : rowH zs i (pF zs i) = (List.range (pF zs i)).map (hkN zs i) := by
  unfold rowH; exact List.map_congr_left fun q hq => if_pos (List.mem_range.1 hq)
/-- i rows told. -/
def tabH (zs : List Int) (i : Nat) : List (List Nat) := (List.range zs.length).map fun r => if r < i then (List.range (pF zs r)).map (hkN zs r) else []
theorem tabH_len (zs : List Int) (i : Nat) : (tabH zs i).length = zs.length := by simp [tabH]
theorem tabH_zero (zs : List Int) : castT (tabH zs 0) = List.replicate zs.length [] := by
  unfold castT tabH
  rw [List.map_map, List.eq_replicate_iff]
  exact ⟨by simp, fun b hb => by obtain ⟨r, _, rfl⟩ := List.mem_map.1 hb; simp [castL]⟩
theorem tabH_set (zs : List Int) (i : Nat) : (tabH zs i).set i ((List.range (pF zs i)).map (hkN zs i)) = tabH zs (i + 1) := by
  refine List.ext_getElem (by simp [tabH]) fun q h1 h2 => ?_
  simp only [tabH, List.getElem_set, List.getElem_map, List.getElem_range]
  by_cases e : i = q
  · subst e; simp
  · rw [if_neg e]
    by_cases e2 : q < i
    · rw [if_pos e2, if_pos (by omega)]
    · rw [if_neg e2, if_neg (by omega)]
theorem tabH_full (zs : List Int) : tabH zs zs.length = hkR zs := by
  unfold tabH hkR; exact List.map_congr_left fun r hr => if_pos (List.mem_range.1 hr)
theorem castL_setX (l : List Nat) (i x : Nat) : castL (l.set i x) = (castL l).set i (x : Int) := by simp [castL, List.map_set]
theorem castT_setX (t : List (List Nat)) (i : Nat) (r : List Nat) : castT (t.set i r) = (castT t).set i (castL r) := by simp [castT, List.map_set]

set_option maxHeartbeats 4000000 in
set_option maxRecDepth 100000 in
theorem HHooks_ok (a : Option Addr) (n cap : Nat) (zs : List Int) (w : World) (hs : Shows w a zs) (hn : n = zs.length) (hp : IsPt zs) :
    Calls Try.prog 17 #[.slice a n cap] w fun e w' => ∃ v, e = .returned (.tuple #[v, .int .i64 0]) ∧ Tbl w' w.heap.size v (castT (hkR zs)) ∧ Below w.heap.size w w' := by
  have HS : Hid (Shows w a zs) := hs
  have HP : Hid (IsPt zs) := hp
  have HN : Hid (n = zs.length) := hn
  have hn40 : n ≤ 40 := by rw [hn]; exact hp.len
  have HC : Hid (Calls Try.prog 35 #[.slice a n cap] w fun e w' => ∃ v, e = .returned (.tuple #[v, .int .i64 0]) ∧ Hid (Owns w' w.heap.size v (ptConj zs)) ∧ Hid (Below w.heap.size w w')) := Conjugate_ok a n cap zs w hs hn hp
  clear hs hn hp
  have hmR : ∀ W, (Instr.makeSlice 38 (.int .i64 (n : Int)) (.int .i64 (n : Int))).run Try.prog W = .ok (.slice (some ⟨W.heap.size, 0, none⟩) n n) (W.alloc (.cells (madeCells #[Value.slice none 0 0] n) 22)) := fun W => run_make_row' 38 22 (.slice none 0 0) 24 Try.underlying38 (by kernel_rfl) rfl .i64 .i64 n (by omega) (by omega) W
  go_enter Try.func17, Try.ntmps17
  go_wp2_with fail
  refine HC.out.mono ?_
  rintro e w1 ⟨v4, rfl, HO4, HB1⟩
  obtain ⟨a4, c4, hv4, hs4⟩ := HO4.out.shows (by rw [conj_len]; have := pF_le HP.out 0; omega) (fun z hz => by
    have := (conj_pt HP.out).range z hz; omega)
  obtain ⟨n4, HN4⟩ : ∃ n4, Hid (n4 = pF zs 0) := ⟨_, rfl⟩
  rw [conj_len, ← HN4.out] at hv4
  subst hv4
  have HS4 : Hid (∀ W, Below w1.heap.size w1 W → Shows W a4 (ptConj zs)) := fun W hW => hs4.below hW
  have hn4b : n4 ≤ 40 := by rw [HN4.out]; exact pF_le HP.out 0
  clear HO4 hs4 HC
  have HT0 : Hid (TblV (w1.alloc (.cells (madeCells #[Value.slice none 0 0] n) 22)) w1.heap.size (.slice (some ⟨w1.heap.size, 0, none⟩) n n) (List.replicate n (.slice none 0 0)) (castT (tabH zs 0))) := by
    show TblV _ _ _ _ _
    rw [tabH_zero, ← HN.out]
    refine tbl_made ⟨by rw [toList_madeCells_one]; simp, Or.inr ⟨w1.heap.size, n, madeCells #[Value.slice none 0 0] n, rfl, Nat.le_refl _, heap_alloc_new _ _, Nat.le_refl _, by unfold maxLen; omega, by rw [← Array.length_toList, toList_madeCells_one]; simp, ?_⟩⟩
    rw [Nat.mul_one, List.take_of_length_le (by rw [toList_madeCells_one]; simp)]
  have HB0 : Hid (Below w1.heap.size w1 (w1.alloc (.cells (madeCells #[Value.slice none 0 0] n) 22))) := (Below.refl _ _).alloc (Nat.le_refl _) _
  go_wp2_with fail
  clear hmR
  obtain ⟨R, HR⟩ : ∃ R, Hid (R = w1.heap.size) := ⟨_, rfl⟩
  rw [← HR.out] at HT0 ⊢
  go_loopw [25] (fun iv wr => ∃ (i : Nat) (vs : List Value), i ≤ n ∧ iv = .int .i64 (i : Int) ∧ Hid (TblV wr R (.slice (some ⟨R, 0, none⟩) n n) vs (castT (tabH zs i))) ∧ Hid (Below w1.heap.size w1 wr)) (fun iv _ => n - (intOf iv).toNat)
  case atStart => exact ⟨0, _, Nat.zero_le _, rfl, HT0, HB0⟩
  case round =>
    clear HT0 HB0
    obtain ⟨i, vs, hi, rfl, HT, HB⟩ := hrel
    by_cases hlt : i < n
    · have hlt' : (i : Int) < (n : Int) := by omega
      have hiz : i < zs.length := by rw [← HN.out]; exact hlt
      have HBw : Hid (Below w.heap.size w wr) := HB1.out.trans (HB.out.mono HB1.out.size)
      obtain ⟨b1, o1, z, ha, HZ, hz1, hz2, hcz⟩ := (HS.out.below HBw.out).elem (k := i) hiz
      subst ha
      obtain ⟨p, HPp⟩ : ∃ p, Hid (p = pF zs i) := ⟨_, rfl⟩
      have hzp : z = (p : Int) := by rw [HZ.out, HPp.out, pF_cast HP.out]
      subst hzp
      have hp40 : p ≤ 40 := by rw [HPp.out]; exact pF_le HP.out i
      have hmP : ∀ W, (Instr.makeSlice 22 (.int .i64 (p : Int)) (.int .i64 (p : Int))).run Try.prog W = .ok (.slice (some ⟨W.heap.size, 0, none⟩) p p) (W.alloc (.cells (madeCells #[Value.int .i64 0] p) 3)) := fun W =>
        run_make_row' (P := Try.prog) 22 3 (.int .i64 0) 8 Try.underlying22 (by kernel_rfl) rfl .i64 .i64 p (by omega) (by omega) W
      obtain ⟨g9, n9, cap9, e9, -, hg9, hgs9, hfr9, hce9⟩ := HT.out.head (by rw [castT_len, tabH_len]; omega)
      simp only [Value.slice.injEq, Option.some.injEq, Addr.mk.injEq, and_true] at e9
      obtain ⟨rfl, -, -⟩ := e9
      have cR : wr.cell? ⟨R, i, none⟩ = some (rowv vs i) := hce9 i (by rw [castT_len, tabH_len]; exact hiz)
      have fR : wr.frozen? ⟨R, i, none⟩ = false := hfr9 i
      have hB1 : Below wr.heap.size wr (wr.alloc (.cells (madeCells #[Value.int .i64 0] p) 3)) := (Below.refl _ _).alloc (Nat.le_refl _) _
      have cR1 : (wr.alloc (.cells (madeCells #[Value.int .i64 0] p) 3)).cell? ⟨R, i, none⟩ = some (rowv vs i) := (hB1.cell (p := ⟨R, i, none⟩) hgs9).trans cR
      have fR1 : (wr.alloc (.cells (madeCells #[Value.int .i64 0] p) 3)).frozen? ⟨R, i, none⟩ = false := (hB1.frozen (p := ⟨R, i, none⟩) hgs9).trans fR
      have hmade : (madeCells #[Value.int .i64 0] p) = (List.replicate p (Value.int .i64 0)).toArray := by
        apply Array.toList_inj.1
        rw [toList_madeCells_one]
      have hRl : R ≤ wr.heap.size := by omega
      have hO : Owns (wr.alloc (.cells (madeCells #[Value.int .i64 0] p) 3)) R (.slice (some ⟨wr.heap.size, 0, none⟩) p p) (castL (rowH zs i 0)) := by
        rw [rowH_zero, ← HPp.out, show castL (List.replicate p 0) = List.replicate p 0 by simp [castL]]
        refine owns_of_row hRl ?_ (by simp) (by simp; omega)
        rw [heap_alloc_new wr, hmade]; simp
      have HT2 : Hid (TblV ((wr.alloc (.cells (madeCells #[Value.int .i64 0] p) 3)).setCell ⟨R, i, none⟩ (.slice (some ⟨wr.heap.size, 0, none⟩) p p)) R (.slice (some ⟨R, 0, none⟩) n n) (vs.set i (.slice (some ⟨wr.heap.size, 0, none⟩) p p)) (castT ((tabH zs i).set i (rowH zs i 0)))) := by
        show TblV _ _ _ _ _
        rw [castT_setX]
        exact HT.out.setRow (by rw [castT_len, tabH_len]; exact hiz) hO ⟨hB1.size, fun k hk _ => hB1.block k hk, fun g hg => Or.inr (by cases hg; exact Nat.le_refl _)⟩
      have HB2 : Hid (Below w1.heap.size w1 ((wr.alloc (.cells (madeCells #[Value.int .i64 0] p) 3)).setCell ⟨R, i, none⟩ (.slice (some ⟨wr.heap.size, 0, none⟩) p p))) := (HB.out.trans (hB1.mono HB.out.size)).setCell (p := ⟨R, i, none⟩) (by rw [← HR.out]; exact Nat.le_refl _) _
      have HVi : Hid (rowv (vs.set i (.slice (some ⟨wr.heap.size, 0, none⟩) p p)) i = .slice (some ⟨wr.heap.size, 0, none⟩) p p) := by
        show _ = _
        rw [rowv_set _ _ _ _ (by rw [HT.out.len, castT_len, tabH_len]; exact hiz), if_pos rfl]
      rw [World.setCell_alloc_past _ _ _ _ hgs9] at HT2 HB2
      obtain ⟨Q, HQ⟩ : ∃ Q, Hid (Q = wr.heap.size) := ⟨_, rfl⟩
      have hgs : R < wr.heap.size := hgs9
      clear hce9 hfr9 hmade hO hB1
      go_wp2_with fail
      rw [← HQ.out] at HT2 HB2 HVi ⊢
      clear cR fR cR1 fR1 hcz hmP hRl hgs9 HT HB HBw
      obtain ⟨vs2, HVs⟩ : ∃ vs2, Hid (vs2 = vs.set i (.slice (some ⟨Q, 0, none⟩) p p)) := ⟨_, rfl⟩
      rw [← HVs.out] at HT2 HVi
      go_loopw [36] (fun jv wq => ∃ j : Nat, j ≤ p ∧ jv = .int .i64 (j : Int) ∧ Hid (TblV wq R (.slice (some ⟨R, 0, none⟩) n n) vs2 (castT ((tabH zs i).set i (rowH zs i j)))) ∧ Hid (Below w1.heap.size w1 wq)) (fun jv _ => p - (intOf jv).toNat)
      case atStart => exact ⟨0, Nat.zero_le _, rfl, HT2, HB2⟩
      case round =>
        clear HT2 HB2
        obtain ⟨j, hj, rfl, HT, HB⟩ := hrel
        by_cases hltj : j < p
        · have hltj' : (j : Int) < (p : Int) := by omega
          have hjz : j < pF zs i := by rw [← HPp.out]; exact hltj
          have hj0 : j < n4 := by rw [HN4.out]; have := pF_mono HP.out 0 i; rw [Nat.zero_add] at this; omega
          have hj0' : (j : Int) < (n4 : Int) := by omega
          obtain ⟨b4, o4, z4, ha4, HZ4, -, -, hc4⟩ := (HS4.out wr HB.out).elem (k := j) (by rw [conj_len, ← HN4.out]; exact hj0)
          subst ha4
          obtain ⟨h, HH⟩ : ∃ h, Hid (h = htF zs j) := ⟨_, rfl⟩
          have hz4 : z4 = (h : Int) := by
            rw [HZ4.out, HH.out]
            unfold ptConj
            rw [show (tab (zs.getD 0 0).toNat (ptCol zs)).getD j 0 = ptCol zs j from tab_atX (n := (zs.getD 0 0).toNat) (by have := HN4.out; unfold pF at this; omega), htF_cast]
          subst hz4
          have hih : i < h := by rw [HH.out]; exact (htF_iff HP.out i j).2 hjz
          have hh40 : h ≤ 40 := by rw [HH.out]; have := htF_le HP.out j; have := HP.out.len; omega
          obtain ⟨rj, HRj⟩ : ∃ rj, Hid (rj = p - 1 - j) := ⟨_, rfl⟩
          obtain ⟨bj, HBj⟩ : ∃ bj, Hid (bj = h - 1 - i) := ⟨_, rfl⟩
          have e1 : (p : Int) - 1 - (j : Int) = (rj : Int) := by have := HRj.out; omega
          have e2 : (h : Int) - 1 - (i : Int) = (bj : Int) := by have := HBj.out; omega
          obtain ⟨x, HX⟩ : ∃ x, Hid (x = hkN zs i j) := ⟨_, rfl⟩
          have hx : x = rj + bj + 1 := by rw [HX.out, HRj.out, HBj.out, HPp.out, HH.out]; rfl
          have e3 : (rj : Int) + (bj : Int) + 1 = (x : Int) := by omega
          have hx80 : x ≤ 80 := by have := HRj.out; have := HBj.out; omega
          clear hx
          have hlen2 : i < (castT ((tabH zs i).set i (rowH zs i j))).length := by rw [castT_len, List.length_set, tabH_len]; exact hiz
          obtain ⟨g9, n9, cap9, e9, -, hg9, hgs9, hfr9, hce9⟩ := HT.out.head (by omega)
          simp only [Value.slice.injEq, Option.some.injEq, Addr.mk.injEq, and_true] at e9
          obtain ⟨rfl, -, -⟩ := e9
          have cR : wr.cell? ⟨R, i, none⟩ = some (.slice (some ⟨Q, 0, none⟩) p p) := by rw [hce9 i hlen2, HVi.out]
          have hrowg : (castT ((tabH zs i).set i (rowH zs i j))).getD i [] = castL (rowH zs i j) := by
            rw [castT_at]; congr 1; simp [List.getD, tabH_len, hiz]
          have hOi := HT.out.rows i hlen2
          rw [HVi.out, hrowg] at hOi
          obtain ⟨g8, cap8, e8, hg8, hgs8, hfr8, hce8⟩ := hOi.head (by rw [castL_len, rowH_len]; omega)
          simp only [Value.slice.injEq, Option.some.injEq, Addr.mk.injEq, and_true] at e8
          obtain ⟨rfl, -, -⟩ := e8
          have cQ := hce8 j (by rw [castL_len, rowH_len]; exact hjz)
          have fQ : wr.frozen? ⟨Q, j, none⟩ = false := hfr8 j
          have HT3 : Hid (∀ W : World, W.heap = wr.heap → TblV (W.setCell ⟨Q, j, none⟩ (.int .i64 (x : Int))) R (.slice (some ⟨R, 0, none⟩) n n) vs2 (castT ((tabH zs i).set i (rowH zs i (j + 1))))) := fun W hW => by
            have h1 : TblV W R (.slice (some ⟨R, 0, none⟩) n n) vs2 (castT ((tabH zs i).set i (rowH zs i j))) := HT.out.same (fun k _ _ => by rw [hW])
            have h2 := h1.storeBox hlen2 HVi.out (by rw [hrowg, castL_len, rowH_len, HPp.out]) j (x : Int)
            rw [hrowg, HX.out, ← castL_setX, rowH_set, ← castT_setX, List.set_set] at h2
            rw [HX.out]; exact h2
          have HQw : Hid (w1.heap.size ≤ Q) := by show _ ≤ _; rw [← HR.out]; exact hg8
          clear hOi hce8 hfr8 hce9 hfr9 hrowg hlen2
          go_upto_region 12 with fail
          go_quiet (fail)
          go_wp2
          go_roundw
          case rel => exact ⟨j + 1, by omega, by go_num, HT3.out _ rfl, (below_drewN HB.out _).setCell (p := ⟨Q, j, none⟩) HQw.out _⟩
          case measure => simp [intOf]; omega
        · obtain rfl : j = p := by omega
          have HT4 : Hid (TblV wr R (.slice (some ⟨R, 0, none⟩) n n) vs2 (castT (tabH zs (i + 1)))) := by
            have h := HT.out
            rw [HPp.out, rowH_full, tabH_set] at h
            exact h
          go_wp2
          go_roundw
          case rel => exact ⟨i + 1, vs2, by omega, by go_num, HT4, HB⟩
          case measure => simp [intOf]; omega
    · obtain rfl : i = n := by omega
      have HTe : Hid (Tbl wr w.heap.size (.slice (some ⟨R, 0, none⟩) i i) (castT (hkR zs))) := by
        have h := HT.out
        rw [HN.out, tabH_full, ← HN.out] at h
        exact (show Tbl wr R _ _ from ⟨vs, h⟩).mono (by rw [HR.out]; exact HB1.out.size)
      have HBw : Hid (Below w.heap.size w wr) := HB1.out.trans (HB.out.mono HB1.out.size)
      go_wp2
      go_ret2
      exact ⟨_, rfl, HTe.out, HBw.out⟩

end Go.Proofs.Ytheebpjkjclgbaa
