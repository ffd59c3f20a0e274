/-
  The contract of chars.Table.
-/
import Derived.Test.YtheebpjkjclgbaaKErr
import Derived.Test.YtheebpjkjclgbaaCLst
import Derived.Test.YtheebpjkjclgbaaCGpt
namespace Go.Proofs.Ytheebpjkjclgbaa
open Go.RowKit

/-- Row i of characters, j of them told. -/
def rowK (P : List (List Int)) (i j : Nat) : List Int := (List.range P.length).map fun q => if q < j then chi (natL (P.getD q [])) (P.getD i []) else 0
theorem rowK_len (P : List (List Int)) (i j : Nat) : (rowK P i j).length = P.length := by simp [rowK]
theorem rowK_zero (P : List (List Int)) (i : Nat) : rowK P i 0 = List.replicate P.length 0 := by
  unfold rowK; rw [List.eq_replicate_iff]; exact ⟨by simp, fun b hb => by obtain ⟨q, _, rfl⟩ := List.mem_map.1 hb; simp⟩
theorem rowK_set (P : List (List Int)) (i j : Nat) : (rowK P i j).set j (chi (natL (P.getD j [])) (P.getD i [])) = rowK P i (j + 1) := by
  refine List.ext_getElem (by simp [rowK]) fun q h1 h2 => ?_
  simp only [rowK, List.getElem_set, List.getElem_map, List.getElem_range]
  by_cases e : j = q
  · subst e; simp
  · rw [if_neg e]
    by_cases e2 : q < j
    · rw [if_pos e2, if_pos (by omega)]
    · rw [if_neg e2, if_neg (by omega)]
/-- i rows told. -/
def tabK (P : List (List Int)) (i : Nat) : List (List Int) := (List.range P.length).map fun r => if r < i then rowK P r P.length else []
theorem tabK_len (P : List (List Int)) (i : Nat) : (tabK P i).length = P.length := by simp [tabK]
theorem tabK_zero (P : List (List Int)) : tabK P 0 = List.replicate P.length [] := by
  unfold tabK; rw [List.eq_replicate_iff]; exact ⟨by simp, fun b hb => by obtain ⟨r, _, rfl⟩ := List.mem_map.1 hb; simp⟩
theorem tabK_set (P : List (List Int)) (i : Nat) : (tabK P i).set i (rowK P i P.length) = tabK P (i + 1) := by
  refine List.ext_getElem (by simp [tabK]) fun q h1 h2 => ?_
  simp only [tabK, List.getElem_set, List.getElem_map, List.getElem_range]
  by_cases e : i = q
  · subst e; simp
  · rw [if_neg e]
    by_cases e2 : q < i
    · rw [if_pos e2, if_pos (by omega)]
    · rw [if_neg e2, if_neg (by omega)]
/-- The whole table. -/
def chK (P : List (List Int)) : List (List Int) := P.map fun p => P.map fun c => chi (natL c) p
theorem tabK_full (P : List (List Int)) : tabK P P.length = chK P := by
  refine List.ext_getElem (by simp [tabK, chK]) fun q h1 h2 => ?_
  have hq : q < P.length := by simpa [tabK] using h1
  simp only [tabK, chK, List.getElem_map, List.getElem_range, if_pos hq]
  refine List.ext_getElem (by simp [rowK]) fun r h3 h4 => ?_
  have hr : r < P.length := by simpa [rowK] using h3
  simp only [rowK, List.getElem_map, List.getElem_range, if_pos hr]
  simp [List.getD, hq, hr]
theorem genA_isPt {n : Nat} (h : n < 13) {p : List Int} (hp : p ∈ genA n) : IsPt p ∧ szN p = n := by
  have hpt := genA_pt n h
  rw [List.all_eq_true] at hpt
  have h3 := hpt p hp
  simp only [Bool.and_eq_true, decide_eq_true_eq] at h3
  exact ⟨pt_of h3.1, h3.2⟩

set_option maxHeartbeats 1000000 in
theorem Table_no (k : Int) (w : World) (h : k < 0 ∨ 8 < k) :
    Calls Try.prog 14 #[.int .i64 k] w fun e w' => e = .returned (.tuple #[.slice none 0 0, .int .i64 1]) ∧ w' = w := by
  by_cases h1 : k < 0
  · go_enter Try.func14, Try.ntmps14
    go_wp2
    go_ret2
    exact ⟨rfl, rfl⟩
  · have h2 : k > 8 := by omega
    clear h
    go_enter Try.func14, Try.ntmps14
    go_wp2
    go_ret2
    exact ⟨rfl, rfl⟩

set_option maxHeartbeats 8000000 in
set_option maxRecDepth 100000 in
theorem Table_ok (k : Nat) (w : World) (hk8 : k ≤ 8) :
    Calls Try.prog 14 #[.int .i64 (k : Int)] w fun e w' => ∃ v, e = .returned (.tuple #[v, .int .i64 0]) ∧ Tbl w' w.heap.size v (chK (genA k)) ∧ Below w.heap.size w w' := by
  obtain ⟨P, HP⟩ : ∃ P, Hid (P = genA k) := ⟨_, rfl⟩
  have HPt : Hid (∀ p ∈ P, IsPt p ∧ szN p = k) := fun p hp => genA_isPt (by omega) (by rw [← HP.out]; exact hp)
  have HAl : Hid (Calls Try.prog 29 #[.int .i64 (k : Int)] w fun e w' => ∃ al nl cl, e = .returned (.tuple #[.slice al nl cl, .int .i64 0]) ∧ Hid (nl = P.length ∧ nl ≤ 30) ∧ Hid (TabC w' al P) ∧ Hid (Below w.heap.size w w')) := by
    refine (All_ok k (by omega) w).mono ?_
    rintro e w' ⟨v, rfl, h1, h2⟩
    have hbd : ∀ l ∈ P, l.length ≤ 17592186044416 ∧ ∀ z ∈ l, -9223372036854775808 ≤ z ∧ z ≤ 9223372036854775807 := fun l hl => by
      have h4 := (HPt.out l hl).1
      exact ⟨by have := h4.len; omega, fun z hz => by have := h4.range z hz; omega⟩
    rw [← HP.out] at h1
    obtain ⟨al, nl, cl, rfl, h3, h4⟩ := h1.tabC hbd
    exact ⟨al, nl, cl, rfl, ⟨h4.out, by rw [h4.out, HP.out]; exact genA_few k (by omega)⟩, h3, h2⟩
  rw [← HP.out]
  have hk0 : ¬ ((k : Int) < 0) := by omega
  have hk8' : ¬ ((k : Int) > 8) := by omega
  have HK8 : Hid (k ≤ 8) := hk8
  go_enter Try.func14, Try.ntmps14
  go_wp2_with fail
  refine HAl.out.mono ?_
  rintro e w1 ⟨al, n, cl, rfl, HNn, HT1, HB1⟩
  clear HAl
  have hn30 : n ≤ 30 := HNn.out.2
  have HN : Hid (n = P.length) := HNn.out.1
  clear HNn
  have hmR : ∀ W, (Instr.makeSlice 38 (.int .i64 (n : Int)) (.int .i64 (n : Int))).run Try.prog W = .ok (.slice (some ⟨W.heap.size, 0, none⟩) n n) (W.alloc (.cells (madeCells #[Value.slice none 0 0] n) 22)) := fun W => run_make_row' 38 22 (.slice none 0 0) 24 Try.underlying38 (by kernel_rfl) rfl .i64 .i64 n (by omega) (by omega) W
  have HT0 : Hid (TblV (w1.alloc (.cells (madeCells #[Value.slice none 0 0] n) 22)) w1.heap.size (.slice (some ⟨w1.heap.size, 0, none⟩) n n) (List.replicate n (.slice none 0 0)) (tabK P 0)) := by
    show TblV _ _ _ _ _
    rw [tabK_zero, ← HN.out]
    refine tbl_made ⟨by rw [toList_madeCells_one]; simp, Or.inr ⟨w1.heap.size, n, madeCells #[Value.slice none 0 0] n, rfl, Nat.le_refl _, heap_alloc_new _ _, Nat.le_refl _, by unfold maxLen; omega, by rw [← Array.length_toList, toList_madeCells_one]; simp, ?_⟩⟩
    rw [Nat.mul_one, List.take_of_length_le (by rw [toList_madeCells_one]; simp)]
  have HB0 : Hid (Below w1.heap.size w1 (w1.alloc (.cells (madeCells #[Value.slice none 0 0] n) 22))) := (Below.refl _ _).alloc (Nat.le_refl _) _
  go_wp2_with fail
  clear hmR
  obtain ⟨R, HR⟩ : ∃ R, Hid (R = w1.heap.size) := ⟨_, rfl⟩
  rw [← HR.out] at HT0 ⊢
  go_loopw [27] (fun iv wr => ∃ (i : Nat) (vs : List Value), i ≤ n ∧ iv = .int .i64 (i : Int) ∧ Hid (TblV wr R (.slice (some ⟨R, 0, none⟩) n n) vs (tabK P i)) ∧ Hid (Below w1.heap.size w1 wr)) (fun iv _ => n - (intOf iv).toNat)
  case atStart => exact ⟨0, _, Nat.zero_le _, rfl, HT0, HB0⟩
  case round =>
    clear HT0 HB0
    obtain ⟨i, vs, hi, rfl, HT, HB⟩ := hrel
    by_cases hlt : i < n
    · have hlt' : (i : Int) < (n : Int) := by omega
      have hiz : i < P.length := by rw [← HN.out]; exact hlt
      obtain ⟨b1, o1, pa, pc, ha, hbs1, hcz, hsp, hpc⟩ := (HT1.out.below HB.out) i hiz
      subst ha
      obtain ⟨p, HPp⟩ : ∃ p, Hid (p = P.getD i []) := ⟨_, rfl⟩
      rw [← HPp.out] at hcz hsp hpc
      have HIp : Hid (IsPt p ∧ szN p = k) := HPt.out p (by rw [HPp.out]; exact getD_memX [] hiz)
      obtain ⟨pn, HPn⟩ : ∃ pn, Hid (pn = p.length) := ⟨_, rfl⟩
      rw [← HPn.out] at hcz hpc
      have HSp : Hid (Shows wr pa p) := hsp
      clear hsp
      have hmP : ∀ W, (Instr.makeSlice 22 (.int .i64 (n : Int)) (.int .i64 (n : Int))).run Try.prog W = .ok (.slice (some ⟨W.heap.size, 0, none⟩) n n) (W.alloc (.cells (madeCells #[Value.int .i64 0] n) 3)) := fun W =>
        run_make_row' (P := Try.prog) 22 3 (.int .i64 0) 8 Try.underlying22 (by kernel_rfl) rfl .i64 .i64 n (by omega) (by omega) W
      obtain ⟨g9, n9, cap9, e9, -, hg9, hgs9, hfr9, hce9⟩ := HT.out.head (by rw [tabK_len]; omega)
      simp only [Value.slice.injEq, Option.some.injEq, Addr.mk.injEq, and_true] at e9
      obtain ⟨rfl, -, -⟩ := e9
      have cR : wr.cell? ⟨R, i, none⟩ = some (rowv vs i) := hce9 i (by rw [tabK_len]; exact hiz)
      have fR : wr.frozen? ⟨R, i, none⟩ = false := hfr9 i
      have hB1 : Below wr.heap.size wr (wr.alloc (.cells (madeCells #[Value.int .i64 0] n) 3)) := (Below.refl _ _).alloc (Nat.le_refl _) _
      have cR1 : (wr.alloc (.cells (madeCells #[Value.int .i64 0] n) 3)).cell? ⟨R, i, none⟩ = some (rowv vs i) := (hB1.cell (p := ⟨R, i, none⟩) hgs9).trans cR
      have fR1 : (wr.alloc (.cells (madeCells #[Value.int .i64 0] n) 3)).frozen? ⟨R, i, none⟩ = false := (hB1.frozen (p := ⟨R, i, none⟩) hgs9).trans fR
      have hmade : (madeCells #[Value.int .i64 0] n) = (List.replicate n (Value.int .i64 0)).toArray := by
        apply Array.toList_inj.1
        rw [toList_madeCells_one]
      have hRl : R ≤ wr.heap.size := by omega
      have hO : Owns (wr.alloc (.cells (madeCells #[Value.int .i64 0] n) 3)) R (.slice (some ⟨wr.heap.size, 0, none⟩) n n) (rowK P i 0) := by
        rw [rowK_zero, ← HN.out]
        refine owns_of_row hRl ?_ (by simp) (by simp; omega)
        rw [heap_alloc_new wr, hmade]; simp
      have HT2 : Hid (TblV ((wr.alloc (.cells (madeCells #[Value.int .i64 0] n) 3)).setCell ⟨R, i, none⟩ (.slice (some ⟨wr.heap.size, 0, none⟩) n n)) R (.slice (some ⟨R, 0, none⟩) n n) (vs.set i (.slice (some ⟨wr.heap.size, 0, none⟩) n n)) ((tabK P i).set i (rowK P i 0))) := by
        show TblV _ _ _ _ _
        exact HT.out.setRow (by rw [tabK_len]; exact hiz) hO ⟨hB1.size, fun k hk _ => hB1.block k hk, fun g hg => Or.inr (by cases hg; exact Nat.le_refl _)⟩
      have HB2 : Hid (Below w1.heap.size w1 ((wr.alloc (.cells (madeCells #[Value.int .i64 0] n) 3)).setCell ⟨R, i, none⟩ (.slice (some ⟨wr.heap.size, 0, none⟩) n n))) := (HB.out.trans (hB1.mono HB.out.size)).setCell (p := ⟨R, i, none⟩) (by rw [← HR.out]; exact Nat.le_refl _) _
      have HVi : Hid (rowv (vs.set i (.slice (some ⟨wr.heap.size, 0, none⟩) n n)) i = .slice (some ⟨wr.heap.size, 0, none⟩) n n) := by
        show _ = _
        rw [rowv_set _ _ _ _ (by rw [HT.out.len, tabK_len]; exact hiz), if_pos rfl]
      rw [World.setCell_alloc_past _ _ _ _ hgs9] at HT2 HB2
      have HPs : Hid (∀ W, Below w1.heap.size w1 W → Shows W pa p) := fun W hW => by
        obtain ⟨b3, o3, pa3, pc3, ha3, hbs3, hcz3, hsp3, hpc3⟩ := HT1.out i hiz
        simp only [Option.some.injEq, Addr.mk.injEq, and_true] at ha3
        obtain ⟨rfl, rfl⟩ := ha3
        have h5 := (HB.out.cell (p := ⟨b1, o1 + i, none⟩) hbs3).trans hcz3
        rw [hcz] at h5
        simp only [Option.some.injEq, Value.slice.injEq] at h5
        rw [h5.1, HPp.out]
        exact hsp3.below hW
      obtain ⟨Q, HQ⟩ : ∃ Q, Hid (Q = wr.heap.size) := ⟨_, rfl⟩
      have hgs : R < wr.heap.size := hgs9
      clear hce9 hfr9 hmade hO hB1
      go_wp2_with fail
      rw [← HQ.out] at HT2 HB2 HVi ⊢
      clear cR fR cR1 fR1 hcz hmP hRl hgs9 HT HB HSp
      obtain ⟨vs2, HVs⟩ : ∃ vs2, Hid (vs2 = vs.set i (.slice (some ⟨Q, 0, none⟩) n n)) := ⟨_, rfl⟩
      rw [← HVs.out] at HT2 HVi
      go_loopw [40] (fun jv wq => ∃ j : Nat, j ≤ n ∧ jv = .int .i64 (j : Int) ∧ Hid (TblV wq R (.slice (some ⟨R, 0, none⟩) n n) vs2 ((tabK P i).set i (rowK P i j))) ∧ Hid (Below w1.heap.size w1 wq)) (fun jv _ => n - (intOf jv).toNat)
      case atStart => exact ⟨0, Nat.zero_le _, rfl, HT2, HB2⟩
      case round =>
        clear HT2 HB2
        obtain ⟨j, hj, rfl, HT, HB⟩ := hrel
        by_cases hltj : j < n
        · have hltj' : (j : Int) < (n : Int) := by omega
          have hjz : j < P.length := by rw [← HN.out]; exact hltj
          obtain ⟨b4, o4, ca, cc, ha4, hbs4, hc4, hsc, hcc⟩ := (HT1.out.below HB.out) j hjz
          simp only [Option.some.injEq, Addr.mk.injEq, and_true] at ha4
          obtain ⟨rfl, rfl⟩ := ha4
          obtain ⟨c, HCc⟩ : ∃ c, Hid (c = P.getD j []) := ⟨_, rfl⟩
          rw [← HCc.out] at hc4 hsc hcc
          have HIc : Hid (IsPt c ∧ szN c = k) := HPt.out c (by rw [HCc.out]; exact getD_memX [] hjz)
          obtain ⟨cn, HCn⟩ : ∃ cn, Hid (cn = c.length) := ⟨_, rfl⟩
          rw [← HCn.out] at hc4 hcc
          obtain ⟨x, HX⟩ : ∃ x, Hid (x = chi (natL c) p) := ⟨_, rfl⟩
          have hlen2 : i < ((tabK P i).set i (rowK P i j)).length := by rw [List.length_set, tabK_len]; exact hiz
          obtain ⟨g9, n9, cap9, e9, -, hg9, hgs9, hfr9, hce9⟩ := HT.out.head (by omega)
          simp only [Value.slice.injEq, Option.some.injEq, Addr.mk.injEq, and_true] at e9
          obtain ⟨rfl, -, -⟩ := e9
          have cR : wr.cell? ⟨R, i, none⟩ = some (.slice (some ⟨Q, 0, none⟩) n n) := by rw [hce9 i hlen2, HVi.out]
          have hrowg : ((tabK P i).set i (rowK P i j)).getD i [] = rowK P i j := by
            simp [List.getD, tabK_len, hiz]
          have hOi := HT.out.rows i hlen2
          rw [HVi.out, hrowg] at hOi
          obtain ⟨g8, cap8, e8, hg8, hgs8, hfr8, hce8⟩ := hOi.head (by rw [rowK_len]; omega)
          simp only [Value.slice.injEq, Option.some.injEq, Addr.mk.injEq, and_true] at e8
          obtain ⟨rfl, -, -⟩ := e8
          have cQ := hce8 j (by rw [rowK_len]; exact hjz)
          have fQ : wr.frozen? ⟨Q, j, none⟩ = false := hfr8 j
          obtain ⟨u, HU⟩ : ∃ u, Hid (u = (rowK P i j).getD j 0) := ⟨_, rfl⟩
          rw [← HU.out] at cQ
          have HT3 : Hid (∀ W : World, (∀ q, R ≤ q → q < wr.heap.size → W.heap[q]? = wr.heap[q]?) → TblV (W.setCell ⟨Q, j, none⟩ (.int .i64 x)) R (.slice (some ⟨R, 0, none⟩) n n) vs2 ((tabK P i).set i (rowK P i (j + 1)))) := fun W hW => by
            have h1 : TblV W R (.slice (some ⟨R, 0, none⟩) n n) vs2 ((tabK P i).set i (rowK P i j)) := HT.out.same hW
            have h2 := h1.storeBox hlen2 HVi.out (by rw [hrowg, rowK_len, HN.out]) j x
            rw [hrowg, HX.out, HCc.out, HPp.out, rowK_set, List.set_set] at h2
            rw [HX.out, HCc.out, HPp.out]; exact h2
          have HQw : Hid (w1.heap.size ≤ Q) := by show _ ≤ _; rw [← HR.out]; exact hg8
          have hbd : Below wr.heap.size wr wr.drew := below_drewN (Below.refl _ _) 1
          have HC1 : Hid (Calls Try.prog 27 #[.slice pa pn pc, .slice ca cn cc] wr.drew fun e w' => e = .returned (.int .i64 x) ∧ w'.cell? ⟨R, i, none⟩ = some (.slice (some ⟨Q, 0, none⟩) n n) ∧ w'.cell? ⟨Q, j, none⟩ = some (.int .i64 u) ∧ w'.frozen? ⟨Q, j, none⟩ = false ∧ Hid (Below w1.heap.size w1 w') ∧ Hid (TblV (w'.setCell ⟨Q, j, none⟩ (.int .i64 x)) R (.slice (some ⟨R, 0, none⟩) n n) vs2 ((tabK P i).set i (rowK P i (j + 1))))) := by
            have l1 := len_szN HIp.out.1
            have l2 := len_szN HIc.out.1
            rw [HIp.out.2] at l1
            rw [HIc.out.2] at l2
            have l3 := HK8.out
            refine (char_at c pa ca pn cn pc cc p wr.drew ((HPs.out wr HB.out).below hbd) HPn.out HIp.out.1 (by omega) (hsc.below hbd) HCn.out hcc (fun z hz => HIc.out.1.range z hz) (by omega)).mono ?_
            rintro e w' ⟨rfl, hb⟩
            have hb2 : Below wr.heap.size wr w' := hbd.trans hb
            refine ⟨by rw [HX.out], (hb2.cell (p := ⟨R, i, none⟩) hgs9).trans cR, (hb2.cell (p := ⟨Q, j, none⟩) hgs8).trans cQ, (hb2.frozen (p := ⟨Q, j, none⟩) hgs8).trans fQ, HB.out.trans (hb2.mono HB.out.size), HT3.out w' fun q _ hq => hb2.block q hq⟩
          clear hOi hce8 hfr8 hce9 hfr9 hrowg hlen2 hsc hbd HT3
          go_upto_region 12 with fail
          go_region_with (go_at_call 27; with_reducible (refine HC1.out.mono ?_); rintro e W1 ⟨rfl, k1, k2, k3, k4, k5⟩)
          all_goals (
            go_wp2_with fail
            go_roundw
            case rel => exact ⟨j + 1, by omega, by go_num, k5, k4.out.setCell (p := ⟨Q, j, none⟩) HQw.out _⟩
            case measure => simp [intOf]; omega)
        · obtain rfl : j = n := by omega
          have HT4 : Hid (TblV wr R (.slice (some ⟨R, 0, none⟩) j j) vs2 (tabK P (i + 1))) := by
            have h := HT.out
            rw [show rowK P i j = rowK P i P.length by rw [HN.out], tabK_set] at h
            exact h
          go_wp2
          go_roundw
          case rel => exact ⟨i + 1, vs2, by omega, by go_num, HT4, HB⟩
          case measure => simp [intOf]; omega
    · obtain rfl : i = n := by omega
      have HTe : Hid (Tbl wr w.heap.size (.slice (some ⟨R, 0, none⟩) i i) (chK P)) := by
        have h := HT.out
        rw [show tabK P i = chK P by rw [HN.out]; exact tabK_full P] at h
        exact (show Tbl wr R _ _ from ⟨vs, h⟩).mono (by rw [HR.out]; exact HB1.out.size)
      have HBw : Hid (Below w.heap.size w wr) := HB1.out.trans (HB.out.mono HB1.out.size)
      go_wp2
      go_ret2
      exact ⟨_, rfl, HTe.out, HBw.out⟩

end Go.Proofs.Ytheebpjkjclgbaa
