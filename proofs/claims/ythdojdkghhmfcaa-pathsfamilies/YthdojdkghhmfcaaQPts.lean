/-
  Lists of points: slices.Clone, Contains, ferref.In; points of the call's own.
-/
import Derived.Test.YthdojdkghhmfcaaQFst
import Derived.Lib.SliceRun
namespace Go.Proofs.Ythdojdkghhmfcaa
open Go.RowKit

def IdxP (k : Int) (p : Int × Int) (ps : List (Int × Int)) : Prop := decide (0 ≤ k) = decide (p ∈ ps)
set_option maxHeartbeats 4000000 in
theorem In_at (gw gh : Int) (bv : Value) (x y : Int) (w : World) (B : Bool) (hB : inG gw gh (x, y) = B) :
    Calls Try.prog 12 #[.agg #[.int .i64 gw, .int .i64 gh, bv], .agg #[.int .i64 x, .int .i64 y]] w fun e w' => e = .returned (.bool B) ∧ Hid (Below w.heap.size w w') := by
  obtain ⟨Q, HQ⟩ : ∃ Q, Hid (Q = w.heap.size) := ⟨_, rfl⟩
  obtain ⟨W0, HW0⟩ : ∃ W0, Hid (W0 = (w.alloc (.cells #[.int .i64 gw, .int .i64 gh, bv] 24)).alloc (.cells #[.int .i64 x, .int .i64 y] 39)) := ⟨_, rfl⟩
  have hs1 : (w.alloc (.cells #[.int .i64 gw, .int .i64 gh, bv] 24)).heap.size = w.heap.size + 1 := by simp
  have HB0 : Hid (Below w.heap.size w W0) := by rw [HW0.out]; exact ((Below.refl _ _).alloc (Nat.le_refl _) _).alloc (by simp) _
  have HQb : W0.heap[Q]? = some (.cells #[.int .i64 gw, .int .i64 gh, bv] 24 (0, 0)) := by
    rw [HW0.out, HQ.out, heap_alloc_old _ _ _ (by omega)]; exact heap_alloc_last _ _
  have HPb : W0.heap[Q + 1]? = some (.cells #[.int .i64 x, .int .i64 y] 39 (0, 0)) := by
    rw [HW0.out, HQ.out, ← hs1]; exact heap_alloc_last _ _
  have q0 : W0.cell? ⟨Q, 0, none⟩ = some (.int .i64 gw) := by rw [cell_of_row W0 Q 0 _ _ _ HQb]; rfl
  have q1 : W0.cell? ⟨Q, 1, none⟩ = some (.int .i64 gh) := by rw [cell_of_row W0 Q 1 _ _ _ HQb]; rfl
  have p0 : W0.cell? ⟨Q + 1, 0, none⟩ = some (.int .i64 x) := by rw [cell_of_row W0 (Q + 1) 0 _ _ _ HPb]; rfl
  have p1 : W0.cell? ⟨Q + 1, 1, none⟩ = some (.int .i64 y) := by rw [cell_of_row W0 (Q + 1) 1 _ _ _ HPb]; rfl
  have HE : Hid (inG gw gh (x, y) = B) := hB
  clear hs1 HQb HPb hB
  go_enter Try.func12, Try.ntmps12
  go_upto_region 1 with fail
  rw [← HQ.out, ← HW0.out]
  by_cases h1 : x ≥ 0
  · by_cases h2 : x < gw
    · by_cases h3 : y ≥ 0
      · by_cases h4 : y < gh
        · have hE : B = true := by rw [← HE.out]; unfold inG; simp; omega
          subst hE
          go_wp2
          go_ret
          exact ⟨by first | rfl | simp_all, HB0⟩
        · have hE : B = false := by rw [← HE.out]; unfold inG; simp; omega
          subst hE
          go_wp2
          go_ret
          exact ⟨by first | rfl | simp_all, HB0⟩
      · have hE : B = false := by rw [← HE.out]; unfold inG; simp; omega
        subst hE
        go_wp2
        go_ret
        exact ⟨by first | rfl | simp_all, HB0⟩
    · have hE : B = false := by rw [← HE.out]; unfold inG; simp; omega
      subst hE
      go_wp2
      go_ret
      exact ⟨by first | rfl | simp_all, HB0⟩
  · have hE : B = false := by rw [← HE.out]; unfold inG; simp; omega
    subst hE
    go_wp2
    go_ret
    exact ⟨by first | rfl | simp_all, HB0⟩

set_option maxHeartbeats 4000000 in
set_option maxRecDepth 100000 in
theorem IndexPt_at (a : Option Addr) (n c : Nat) (ps : List (Int × Int)) (x y : Int) (w : World) (hn : n = ps.length) (hl : n ≤ 17592186044416) (hP : PtI w a ps) :
    Calls Try.prog 22 #[.slice a n c, .agg #[.int .i64 x, .int .i64 y]] w fun e w' => ∃ k : Int, e = .returned (.int .i64 k) ∧ Hid (IdxP k (x, y) ps) ∧ Hid (Below w.heap.size w w') := by
  have HP : Hid (PtI w a ps) := hP
  have HN : Hid (n = ps.length) := hn
  obtain ⟨Q, HQ⟩ : ∃ Q, Hid (Q = w.heap.size) := ⟨_, rfl⟩
  obtain ⟨W0, HW0⟩ : ∃ W0, Hid (W0 = w.alloc (.cells #[.int .i64 x, .int .i64 y] 39)) := ⟨_, rfl⟩
  have HB0 : Hid (Below w.heap.size w W0) := by rw [HW0.out]; exact (Below.refl _ _).alloc (Nat.le_refl _) _
  have HQb : Hid (W0.heap[Q]? = some (.cells #[.int .i64 x, .int .i64 y] 39 (0, 0))) := by
    show _ = _
    rw [HW0.out, HQ.out]; exact heap_alloc_last _ _
  clear hP hn
  go_enter Try.func22, Try.ntmps22
  go_upto_region 1 with fail
  rw [← HQ.out, ← HW0.out]
  go_wp2_with fail
  go_loopw [8] (fun iv wr => ∃ (i : Nat), i ≤ n ∧ iv = .int .i64 (i : Int) ∧ Hid ((x, y) ∉ ps.take i) ∧ Hid (wr.heap[Q]? = some (.cells #[.int .i64 x, .int .i64 y] 39 (0, 0))) ∧ Hid (Below w.heap.size w wr)) (fun iv _ => n - (intOf iv).toNat)
  case atStart => exact ⟨0, Nat.zero_le _, rfl, by show _ ∉ _; simp, HQb, HB0⟩
  case round =>
    obtain ⟨i, hi, rfl, HT, HQr, HBr⟩ := hrel
    by_cases hlt : i < n
    · have hlt' : (i : Int) < (n : Int) := by omega
      have hiz : i < ps.length := by rw [← HN.out]; exact hlt
      obtain ⟨b, off, ha, hb, k0, k1⟩ := (HP.out.below HBr.out) i hiz
      subst ha
      obtain ⟨px, py, HXY⟩ : ∃ px py, Hid (ps.getD i (0, 0) = (px, py)) := ⟨_, _, rfl⟩
      rw [HXY.out] at k0 k1
      have hmem : (px, py) ∈ ps := by rw [← HXY.out]; simp [List.getD, List.getElem?_eq_getElem hiz]
      have HM : Hid ((px, py) ∈ ps) := hmem
      have HTk : Hid (ps.take (i + 1) = ps.take i ++ [(px, py)]) := by
        show _ = _
        rw [List.take_add_one, ← HXY.out]; simp [List.getD, hiz]
      have k0' : wr.drew.cell? ⟨b, off + i * 2, none⟩ = some (.int .i64 px) := k0
      have k1' : wr.drew.cell? ⟨b, off + i * 2 + 1, none⟩ = some (.int .i64 py) := k1
      have q0 : wr.drew.cell? ⟨Q, 0, none⟩ = some (.int .i64 x) := by rw [cell_of_row wr.drew Q 0 _ _ _ HQr.out]; rfl
      have q1 : wr.drew.cell? ⟨Q, 1, none⟩ = some (.int .i64 y) := by rw [cell_of_row wr.drew Q 1 _ _ _ HQr.out]; rfl
      have HBd : Hid (Below w.heap.size w wr.drew) := below_drewN HBr.out 1
      clear hmem
      go_upto_region 4 with fail
      by_cases hx : x = px
      · by_cases hy : y = py
        · subst hx hy
          go_region
          all_goals (
            go_wp2
            go_ret
            exact ⟨(i : Int), rfl, hid_w (by unfold IdxP; rw [decide_eq_true HM.out]; exact decide_eq_true (by omega)), HBd⟩)
        · have HN2 : Hid ((x, y) ∉ ps.take (i + 1)) := by
            show _ ∉ _
            rw [HTk.out]; intro q
            rcases List.mem_append.1 q with q | q
            · exact HT.out q
            · simp only [List.mem_singleton, Prod.mk.injEq] at q; exact hy q.2
          subst hx
          have hy' : (y == py) = false := by simpa using hy
          go_region
          all_goals (
            go_wp2
            go_roundw
            case rel => exact ⟨i + 1, by omega, by go_num, HN2, HQr, HBd⟩
            case measure => simp [intOf]; omega)
      · have HN2 : Hid ((x, y) ∉ ps.take (i + 1)) := by
          show _ ∉ _
          rw [HTk.out]; intro q
          rcases List.mem_append.1 q with q | q
          · exact HT.out q
          · simp only [List.mem_singleton, Prod.mk.injEq] at q; exact hx q.1
        have hx' : (x == px) = false := by simpa using hx
        go_region
        all_goals (
          go_wp2
          go_roundw
          case rel => exact ⟨i + 1, by omega, by go_num, HN2, HQr, HBd⟩
          case measure => simp [intOf]; omega)
    · obtain rfl : i = n := by omega
      have hlt' : ¬ ((i : Int) < (i : Int)) := by omega
      have HE : Hid (IdxP (-1) (x, y) ps) := by
        show decide (0 ≤ (-1 : Int)) = _
        have h := HT.out
        rw [List.take_of_length_le (by rw [HN.out]; exact Nat.le_refl _)] at h
        rw [decide_eq_false h]; rfl
      go_wp2
      go_ret
      exact ⟨-1, rfl, HE, HBr⟩

set_option maxHeartbeats 4000000 in
theorem ContainsPt_at (a : Option Addr) (n c : Nat) (ps : List (Int × Int)) (x y : Int) (w : World) (hn : n = ps.length) (hl : n ≤ 17592186044416) (hP : PtI w a ps) (B : Bool) (hB : decide ((x, y) ∈ ps) = B) :
    Calls Try.prog 13 #[.slice a n c, .agg #[.int .i64 x, .int .i64 y]] w fun e w' => e = .returned (.bool B) ∧ Hid (Below w.heap.size w w') := by
  have HB : Hid (decide ((x, y) ∈ ps) = B) := hB
  obtain ⟨Q, HQ⟩ : ∃ Q, Hid (Q = w.heap.size) := ⟨_, rfl⟩
  obtain ⟨W0, HW0⟩ : ∃ W0, Hid (W0 = w.alloc (.cells #[.int .i64 x, .int .i64 y] 39)) := ⟨_, rfl⟩
  have HB0 : Hid (Below w.heap.size w W0) := by rw [HW0.out]; exact (Below.refl _ _).alloc (Nat.le_refl _) _
  have HQb : W0.heap[Q]? = some (.cells #[.int .i64 x, .int .i64 y] 39 (0, 0)) := by
    rw [HW0.out, HQ.out]; exact heap_alloc_last _ _
  have q0 : W0.cell? ⟨Q, 0, none⟩ = some (.int .i64 x) := by rw [cell_of_row W0 Q 0 _ _ _ HQb]; rfl
  have q1 : W0.cell? ⟨Q, 1, none⟩ = some (.int .i64 y) := by rw [cell_of_row W0 Q 1 _ _ _ HQb]; rfl
  have HC : Hid (Calls Try.prog 22 #[.slice a n c, .agg #[.int .i64 x, .int .i64 y]] W0 fun e w' => ∃ k : Int, e = .returned (.int .i64 k) ∧ Hid (IdxP k (x, y) ps) ∧ Hid (Below W0.heap.size W0 w')) := IndexPt_at a n c ps x y W0 hn hl (hP.below HB0.out)
  clear hP hn hB HQb
  go_enter Try.func13, Try.ntmps13
  go_upto_region 1 with fail
  rw [← HQ.out, ← HW0.out]
  go_wp2_with (go_at_call 22; with_reducible (refine HC.out.mono ?_); rintro e W1 ⟨k, rfl, HK, HB1⟩)
  go_ret
  exact ⟨by rw [← HB.out, ← (show decide (0 ≤ k) = _ from HK.out)]; rfl, HB0.out.trans (HB1.out.mono HB0.out.size)⟩

end Go.Proofs.Ythdojdkghhmfcaa
