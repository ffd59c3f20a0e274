/-
  paths.within: are all points of the grid?
-/
import Derived.Test.YtapchcamjeafmaaDoorBApp
import Derived.Deep.DeepCutAuto
namespace Go.Proofs.YtapchcamjeafmaaDoor
open Go.RowKit

/-- The address shows these points. -/
def PtI (w : World) (a : Option Addr) (ps : List (Int × Int)) : Prop := ∀ j, j < ps.length → ∃ b off, a = some ⟨b, off, none⟩ ∧ b < w.heap.size ∧ w.cell? ⟨b, off + j * 2, none⟩ = some (.int .i64 (ps.getD j (0, 0)).1) ∧ w.cell? ⟨b, off + j * 2 + 1, none⟩ = some (.int .i64 (ps.getD j (0, 0)).2)
theorem PtI.below {w w' : World} {a : Option Addr} {ps : List (Int × Int)} (h : PtI w a ps) (hb : Below w.heap.size w w') : PtI w' a ps := fun j hj => by
  obtain ⟨b, off, h1, h2, h3, h4⟩ := h j hj
  exact ⟨b, off, h1, Nat.lt_of_lt_of_le h2 hb.size, (hb.cell (p := ⟨b, off + j * 2, none⟩) h2).trans h3, (hb.cell (p := ⟨b, off + j * 2 + 1, none⟩) h2).trans h4⟩
def inG (gw gh : Int) (p : Int × Int) : Bool := decide (0 ≤ p.1) && decide (p.1 < gw) && decide (0 ≤ p.2) && decide (p.2 < gh)
def gridV (gw gh : Int) (bv : Value) : Value := .agg #[.int .i64 gw, .int .i64 gh, bv]

set_option maxHeartbeats 4000000 in
set_option maxRecDepth 100000 in
theorem within_at (gw gh : Int) (bv : Value) (a : Option Addr) (n c : Nat) (ps : List (Int × Int)) (w : World) (hn : n = ps.length) (hl : n ≤ 17592186044416) (hP : PtI w a ps) (B : Bool) (hB : ps.all (inG gw gh) = B) :
    Calls Tryd.prog 10 #[gridV gw gh bv, .slice a n c] w fun e w' => e = .returned (.bool B) ∧ Hid (Below w.heap.size w w') := by
  have HP : Hid (PtI w a ps) := hP
  have HB : Hid (ps.all (inG gw gh) = B) := hB
  have HN : Hid (n = ps.length) := hn
  unfold gridV
  obtain ⟨Q, HQ⟩ : ∃ Q, Hid (Q = w.heap.size) := ⟨_, rfl⟩
  obtain ⟨W0, HW0⟩ : ∃ W0, Hid (W0 = w.alloc (.cells #[.int .i64 gw, .int .i64 gh, bv] 24)) := ⟨_, rfl⟩
  have HB0 : Hid (Below w.heap.size w W0) := by rw [HW0.out]; exact (Below.refl _ _).alloc (Nat.le_refl _) _
  have HQb : Hid (W0.heap[Q]? = some (.cells #[.int .i64 gw, .int .i64 gh, bv] 24 (0, 0))) := by
    rw [HW0.out, HQ.out]
    show (w.heap.push _)[w.heap.size]? = _
    rw [Array.getElem?_push_size]
  clear hP hB hn
  go_enter Tryd.func10, Tryd.ntmps10
  go_upto_region 1 with fail
  rw [← HQ.out, ← HW0.out]
  go_wp2_with fail
  go_loopw [9] (fun iv wr => ∃ i : Nat, i ≤ n ∧ iv = .int .i64 (i : Int) ∧ Hid ((ps.drop i).all (inG gw gh) = B) ∧ Hid (Below W0.heap.size W0 wr)) (fun iv _ => n - (intOf iv).toNat)
  case atStart => exact ⟨0, Nat.zero_le _, rfl, HB, Below.refl _ _⟩
  case round =>
    obtain ⟨i, hi, rfl, HR, HBr⟩ := hrel
    by_cases hlt : i < n
    · have hlt' : (i : Int) < (n : Int) := by omega
      have hiz : i < ps.length := by rw [← HN.out]; exact hlt
      have HBw : Hid (Below w.heap.size w wr) := HB0.out.trans (HBr.out.mono HB0.out.size)
      obtain ⟨b, off, ha, hb, k0, k1⟩ := (HP.out.below HBw.out) i hiz
      subst ha
      obtain ⟨x, y, HXY⟩ : ∃ x y, Hid (ps.getD i (0, 0) = (x, y)) := ⟨_, _, rfl⟩
      rw [HXY.out] at k0 k1
      have HR2 : Hid ((inG gw gh (x, y) && (ps.drop (i + 1)).all (inG gw gh)) = B) := by
        show _ = _
        have e : ps.drop i = ps.getD i (0, 0) :: ps.drop (i + 1) := by
          rw [List.drop_eq_getElem_cons hiz]; simp [List.getD, List.getElem?_eq_getElem hiz]
        rw [← HR.out, e, HXY.out]; rfl
      obtain ⟨P, HPp⟩ : ∃ P, Hid (P = wr.heap.size) := ⟨_, rfl⟩
      obtain ⟨W1, HW1⟩ : ∃ W1, Hid (W1 = wr.alloc (.cells #[.int .i64 x, .int .i64 y] 29)) := ⟨_, rfl⟩
      have hB1 : Below wr.heap.size wr W1 := by rw [HW1.out]; exact (Below.refl _ _).alloc (Nat.le_refl _) _
      have HB2 : Hid (Below W0.heap.size W0 W1) := HBr.out.trans (hB1.mono HBr.out.size)
      have hPb : W1.heap[P]? = some (.cells #[.int .i64 x, .int .i64 y] 29 (0, 0)) := by
        rw [HW1.out, HPp.out]
        show (wr.heap.push _)[wr.heap.size]? = _
        rw [Array.getElem?_push_size]
      have hQb : W1.heap[Q]? = some (.cells #[.int .i64 gw, .int .i64 gh, bv] 24 (0, 0)) := by
        rw [HB2.out.block Q (by
          rcases Nat.lt_or_ge Q W0.heap.size with q | q
          · exact q
          · have := HQb.out; rw [Array.getElem?_eq_none q] at this; cases this)]
        exact HQb.out
      have p0 : W1.cell? ⟨P, 0, none⟩ = some (.int .i64 x) := by rw [cell_of_row W1 P 0 _ _ _ hPb]; rfl
      have p1 : W1.cell? ⟨P, 1, none⟩ = some (.int .i64 y) := by rw [cell_of_row W1 P 1 _ _ _ hPb]; rfl
      have q0 : W1.cell? ⟨Q, 0, none⟩ = some (.int .i64 gw) := by rw [cell_of_row W1 Q 0 _ _ _ hQb]; rfl
      have q1 : W1.cell? ⟨Q, 1, none⟩ = some (.int .i64 gh) := by rw [cell_of_row W1 Q 1 _ _ _ hQb]; rfl
      have HBe : Hid (Below w.heap.size w W1) := HB0.out.trans (HB2.out.mono HB0.out.size)
      clear hB1 hPb hQb
      go_upto_region 4 with fail
      rw [← HPp.out, ← HW1.out]
      clear k0 k1
      go_cut [34] (fun s34 wx => s34 = .bool (!inG gw gh (x, y)) ∧ Hid (wx = W1))
      case first =>
        by_cases h1 : x < 0
        · have HE : Hid (inG gw gh (x, y) = false) := by show _ = _; unfold inG; simp; omega
          go_wp2_with fail
          go_meet
          exact ⟨by rw [HE.out]; first | rfl | (simp; omega), rfl⟩
        · by_cases h2 : x ≥ gw
          · have HE : Hid (inG gw gh (x, y) = false) := by show _ = _; unfold inG; simp; omega
            go_wp2_with fail
            go_meet
            exact ⟨by rw [HE.out]; first | rfl | (simp; omega), rfl⟩
          · by_cases h3 : y < 0
            · have HE : Hid (inG gw gh (x, y) = false) := by show _ = _; unfold inG; simp; omega
              go_wp2_with fail
              go_meet
              exact ⟨by rw [HE.out]; first | rfl | (simp; omega), rfl⟩
            · by_cases h4 : y ≥ gh
              · have HE : Hid (inG gw gh (x, y) = false) := by show _ = _; unfold inG; simp; omega
                go_wp2_with fail
                go_meet
                exact ⟨by rw [HE.out]; first | rfl | (simp; omega), rfl⟩
              · have HE : Hid (inG gw gh (x, y) = true) := by show _ = _; unfold inG; simp; omega
                go_wp2_with fail
                go_meet
                exact ⟨by rw [HE.out]; first | rfl | (simp; omega), rfl⟩
      obtain ⟨rfl, HWx⟩ := hcut
      obtain rfl : W1 = wc := HWx.out.symm
      clear HWx p0 p1 q0 q1
      cases hin : inG gw gh (x, y) with
      | false =>
        have hE : B = false := by rw [← HR2.out, hin]; rfl
        subst hE
        go_wp2
        go_ret
        exact ⟨rfl, HBe⟩
      | true =>
        have HR3 : Hid ((ps.drop (i + 1)).all (inG gw gh) = B) := by show _ = _; rw [← HR2.out, hin]; rfl
        go_wp2
        go_roundw
        case rel => exact ⟨i + 1, by omega, by go_num, HR3, HB2⟩
        case measure => simp [intOf]; omega
    · obtain rfl : i = n := by omega
      have hlt' : ¬ ((i : Int) < (i : Int)) := by omega
      have hE : B = true := by rw [← HR.out, List.drop_of_length_le (by rw [HN.out]; exact Nat.le_refl _)]; rfl
      subst hE
      have HBe : Hid (Below w.heap.size w wr) := HB0.out.trans (HBr.out.mono HB0.out.size)
      go_wp2
      go_ret
      exact ⟨rfl, HBe⟩

end Go.Proofs.YtapchcamjeafmaaDoor
