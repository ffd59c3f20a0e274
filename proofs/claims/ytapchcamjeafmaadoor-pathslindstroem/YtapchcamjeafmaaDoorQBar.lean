/-
  paths.barred.
-/
import Derived.Test.YtapchcamjeafmaaDoorQWin
import Derived.Test.YtapchcamjeafmaaDoorQFms
import Derived.Laws.ResultCell
namespace Go.Proofs.YtapchcamjeafmaaDoor
open Go.RowKit

def badD (gw gh : Int) : Bool := decide (gw < 1) || decide (8 < gw) || decide (gh < 1) || decide (8 < gh)
theorem built_marks : Tryd.prog.built 42 [] = some (mkC fun _ => false) := by kernel_rfl
theorem mkC_one (cl : Nat → Bool) : (mkC cl).all (·.oneCell') = true := by
  rw [Array.all_eq_true_iff_forall_mem]
  intro x hx
  unfold mkC at hx
  rw [List.mem_toArray, List.mem_map] at hx
  obtain ⟨k, _, rfl⟩ := hx
  rfl
theorem load_marks (w : World) (g : Nat) (cl : Nat → Bool) (h : w.heap[g]? = some (.cells (mkC cl) 42 (0, 0))) : (loadVar 42 ⟨g, 0, none⟩).run Tryd.prog w = .ok (.agg (mkC cl)) w :=
  run_loadVar_row w g 42 42 _ (0, 0) _ h Tryd.underlying42 rfl (by rw [infoM, mkC_size])

theorem wpList_buildm {ops : Array Oper} {rest : List Oper} {o : Oper} {a : Act} {w : World} {Q : Exit → Act → World → Prop} (hg : o.guard = none) (ho : o.op = .build 42 #[])
    (h : wpList Tryd.prog ops Q rest (a.put o.dst (.agg (mkC fun _ => false))) w) : wpList Tryd.prog ops Q (o :: rest) a w :=
  wpList_plain hg fun _ hK => wp_build 42 #[] ho (by simp [built_marks]) (by simpa [built_marks] using hK _ _ h)
theorem wpList_storem {ops : Array Oper} {rest : List Oper} {o : Oper} {a : Act} {w : World} {Q : Exit → Act → World → Prop} (hgd : o.guard = none) (x y : Operand) (ho : o.op = .store 42 x y)
    (g : Nat) (cl old : Nat → Bool) (hx : a.eval x = .pointer (some ⟨g, 0, none⟩)) (hy : a.eval y = .agg (mkC cl)) (hg : w.heap[g]? = some (.cells (mkC old) 42 (0, 0)))
    (h : wpList Tryd.prog ops Q rest (a.put o.dst undef) (w.setRow g (mkC cl))) : wpList Tryd.prog ops Q (o :: rest) a w :=
  wpList_store_row hgd 42 x y ho g (mkC cl) hx hy 42 (mkC old) hg (by rw [infoM, mkC_size]) (by rw [mkC_size, mkC_size]) (mkC_one cl) h

theorem below_setRow {B : Nat} {a w : World} (h : Below B a w) (g : Nat) (hg : B ≤ g) (cs : Array Value) : Below B a (w.setRow g cs) :=
  h.trans ⟨rfl, rfl, rfl, by simp [World.setRow], fun k hk => setRow_other _ _ _ _ (by omega)⟩

set_option maxHeartbeats 4000000 in
set_option maxRecDepth 100000 in
theorem barred_dim (gw gh : Int) (bv : Value) (w : World) (hb : badD gw gh = true) :
    Calls Tryd.prog 9 #[gridV gw gh bv] w fun e w' => e = .returned (.tuple #[.agg (mkC fun _ => false), .int .i64 1]) ∧ Hid (Below w.heap.size w w') := by
  unfold gridV
  obtain ⟨Q, HQ⟩ : ∃ Q, Hid (Q = w.heap.size) := ⟨_, rfl⟩
  obtain ⟨W0, HW0⟩ : ∃ W0, Hid (W0 = (w.alloc (.cells #[.int .i64 gw, .int .i64 gh, bv] 24)).alloc (.cells (mkC fun _ => false) 42)) := ⟨_, rfl⟩
  have HBd : Hid (badD gw gh = true) := hb
  have HB0 : Hid (Below w.heap.size w W0) := by rw [HW0.out]; exact ((Below.refl _ _).alloc (Nat.le_refl _) _).alloc (by simp) _
  have hs1 : (w.alloc (.cells #[.int .i64 gw, .int .i64 gh, bv] 24)).heap.size = w.heap.size + 1 := by simp
  have HQb : Hid (W0.heap[Q]? = some (.cells #[.int .i64 gw, .int .i64 gh, bv] 24 (0, 0))) := by
    show _ = _
    rw [HW0.out, HQ.out]
    show ((w.heap.push _).push _)[w.heap.size]? = _
    rw [Array.getElem?_push, if_neg (by simp), Array.getElem?_push_size]
  have HRb : Hid (W0.heap[Q + 1]? = some (.cells (mkC fun _ => false) 42 (0, 0))) := by
    show _ = _
    rw [HW0.out, HQ.out, ← hs1]; exact heap_alloc_last _ _
  clear hs1
  have q0 : W0.cell? ⟨Q, 0, none⟩ = some (.int .i64 gw) := by rw [cell_of_row W0 Q 0 _ _ _ HQb.out]; rfl
  have q1 : W0.cell? ⟨Q, 1, none⟩ = some (.int .i64 gh) := by rw [cell_of_row W0 Q 1 _ _ _ HQb.out]; rfl
  clear hb
  go_enter Tryd.func9, Tryd.ntmps9
  go_upto_region 1 with fail
  change Code.wp _ _ _ _ ((w.alloc (.cells #[.int .i64 gw, .int .i64 gh, bv] 24)).alloc (.cells (mkC fun _ => false) 42))
  rw [← HQ.out, ← HW0.out]
  go_cut [24] (fun s24 wx => s24 = .bool (badD gw gh) ∧ Hid (wx = W0))
  case first =>
    by_cases h1 : gw < 1
    · have HE : Hid (badD gw gh = true) := by show _ = _; unfold badD; simp [h1]
      go_wp2_with fail
      go_meet
      exact ⟨by first | (rw [HE.out]; done) | (rw [HE.out]; simp; omega), rfl⟩
    · by_cases h2 : gw > 8
      · have HE : Hid (badD gw gh = true) := by show _ = _; unfold badD; simp; omega
        go_wp2_with fail
        go_meet
        exact ⟨by first | (rw [HE.out]; done) | (rw [HE.out]; simp; omega), rfl⟩
      · by_cases h3 : gh < 1
        · have HE : Hid (badD gw gh = true) := by show _ = _; unfold badD; simp; omega
          go_wp2_with fail
          go_meet
          exact ⟨by first | (rw [HE.out]; done) | (rw [HE.out]; simp; omega), rfl⟩
        · by_cases h4 : gh > 8
          · have HE : Hid (badD gw gh = true) := by show _ = _; unfold badD; simp; omega
            go_wp2_with fail
            go_meet
            exact ⟨by first | (rw [HE.out]; done) | (rw [HE.out]; simp; omega), rfl⟩
          · have HE : Hid (badD gw gh = false) := by show _ = _; unfold badD; simp; omega
            go_wp2_with fail
            go_meet
            exact ⟨by first | (rw [HE.out]; done) | (rw [HE.out]; simp; omega), rfl⟩
  obtain ⟨rfl, HWx⟩ := hcut
  obtain rfl : W0 = wc := HWx.out.symm
  clear HWx q0 q1
  rw [HBd.out]
  have HBe : Hid (Below w.heap.size w (W0.setRow (Q + 1) (mkC fun _ => false))) := below_setRow HB0.out (Q + 1) (by rw [HQ.out]; omega) _
  have HLd : Hid ((loadVar 42 ⟨Q + 1, 0, none⟩).run Tryd.prog (W0.setRow (Q + 1) (mkC fun _ => false)) = .ok (.agg (mkC fun _ => false)) (W0.setRow (Q + 1) (mkC fun _ => false))) := load_marks _ _ _ (setRow_heap _ _ _ _ _ _ HRb.out)
  go_wp2_with (first | (refine wpList_buildm rfl rfl ?_) | (refine wpList_storem rfl (.tmp 2) (.tmp 25) rfl (Q + 1) (fun _ => false) (fun _ => false) rfl rfl HRb.out ?_))
  refine bodyPost_ret (v := .tuple #[.agg (mkC fun _ => false), .int .i64 1]) ?_ rfl ⟨rfl, HBe⟩
  rw [results_cell_tmp rfl]
  simp [asAddr, Result.andThen, HLd.out]

end Go.Proofs.YtapchcamjeafmaaDoor
