/-
  The contracts of math/bits.Mul as slices.Repeat calls it, of slices.Repeat of one number (up to 60 times).
-/
import Derived.Test.YtlghldfolfmoeaaDoorBApp
import Derived.Deep.RegionLaw
import Derived.Deep.RegionWith
namespace Go.Proofs.YtlghldfolfmoeaaDoor
open Go.RowKit

/-- The upper half of a product. -/
def mulHi (c : Int) : Int :=
  IntKind.u64.wrap (IntKind.u64.wrap (IntKind.u64.wrap (IntKind.u64.wrap (bits BinOp.and IntKind.u64 1 4294967295 * bits BinOp.and IntKind.u64 c 4294967295) / 4294967296) / 4294967296) +
    IntKind.u64.wrap (bits BinOp.and IntKind.u64 (IntKind.u64.wrap (IntKind.u64.wrap (bits BinOp.and IntKind.u64 1 4294967295 * bits BinOp.and IntKind.u64 c 4294967295) / 4294967296)) 4294967295 + IntKind.u64.wrap (bits BinOp.and IntKind.u64 1 4294967295 * (c / 4294967296))) / 4294967296)
theorem mulHi_zero : ∀ c : Nat, c < 61 → mulHi (c : Int) = 0 := by decide +kernel

set_option maxHeartbeats 4000000 in
set_option maxRecDepth 100000 in
theorem Mul64_one (c : Nat) (w : World) (hc : c < 61) : Calls Tryd.prog 44 #[.int .u64 1, .int .u64 c] w fun e w' => e = .returned (.tuple #[.int .u64 0, .int .u64 c]) ∧ w' = w := by
  go_enter Tryd.func44, Tryd.ntmps44
  go_wp2
  go_ret2
  refine ⟨?_, rfl⟩
  show Ending.returned (Value.tuple #[.int .u64 (mulHi (c : Int)), .int .u64 c]) = _
  rw [mulHi_zero c hc]
set_option maxHeartbeats 4000000 in
set_option maxRecDepth 100000 in
theorem Mul_one (c : Nat) (w : World) (hc : c < 61) : Calls Tryd.prog 31 #[.int .u64 1, .int .u64 c] w fun e w' => e = .returned (.tuple #[.int .u64 0, .int .u64 c]) ∧ w' = w := by
  go_enter Tryd.func31, Tryd.ntmps31
  go_wp2_with fail
  refine (Mul64_one c w hc).mono ?_
  rintro e w1 ⟨rfl, hw1⟩
  obtain rfl : w = w1 := hw1.symm
  clear hw1
  go_wp2
  go_ret2
  exact ⟨rfl, rfl⟩

/-- The first n cells are x, the others 0. -/
def repC (x : Int) (n c : Nat) : List Value := List.replicate n (Value.int .i64 x) ++ List.replicate (c - n) (Value.int .i64 0)
theorem repC_step {x : Int} {n c m : Nat} (h : n + m ≤ c) : (repC x n c).take n ++ List.replicate m (Value.int .i64 x) ++ (repC x n c).drop (n + m) = repC x (n + m) c := by
  unfold repC
  rw [List.take_left' (by simp), List.drop_append, List.drop_eq_nil_of_le (by simp), List.nil_append, List.replicate_append_replicate]
  rw [List.length_replicate, List.drop_replicate]
  congr 2
  omega

set_option maxHeartbeats 8000000 in
set_option maxRecDepth 100000 in
theorem Repeat_at (a : Option Addr) (cap : Nat) (x : Int) (c : Nat) (w : World) (hs : Shows w a [x]) (h1 : 0 < c) (h2 : c < 61) :
    Calls Tryd.prog 18 #[.slice a 1 cap, .int .i64 c] w fun e w' => ∃ v, e = .returned v ∧ Owns w' w.heap.size v (List.replicate c x) ∧ Below w.heap.size w w' := by
  obtain ⟨i0, hi, hz0, hz1, hz2⟩ := info_parts Tryd.info3
  have HS : Hid (Shows w a [x]) := hs
  clear hs
  have hneg : ¬ (c : Int) < 0 := by omega
  go_enter Tryd.func18, Tryd.ntmps18
  go_wp2_with fail
  refine (Mul_one c w h2).mono ?_
  rintro e w1 ⟨rfl, hw1⟩
  obtain rfl : w = w1 := hw1.symm
  clear hw1
  go_wp2_with (at_make; refine wpList_make_full _ rfl _ _ 22 rfl w.heap.size 3 i0 (.int .i64 0) 1 Tryd.underlying22 hi hz0 hz1 _ _ _ _ c rfl rfl rfl rfl ?b1 ?b2 ?b3 ?_)
  case b1 => rw [hz2]; omega
  case b2 => unfold maxLen; omega
  case b3 => exact Nat.le_refl _
  intro w1 hown hgrow
  have HB1 : Hid (Below w.heap.size w w1) := (Below.refl _ _).grown hgrow (Nat.le_refl _) (fun k h => by cases h)
  have hrow : w1.heap[w.heap.size]? = some (.cells (List.replicate c (Value.int .i64 0)).toArray 3 (0, 0)) := by
    rcases hown.2 with ⟨h2, _⟩ | ⟨g', cap', cur, hv, hg, hh, h4, h5, h6, h7⟩
    · cases h2
    · simp only [Value.slice.injEq, Option.some.injEq, Addr.mk.injEq, and_true, true_and] at hv
      obtain ⟨rfl, rfl⟩ := hv
      rw [hh]
      have e0 : cur.toList = List.replicate c (Value.int .i64 0) := by
        rw [← toList_madeCells_one, List.take_of_length_le (by simp [h6])] at *
        rw [h7]
        try simp [Value.cells]
      rw [← e0]
  obtain ⟨b, off, ha, _, hcell⟩ := (HS.out.below HB1.out).cells (by simp)
  subst ha
  have hrun := run_copy_row (P := Tryd.prog) w1 22 22 3 3 w.heap.size 0 c c ⟨b, off, none⟩ 1 cap _ 3 [Value.int .i64 x] Tryd.underlying22 Tryd.sz3 hrow (show 1 = Nat.min 1 c from (Nat.min_eq_left (by omega : 1 ≤ c)).symm) (fun j v hj => by
    match j, hj with
    | 0, hj => simp at hj; subst hj; rw [Addr.add_lit, hcell 0 (by simp)]; rfl) (by simp; omega) (by simp [Value.oneCell'])
  simp only [List.length_singleton] at hrun
  obtain ⟨w2, HW2⟩ : ∃ w2, Hid (w2 = w1.setRow w.heap.size ((List.replicate c (Value.int IntKind.i64 0)).toArray.toList.take 0 ++ [Value.int .i64 x] ++ (List.replicate c (Value.int IntKind.i64 0)).toArray.toList.drop (0 + 1)).toArray) := ⟨_, rfl⟩
  rw [← HW2.out] at hrun
  have HR2 : Hid (w2.heap[w.heap.size]? = some (.cells (repC x 1 c).toArray 3 (0, 0))) := by
    rw [HW2.out]
    show _ = _
    rw [setRow_heap w1 w.heap.size _ _ 3 _ hrow]
    congr 2
    unfold repC
    simp [List.drop_replicate]
  have HB2 : Hid (Below w.heap.size w w2) := by rw [HW2.out]; exact below_setRow HB1.out (Nat.le_refl _) _
  clear hrow hown hgrow hcell
  go_wp2
  go_loopw [8] (fun q wr => ∃ n : Nat, 0 < n ∧ n ≤ c ∧ q = .int .i64 n ∧ Hid (wr.heap[w.heap.size]? = some (.cells (repC x n c).toArray 3 (0, 0))) ∧ Hid (Below w.heap.size w wr)) (fun q _ => c - (intOf q).toNat)
  case atStart => exact ⟨1, by omega, by omega, rfl, HR2, HB2⟩
  case round =>
    obtain ⟨n, hn0, hnc, rfl, HR, HB⟩ := hrel
    by_cases hlt : n < c
    · have hlt' : (n : Int) < (c : Int) := by omega
      have hle : (n : Int) ≤ (c : Int) := by omega
      have hnz : ¬ c = n := by omega
      obtain ⟨m, HM⟩ : ∃ m, Hid (m = Nat.min n (c - n)) := ⟨_, rfl⟩
      have hm : m ≤ n ∧ n + m ≤ c ∧ 0 < m := by rw [HM.out]; simp [Nat.min_def]; split <;> omega
      have hcell : ∀ j, j < n → wr.drew.cell? ⟨w.heap.size, j, none⟩ = some (Value.int .i64 x) := fun j hj => by
        have ho : Owns wr w.heap.size (.slice (some ⟨w.heap.size, 0, none⟩) c c) (List.replicate n x ++ List.replicate (c - n) 0) := by
          refine owns_of_row (Nat.le_refl _) ?_ (by simp; omega) (by simp; omega)
          rw [HR.out]; simp [repC]
        have := (ho.at (by simp; omega)).2.2 j (by simp; omega)
        have e : (List.replicate n x ++ List.replicate (c - n) (0 : Int)).getD j 0 = x := by
          simp [List.getD, List.getElem?_append_left (show j < (List.replicate n x).length by simp; exact hj), hj]
        rw [e] at this
        exact this
      have hrun := run_copy_row (P := Tryd.prog) wr.drew 22 22 3 3 w.heap.size n (c - n) (c - n) ⟨w.heap.size, 0, none⟩ n c _ 3 (List.replicate m (Value.int .i64 x)) Tryd.underlying22 Tryd.sz3 HR.out (by simp [HM.out]) (fun j v hj => by
        have hj' : j < m := by have := (List.getElem?_eq_some_iff.1 hj).1; simpa using this
        rw [List.getElem?_replicate, if_pos hj'] at hj
        simp only [Option.some.injEq] at hj
        subst hj
        rw [Addr.add_lit, Nat.zero_add]; exact hcell j (by omega)) (by simp [repC]; omega) (by intro v hv; rw [(List.mem_replicate.1 hv).2]; rfl)
      simp only [List.length_replicate] at hrun
      obtain ⟨w3, HW3⟩ : ∃ w3, Hid (w3 = wr.drew.setRow w.heap.size ((repC x n c).toArray.toList.take n ++ List.replicate m (Value.int .i64 x) ++ (repC x n c).toArray.toList.drop (n + m)).toArray) := ⟨_, rfl⟩
      rw [← HW3.out] at hrun
      have HR3 : Hid (w3.heap[w.heap.size]? = some (.cells (repC x (n + m) c).toArray 3 (0, 0))) := by
        rw [HW3.out]
        show _ = _
        rw [setRow_heap wr.drew w.heap.size _ _ 3 _ HR.out]
        congr 2
        have := repC_step (x := x) (n := n) (c := c) (m := m) (by omega)
        simpa using this
      have HB3 : Hid (Below w.heap.size w w3) := by rw [HW3.out]; exact below_setRow (below_drewN HB.out 1) (Nat.le_refl _) _
      have hnm : IntKind.i64.wrap ((n : Int) + (m : Int)) = ((n + m : Nat) : Int) := by rw [IntWalk.i64_left, IntWalk.wrap64_in _ (by omega)]; omega
      clear hcell
      go_wp2_with fail
      go_region
      go_wp2
      go_roundw
      case rel => exact ⟨n + m, by omega, by omega, by first | rfl | go_num, HR3, HB3⟩
      case measure => simp [intOf]; omega
    · obtain rfl : n = c := by omega
      have hlt' : ¬ (n : Int) < (n : Int) := by omega
      have HO : Hid (Owns wr w.heap.size (.slice (some ⟨w.heap.size, 0, none⟩) n n) (List.replicate n x)) := by
        refine owns_of_row (Nat.le_refl _) ?_ (by simp) (by simp; omega)
        rw [HR.out]; simp [repC]
      go_wp2
      go_ret
      exact ⟨_, rfl, by simpa using HO.out, HB.out⟩

set_option maxHeartbeats 8000000 in
set_option maxRecDepth 100000 in
theorem Repeat_zero (a : Option Addr) (cap : Nat) (x : Int) (w : World) (hs : Shows w a [x]) :
    Calls Tryd.prog 18 #[.slice a 1 cap, .int .i64 0] w fun e w' => ∃ v, e = .returned v ∧ Owns w' w.heap.size v [] ∧ Below w.heap.size w w' := by
  obtain ⟨i0, hi, hz0, hz1, hz2⟩ := info_parts Tryd.info3
  have HS : Hid (Shows w a [x]) := hs
  clear hs
  go_enter Tryd.func18, Tryd.ntmps18
  go_wp2_with fail
  refine (Mul_one 0 w (by omega)).mono ?_
  rintro e w1 ⟨rfl, hw1⟩
  obtain rfl : w = w1 := hw1.symm
  clear hw1
  go_wp2_with (at_make; refine wpList_make_full _ rfl _ _ 22 rfl w.heap.size 3 i0 (.int .i64 0) 1 Tryd.underlying22 hi hz0 hz1 _ _ _ _ 0 rfl rfl rfl rfl ?b1 ?b2 ?b3 ?_)
  case b1 => rw [hz2]; omega
  case b2 => unfold maxLen; omega
  case b3 => exact Nat.le_refl _
  intro w1 hown hgrow
  have HB1 : Hid (Below w.heap.size w w1) := (Below.refl _ _).grown hgrow (Nat.le_refl _) (fun k h => by cases h)
  have HO : Hid (Owns w1 w.heap.size (.slice (some ⟨w.heap.size, 0, none⟩) 0 0) []) := by
    have := hown
    rw [toList_madeCells_one] at this
    exact this
  have hrun : Sem.run Tryd.prog (Builtin.copy_ #[22, 22] 3 #[.slice (some ⟨w.heap.size, 0, none⟩) 0 0, .slice a 1 cap]) w1 = .ok (.int .i64 0) w1 := run_copy_none (P := Tryd.prog) w1 22 22 3 3 _ _ _ _ _ _ Tryd.underlying22 Tryd.sz3 (by simp)
  clear hown hgrow
  go_wp2
  go_loopw [8] (fun q wr => q = .int .i64 0 ∧ wr = w1) (fun _ _ => 0)
  case atStart => exact ⟨rfl, rfl⟩
  case round =>
    obtain ⟨rfl, rfl⟩ := hrel
    go_wp2
    go_ret
    exact ⟨_, rfl, HO.out, HB1.out⟩
end Go.Proofs.YtlghldfolfmoeaaDoor
