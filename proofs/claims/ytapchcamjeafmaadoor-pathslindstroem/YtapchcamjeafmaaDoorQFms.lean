/-
  paths.families.
-/
import Derived.Test.YtapchcamjeafmaaDoorQEnA
import Derived.Deep.WholeRow
import Derived.Deep.OwnRows
namespace Go.Proofs.YtapchcamjeafmaaDoor
open Go.RowKit

/-- An array of marks. -/
def mkC (cl : Nat → Bool) : Array Value := ((List.range 64).map fun k => Value.bool (cl k)).toArray
theorem mkC_get (cl : Nat → Bool) (j : Nat) (hj : j < 64) : (mkC cl)[j]? = some (.bool (cl j)) := by simp [mkC, hj]
theorem mkC_size (cl : Nat → Bool) : (mkC cl).size = 64 := by simp [mkC]
theorem zeroL : (Tryd.prog.info? 63).map (fun i => (i.zero, i.size)) = some (some (.agg (lkC (.slice none 0 0) (.slice none 0 0) (fun _ => false) (.slice none 0 0) 0 .nilFunc)), 69) := by kernel_rfl
set_option maxRecDepth 100000 in
theorem built_look (sa ea ta : Option Addr) (n1 c1 n2 c2 n3 c3 : Nat) (cl : Nat → Bool) (fn : Nat) (caps : Array Value) : Tryd.prog.built 63 [(0, .slice sa n1 c1), (1, .slice ea n2 c2), (2, .agg (mkC cl)), (3, .slice ta n3 c3), (5, .func (.func fn) #[] caps)] = some (lkC (.slice sa n1 c1) (.slice ea n2 c2) cl (.slice ta n3 c3) 0 (.func (.func fn) #[] caps)) := by kernel_rfl
theorem infoM : (Tryd.prog.info? 42).map (·.size) = some 64 := by kernel_rfl
theorem infoL : (Tryd.prog.info? 63).map (·.size) = some 69 := by kernel_rfl
theorem lkC_size (sv ev : Value) (cl : Nat → Bool) (tv : Value) (st : Nat) (fv : Value) : (lkC sv ev cl tv st fv).size = 69 := by simp [lkC]
theorem lkC_one (sa ea ta : Option Addr) (n1 c1 n2 c2 n3 c3 : Nat) (cl : Nat → Bool) (st fn : Nat) (caps : Array Value) : (lkC (.slice sa n1 c1) (.slice ea n2 c2) cl (.slice ta n3 c3) st (.func (.func fn) #[] caps)).all (·.oneCell') = true := by
  rw [Array.all_eq_true_iff_forall_mem]
  intro x hx
  unfold lkC at hx
  rw [List.mem_toArray, List.mem_map] at hx
  obtain ⟨k, hk, rfl⟩ := hx
  unfold lkF
  split
  · rfl
  split
  · rfl
  split
  · rfl
  split
  · rfl
  split
  · rfl
  · rfl
theorem step_loadmark {o : Oper} {a : Act} {w : World} {ops : Array Oper} {K : Act → World → Prop} {Q : Exit → Act → World → Prop} {EE : Prop} (hgd : o.guard = none) (x : Operand) (ho : o.op = .load 42 x)
    (g : Nat) (hx : a.eval x = .pointer (some ⟨g, 0, none⟩)) (cs : Array Value) (hg : w.heap[g]? = some (.cells cs 42 (0, 0))) (hi : cs.size = 64)
    (h : K (a.put o.dst (.agg cs)) w) : if Region.wanted o (yielded ops a.tmps) = true then Oper.wp Tryd.prog o a w K Q else EE := by
  have hw : Region.wanted o (yielded ops a.tmps) = true := by simp [Region.wanted, hgd]
  rw [if_pos hw]
  exact wp_load_row 42 x ho g hx 42 cs (0, 0) _ hg Tryd.underlying42 rfl (by rw [infoM, hi]) h
theorem step_storelook {o : Oper} {a : Act} {w : World} {ops : Array Oper} {K : Act → World → Prop} {Q : Exit → Act → World → Prop} {EE : Prop} (hgd : o.guard = none) (x y : Operand) (ho : o.op = .store 63 x y)
    (g : Nat) (cells old : Array Value) (hx : a.eval x = .pointer (some ⟨g, 0, none⟩)) (hy : a.eval y = .agg cells) (hg : w.heap[g]? = some (.cells old 63 (0, 0))) (hi : cells.size = 69) (hold : old.size = 69) (h1 : cells.all (·.oneCell') = true)
    (h : K (a.put o.dst undef) (w.setRow g cells)) : if Region.wanted o (yielded ops a.tmps) = true then Oper.wp Tryd.prog o a w K Q else EE := by
  have hw : Region.wanted o (yielded ops a.tmps) = true := by simp [Region.wanted, hgd]
  rw [if_pos hw]
  exact wp_store_row 63 x y ho g cells hx hy 63 old hg (by rw [infoL, hi]) (by rw [hold, hi]) h1 h
theorem step_buildlook {o : Oper} {a : Act} {w : World} {ops : Array Oper} {K : Act → World → Prop} {Q : Exit → Act → World → Prop} {EE : Prop} (hgd : o.guard = none) (parts : Array (Nat × Operand)) (ho : o.op = .build 63 parts)
    (l : List (Nat × Value)) (hl : (parts.map fun (i, x) => (i, a.eval x)).toList = l) (cells : Array Value) (hf : Tryd.prog.built 63 l = some cells)
    (h : K (a.put o.dst (.agg cells)) w) : if Region.wanted o (yielded ops a.tmps) = true then Oper.wp Tryd.prog o a w K Q else EE := by
  have hw : Region.wanted o (yielded ops a.tmps) = true := by simp [Region.wanted, hgd]
  rw [if_pos hw]
  subst hl
  exact wp_build 63 parts ho (by rw [hf]; rfl) (by rw [hf]; exact h)

end Go.Proofs.YtapchcamjeafmaaDoor
