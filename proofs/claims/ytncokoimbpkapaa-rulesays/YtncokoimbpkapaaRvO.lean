/-
  rule.eachFilling where nothing is to be looked for; an append of nothing.
-/
import Derived.Test.YtncokoimbpkapaaRvG
namespace Go.Proofs.Ytncokoimbpkapaa
open Go.RowKit

theorem run_append_none (w : World) (ty : TypeId) (N c : Nat) (ab : Option Addr) : (Builtin.append_ #[22, 22] ty #[.slice (some ⟨N, 0, none⟩) 1 1, .slice ab 0 c]).run Try.prog w = .ok (.slice (some ⟨N, 0, none⟩) 1 1) w := by
  obtain ⟨i0, hi, _, _, _⟩ := info_parts Try.info3
  cases ab with
  | none => simp [Builtin.append_, run_underlying Try.underlying22, sizeOf, typeInfo, hi, Builtin.lenOf, run_firstCells_none, storeCells, Result.andThen]
  | some ad =>
    have hf := run_firstCells_some (P := Try.prog) w i0.size 0 ad 0 c [] (by simp) (by simp)
    simp [Builtin.append_, run_underlying Try.underlying22, sizeOf, typeInfo, hi, Builtin.lenOf, hf, storeCells, Result.andThen]

/-- 'append' of nothing, in a region that draws its order. -/
theorem step_none {w : World} {N : Nat} {ops : Array Oper} {o : Oper} {a : Act} {K : Act → World → Prop} {Q : Exit → Act → World → Prop} {EE : Prop} (hgd : o.guard = none) (s y : Operand)
    (ho : o.op = .call { callee := .builtin .append, args := #[s, y], argTypes := #[22, 22] }) (hs : a.eval s = .slice (some ⟨N, 0, none⟩) 1 1) (ab : Option Addr) (n c : Nat) (hx : a.eval y = .slice ab n c) (hn : n = 0)
    (h : K (a.put o.dst (.slice (some ⟨N, 0, none⟩) (n + 1) 1)) w) :
    if Region.wanted o (yielded ops a.tmps) = true then Oper.wp Try.prog o a w K Q else EE := by
  subst hn
  have hw : Region.wanted o (yielded ops a.tmps) = true := by simp [Region.wanted, hgd]
  rw [if_pos hw]
  have hrun := run_append_none w o.type N c ab
  unfold Oper.wp
  simp [execOp, ho, resolve, invoke, builtin, hs, hx, hrun, Result.andThen]
  exact h
theorem grew_nil {bl : List Nat} (h : bl.length = 0) : Grew (castL bl) 1 #[Value.int .i64 0] := by
  have : bl = [] := List.eq_nil_of_length_eq_zero h
  subst this
  exact ⟨rfl, by simp [castL], by unfold maxLen; omega, rfl⟩

set_option maxHeartbeats 2000000 in
theorem each_no (aa ab ac : Option Addr) (ca cb cc : Nat) (al bl cl : List Nat) (fv : Value) (w : World) (ha : Shows w aa (castL al)) (hb : Shows w ab (castL bl)) (hc : Shows w ac (castL cl)) (h : al.sum + bl.sum ≠ cl.sum ∨ inB al cl = false) (h1 : al.sum ≤ 1000) (h2 : bl.sum ≤ 1000) (h3 : cl.sum ≤ 1000) :
    Calls Try.prog 11 #[.slice aa al.length ca, .slice ab bl.length cb, .slice ac cl.length cc, fv] w fun e w' => e = .returned (.tuple #[]) ∧ w' = w := by
  obtain ⟨sa, Hsa⟩ : ∃ x, Hid (x = al.sum) := ⟨_, rfl⟩
  obtain ⟨sb, Hsb⟩ : ∃ x, Hid (x = bl.sum) := ⟨_, rfl⟩
  obtain ⟨sc, Hsc⟩ : ∃ x, Hid (x = cl.sum) := ⟨_, rfl⟩
  have hsa : sa ≤ 1000 := by rw [Hsa.out]; omega
  have hsb : sb ≤ 1000 := by rw [Hsb.out]; omega
  have HS1 : Hid (Calls Try.prog 26 #[.slice aa al.length ca] w fun e w' => e = .returned (.int .i64 (sa : Int)) ∧ w' = w) := by rw [Hsa.out]; exact usize_at _ _ _ al w ha rfl (by omega)
  have HS2 : Hid (Calls Try.prog 26 #[.slice ab bl.length cb] w fun e w' => e = .returned (.int .i64 (sb : Int)) ∧ w' = w) := by rw [Hsb.out]; exact usize_at _ _ _ bl w hb rfl (by omega)
  have HS3 : Hid (Calls Try.prog 26 #[.slice ac cl.length cc] w fun e w' => e = .returned (.int .i64 (sc : Int)) ∧ w' = w) := by rw [Hsc.out]; exact usize_at _ _ _ cl w hc rfl (by omega)
  by_cases hs : al.sum + bl.sum = cl.sum
  · have hin : inB al cl = false := h.resolve_left (fun q => q hs)
    have HCON : Hid (Calls Try.prog 28 #[.slice ac cl.length cc, .slice aa al.length ca] w fun e w' => e = .returned (.bool false) ∧ w' = w) := by
      have := ucontains_at aa ac al.length cl.length ca cc al cl w ha hc rfl rfl
      rw [hin] at this
      exact this
    have hs1 : (sa : Int) + (sb : Int) = (sc : Int) := by rw [Hsa.out, Hsb.out, Hsc.out]; omega
    clear ha hb hc h
    go_enter Try.func11, Try.ntmps11
    go_wp2_with fail
    refine HS1.out.mono ?_
    rintro e w1 ⟨rfl, hw1⟩
    obtain rfl := hw1
    go_wp2_with fail
    refine HS2.out.mono ?_
    rintro e w2 ⟨rfl, hw2⟩
    obtain rfl := hw2
    go_wp2_with fail
    refine HS3.out.mono ?_
    rintro e w3 ⟨rfl, hw3⟩
    obtain rfl := hw3
    go_wp2_with fail
    refine HCON.out.mono ?_
    rintro e w4 ⟨rfl, hw4⟩
    obtain rfl := hw4
    go_wp2
    refine bodyPost_ret (results_none rfl _ _ _) rfl ?_
    exact ⟨rfl, rfl⟩
  · have hs1 : ¬ ((sa : Int) + (sb : Int) = (sc : Int)) := by rw [Hsa.out, Hsb.out, Hsc.out]; omega
    have hs2 : ((sa : Int) + (sb : Int) != (sc : Int)) = true := by simpa using hs1
    clear ha hb hc h
    go_enter Try.func11, Try.ntmps11
    go_wp2_with fail
    refine HS1.out.mono ?_
    rintro e w1 ⟨rfl, hw1⟩
    obtain rfl := hw1
    go_wp2_with fail
    refine HS2.out.mono ?_
    rintro e w2 ⟨rfl, hw2⟩
    obtain rfl := hw2
    go_wp2_with fail
    refine HS3.out.mono ?_
    rintro e w3 ⟨rfl, hw3⟩
    obtain rfl := hw3
    go_wp2
    refine bodyPost_ret (results_none rfl _ _ _) rfl ?_
    exact ⟨rfl, rfl⟩

end Go.Proofs.Ytncokoimbpkapaa
