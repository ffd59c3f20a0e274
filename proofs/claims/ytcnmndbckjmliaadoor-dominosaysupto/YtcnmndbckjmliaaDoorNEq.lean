/-
  Two sheets are compared.
-/
import Derived.Test.YtcnmndbckjmliaaDoorNRdz
import Derived.Laws.StructEq
import Derived.DeepKeys
namespace Go.Proofs.YtcnmndbckjmliaaDoor
open Go.RowKit

theorem cells59 : Tryd.prog.cellsOf 59 = 8 := by kernel_rfl
theorem cells60 : Tryd.prog.cellsOf 60 = 64 := by kernel_rfl
theorem cells62 : Tryd.prog.cellsOf 62 = 66 := by kernel_rfl
theorem cells5 : Tryd.prog.cellsOf 5 = 1 := by kernel_rfl
theorem cells3 : Tryd.prog.cellsOf 3 = 1 := by kernel_rfl
def u8c (x : UInt8) : Value := .int .u8 (x.toNat : Int)
def u8l (x : UInt8) : Lit := .int .u8 (x.toNat : Int)
theorem lit_byte (x : UInt8) : Tryd.prog.keyLits 1 5 [u8c x] = some [u8l x] := by
  have h : (Lit.int .u8 (x.toNat : Int)).wf = true := by
    have := x.toNat_lt
    simp [Lit.wf, IntKind.min, IntKind.max, IntKind.signed, IntKind.bits]
    omega
  unfold Program.keyLits
  rw [Tryd.underlying5]
  show (if IntKind.u8 = IntKind.u8 ∧ (Lit.int .u8 (x.toNat : Int)).wf = true then _ else _) = _
  rw [if_pos ⟨rfl, h⟩]; rfl
theorem lit_int (n : Nat) (hn : n ≤ 8) (d : Nat) : Tryd.prog.keyLits (d + 1) 3 [.int .i64 (n : Int)] = some [.int .i64 (n : Int)] := by
  have h : (Lit.int .i64 (n : Int)).wf = true := by
    simp [Lit.wf, IntKind.min, IntKind.max, IntKind.signed, IntKind.bits]
    omega
  unfold Program.keyLits
  rw [Tryd.underlying3]
  show (if IntKind.i64 = IntKind.i64 ∧ (Lit.int .i64 (n : Int)).wf = true then _ else _) = _
  rw [if_pos ⟨rfl, h⟩]
theorem lit_row (b0 b1 b2 b3 b4 b5 b6 b7 : UInt8) : Tryd.prog.keyLits 2 59 ([b0, b1, b2, b3, b4, b5, b6, b7].map u8c) = some ([b0, b1, b2, b3, b4, b5, b6, b7].map u8l) := by
  unfold Program.keyLits
  rw [Tryd.underlying59]
  show (if ([b0, b1, b2, b3, b4, b5, b6, b7].map u8c).length = Tryd.prog.cellsOf 59 then (([0, 1, 2, 3, 4, 5, 6, 7] : List Nat).mapM fun i => Tryd.prog.keyLits 1 5 (([b0, b1, b2, b3, b4, b5, b6, b7].map u8c).drop (i * Tryd.prog.cellsOf 5) |>.take (Tryd.prog.cellsOf 5))).map List.flatten else none) = _
  rw [cells59, cells5]
  refine (if_pos (by rfl)).trans ?_
  simp [lit_byte, List.mapM_cons]
set_option maxRecDepth 100000 in
theorem lit_rows (f : Nat → UInt8) : Tryd.prog.keyLits 3 60 ((List.range 64).map fun k => u8c (f k)) = some ((List.range 64).map fun k => u8l (f k)) := by
  unfold Program.keyLits
  rw [Tryd.underlying60]
  show (if ((List.range 64).map fun k => u8c (f k)).length = Tryd.prog.cellsOf 60 then (([0, 1, 2, 3, 4, 5, 6, 7] : List Nat).mapM fun i => Tryd.prog.keyLits 2 59 (((List.range 64).map fun k => u8c (f k)).drop (i * Tryd.prog.cellsOf 59) |>.take (Tryd.prog.cellsOf 59))).map List.flatten else none) = _
  rw [cells60, cells59]
  refine (if_pos (by simp)).trans ?_
  simp only [List.mapM_cons, List.mapM_nil]
  have r0 : Tryd.prog.keyLits 2 59 (((List.range 64).map fun k => u8c (f k)).drop (0 * 8) |>.take 8) = some ([f 0, f 1, f 2, f 3, f 4, f 5, f 6, f 7].map u8l) := lit_row (f 0) (f 1) (f 2) (f 3) (f 4) (f 5) (f 6) (f 7)
  have r1 : Tryd.prog.keyLits 2 59 (((List.range 64).map fun k => u8c (f k)).drop (1 * 8) |>.take 8) = some ([f 8, f 9, f 10, f 11, f 12, f 13, f 14, f 15].map u8l) := lit_row (f 8) (f 9) (f 10) (f 11) (f 12) (f 13) (f 14) (f 15)
  have r2 : Tryd.prog.keyLits 2 59 (((List.range 64).map fun k => u8c (f k)).drop (2 * 8) |>.take 8) = some ([f 16, f 17, f 18, f 19, f 20, f 21, f (2 * 8 + 6), f 23].map u8l) := lit_row (f 16) (f 17) (f 18) (f 19) (f 20) (f 21) (f (2 * 8 + 6)) (f 23)
  have r3 : Tryd.prog.keyLits 2 59 (((List.range 64).map fun k => u8c (f k)).drop (3 * 8) |>.take 8) = some ([f 24, f 25, f 26, f 27, f 28, f 29, f 30, f 31].map u8l) := lit_row (f 24) (f 25) (f 26) (f 27) (f 28) (f 29) (f 30) (f 31)
  have r4 : Tryd.prog.keyLits 2 59 (((List.range 64).map fun k => u8c (f k)).drop (4 * 8) |>.take 8) = some ([f 32, f 33, f 34, f 35, f 36, f 37, f 38, f 39].map u8l) := lit_row (f 32) (f 33) (f 34) (f 35) (f 36) (f 37) (f 38) (f 39)
  have r5 : Tryd.prog.keyLits 2 59 (((List.range 64).map fun k => u8c (f k)).drop (5 * 8) |>.take 8) = some ([f 40, f 41, f 42, f 43, f 44, f 45, f 46, f 47].map u8l) := lit_row (f 40) (f 41) (f 42) (f 43) (f 44) (f 45) (f 46) (f 47)
  have r6 : Tryd.prog.keyLits 2 59 (((List.range 64).map fun k => u8c (f k)).drop (6 * 8) |>.take 8) = some ([f 48, f 49, f 50, f 51, f 52, f 53, f 54, f 55].map u8l) := lit_row (f 48) (f 49) (f 50) (f 51) (f 52) (f 53) (f 54) (f 55)
  have r7 : Tryd.prog.keyLits 2 59 (((List.range 64).map fun k => u8c (f k)).drop (7 * 8) |>.take 8) = some ([f 56, f 57, f 58, f 59, f 60, f 61, f 62, f 63].map u8l) := lit_row (f 56) (f 57) (f 58) (f 59) (f 60) (f 61) (f 62) (f 63)
  rw [r0, r1, r2, r3, r4, r5, r6, r7]
  rfl
set_option maxRecDepth 100000 in
theorem lit_sheet (r c : Nat) (f : Nat → UInt8) (hr : r ≤ 8) (hc : c ≤ 8) : Tryd.prog.keyLits 4 62 (shC r c f).toList = some (.int .i64 (r : Int) :: .int .i64 (c : Int) :: (List.range 64).map fun k => u8l (f k)) := by
  have e : (shC r c f).toList = .int .i64 (r : Int) :: .int .i64 (c : Int) :: (List.range 64).map fun k => u8c (f k) := rfl
  have r1 := lit_int r hr 2
  have r2 := lit_int c hc 2
  have r3 := lit_rows f
  rw [e]
  unfold Program.keyLits
  rw [Tryd.underlying62]
  dsimp only
  have r4 : Tryd.prog.keyLits 3 60 (((Value.int .i64 (r : Int) :: .int .i64 (c : Int) :: (List.range 64).map fun k => u8c (f k)).drop 2).take 64) = some ((List.range 64).map fun k => u8l (f k)) := by
    rw [List.drop_succ_cons, List.drop_succ_cons, List.drop_zero, List.take_of_length_le (by simp)]; exact r3
  rw [List.drop_succ_cons, List.drop_succ_cons, List.drop_zero] at r4
  refine (if_pos ⟨by rw [cells62]; simp, by simp⟩).trans ?_
  simp only [List.mapM_cons, List.mapM_nil, cells3, cells60, r4, List.drop_zero, List.drop_succ_cons, List.take_succ_cons, List.take_zero, r1, r2]
  simp

theorem sheet_same (r c : Nat) (f : Nat → UInt8) (hr : r ≤ 8) (hc : c ≤ 8) (w : World) : (Op.equalIn 10000 62 (.agg (shC r c f)) (.agg (shC r c f))).run Tryd.prog w = .ok true w := by
  have hk : Tryd.prog.keyTypeAt 4 62 = true := by kernel_rfl
  have hf : (Value.agg (shC r c f)).formed Tryd.prog 62 = true := by
    unfold Value.formed
    rw [Tryd.underlying62, cells62]
    show ((shC r c f).size == 66) = true
    rw [shC_size]; rfl
  have hl := lit_sheet r c f hr hc
  obtain ⟨b, h1, h2⟩ := run_equalIn_deep (P := Tryd.prog) 9996 4 62 hk w 4 4 _ _ _ _ hf hf hl hl
  rw [h2.2 rfl] at h1
  exact h1

theorem wpList_neq66 {ops : Array Oper} {rest : List Oper} {o : Oper} {a : Act} {w : World} {Q : Exit → Act → World → Prop} (hgd : o.guard = none) (x y : Operand) (tt : TypeId) (ho : o.op = .binOp .neq 62 x y tt)
    (S : Array Value) (r c : Nat) (f : Nat → UInt8) (hx : a.eval x = .agg S) (hy : a.eval y = .agg S) (hS : S = shC r c f) (hr : r ≤ 8) (hc : c ≤ 8)
    (h : wpList Tryd.prog ops Q rest (a.put o.dst (.bool false)) w) : wpList Tryd.prog ops Q (o :: rest) a w := by
  subst hS
  refine wpList_plain hgd fun _ hK => ?_
  have hq : Tryd.prog.eqGuardType Tryd.prog.depth 62 = false := by kernel_rfl
  unfold Oper.wp execOp
  simp only [ho, hx, hy, Sem.run_bind, run_eqGuard_agg w .neq 62 x y _ _ hq, run_neq_struct, sheet_same r c f hr hc, Result.andThen_ok]
  exact hK _ _ h

end Go.Proofs.YtcnmndbckjmliaaDoor
