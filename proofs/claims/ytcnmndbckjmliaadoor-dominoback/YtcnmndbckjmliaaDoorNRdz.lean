/-
  A sheet by value: made, kept, fetched.
-/
import Derived.Test.YtcnmndbckjmliaaDoorNRdp
import Derived.Laws.ResultCell
import Derived.Deep.WholeRow
namespace Go.Proofs.YtcnmndbckjmliaaDoor
open Go.RowKit

theorem infoS : (Tryd.prog.info? 62).map (·.size) = some 66 := by kernel_rfl
theorem zeroS : (Tryd.prog.info? 62).map (fun i => (i.zero, i.size)) = some (some (.agg (shC 0 0 fun _ => 0)), 66) := by kernel_rfl
theorem builtS0 : Tryd.prog.built 62 [] = some (shC 0 0 fun _ => 0) := by kernel_rfl
theorem builtS2 (r c : Nat) : Tryd.prog.built 62 [(0, .int .i64 (r : Int)), (1, .int .i64 (c : Int))] = some (shC r c fun _ => 0) := by kernel_rfl
/-- 66 cells, one value each. -/
def C66 (cs : Array Value) : Prop := cs.size = 66 ∧ cs.all (·.oneCell') = true
theorem shC_66 (r c : Nat) (f : Nat → UInt8) : C66 (shC r c f) := ⟨shC_size r c f, shC_one r c f⟩
theorem wpList_store66 {ops : Array Oper} {rest : List Oper} {o : Oper} {a : Act} {w : World} {Q : Exit → Act → World → Prop} (hgd : o.guard = none) (x y : Operand) (ho : o.op = .store 62 x y)
    (g : Nat) (cs old : Array Value) (hx : a.eval x = .pointer (some ⟨g, 0, none⟩)) (hy : a.eval y = .agg cs) (hg : w.heap[g]? = some (.cells old 62 (0, 0))) (h1 : C66 cs) (h2 : C66 old)
    (h : wpList Tryd.prog ops Q rest (a.put o.dst undef) (w.setRow g cs)) : wpList Tryd.prog ops Q (o :: rest) a w :=
  wpList_store_row hgd 62 x y ho g cs hx hy 62 old hg (by rw [infoS, h1.1]) (by rw [h1.1, h2.1]) h1.2 h
theorem wpList_load66 {ops : Array Oper} {rest : List Oper} {o : Oper} {a : Act} {w : World} {Q : Exit → Act → World → Prop} (hgd : o.guard = none) (x : Operand) (ho : o.op = .load 62 x)
    (g : Nat) (cs : Array Value) (hx : a.eval x = .pointer (some ⟨g, 0, none⟩)) (hg : w.heap[g]? = some (.cells cs 62 (0, 0))) (h1 : C66 cs)
    (h : wpList Tryd.prog ops Q rest (a.put o.dst (.agg cs)) w) : wpList Tryd.prog ops Q (o :: rest) a w :=
  wpList_load_row hgd 62 x ho g hx 62 cs (0, 0) _ hg Tryd.underlying62 rfl (by rw [infoS, h1.1]) h
theorem wpList_build66 {ops : Array Oper} {rest : List Oper} {o : Oper} {a : Act} {w : World} {Q : Exit → Act → World → Prop} (hg : o.guard = none) (ho : o.op = .build 62 #[]) (Z : Array Value) (hZ : Z = shC 0 0 fun _ => 0)
    (h : wpList Tryd.prog ops Q rest (a.put o.dst (.agg Z)) w) : wpList Tryd.prog ops Q (o :: rest) a w := by
  subst hZ
  exact wpList_plain hg fun _ hK => wp_build 62 #[] ho (by simp [builtS0]) (by simpa [builtS0] using hK _ _ h)
theorem wpList_build2 {ops : Array Oper} {rest : List Oper} {o : Oper} {a : Act} {w : World} {Q : Exit → Act → World → Prop} (hg : o.guard = none) (x y : Operand) (ho : o.op = .build 62 #[(0, x), (1, y)]) (r c : Nat) (hx : a.eval x = .int .i64 (r : Int)) (hy : a.eval y = .int .i64 (c : Int)) (Z : Array Value) (hZ : Z = shC r c fun _ => 0)
    (h : wpList Tryd.prog ops Q rest (a.put o.dst (.agg Z)) w) : wpList Tryd.prog ops Q (o :: rest) a w := by
  subst hZ
  have hb := builtS2 r c
  exact wpList_plain hg fun _ hK => wp_build 62 #[(0, x), (1, y)] ho (by simp [hx, hy, hb]) (by simpa [hx, hy, hb] using hK _ _ h)
theorem load_66 (w : World) (g : Nat) (cs : Array Value) (h1 : C66 cs) (h : w.heap[g]? = some (.cells cs 62 (0, 0))) : (loadVar 62 ⟨g, 0, none⟩).run Tryd.prog w = .ok (.agg cs) w :=
  run_loadVar_row w g 62 62 _ (0, 0) _ h Tryd.underlying62 rfl (by rw [infoS, h1.1])
theorem below_setRowN {B : Nat} {a w : World} (h : Below B a w) (g : Nat) (hg : B ≤ g) (cs : Array Value) : Below B a (w.setRow g cs) :=
  h.trans ⟨rfl, rfl, rfl, by simp [World.setRow], fun k hk => setRow_other _ _ _ _ (by omega)⟩
theorem lt_someN {w : World} {k : Nat} {o} (h : w.heap[k]? = some o) : k < w.heap.size := (Array.getElem?_eq_some_iff.1 h).1

theorem RdP.parts {lt s : List UInt8} {v : Value} (h : RdP lt s v) : ∃ (Y : Array Value) (er : Int), v = .tuple #[.agg Y, .int .i64 er] ∧ Hid (C66 Y) ∧ Hid ((er = 0 ∧ ∃ r c, Shz lt r c (pz s) ∧ Y = shC r c (cef (pz s))) ∨ (er = 1 ∧ Y = (shC 0 0 fun _ => 0) ∧ ∀ r c, ¬ Shz lt r c (pz s))) := by
  rcases h with ⟨r, c, h, rfl⟩ | ⟨h, rfl⟩
  · exact ⟨_, 0, rfl, shC_66 _ _ _, Or.inl ⟨rfl, r, c, h, rfl⟩⟩
  · exact ⟨_, 1, rfl, shC_66 _ _ _, Or.inr ⟨rfl, rfl, h⟩⟩

end Go.Proofs.YtcnmndbckjmliaaDoor
