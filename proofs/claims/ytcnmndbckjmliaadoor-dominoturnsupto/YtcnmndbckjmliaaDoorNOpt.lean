/-
  An argument of type api.Point, opened.
-/
import Derived.Test.YtcnmndbckjmliaaDoorBOpen
import Derived.Deep.Strs
namespace Go.Proofs.YtcnmndbckjmliaaDoor
open Go.ChangeShapes Go.WideShapes Go.ChangeAt Go.RowKit

theorem Tryd.cellsQN : Tryd.prog.cellsOf 36 = 2 := by kernel_rfl
theorem Tryd.structQN : ∃ f0 f1 : Field, Tryd.prog.underlying 36 = some (.struct #[f0, f1]) ∧ f0.offset = 0 ∧ f1.offset = 1 ∧ f0.type = 3 ∧ f1.type = 3 := ⟨_, _, Tryd.underlying36, rfl, rfl, rfl, rfl⟩
set_option maxRecDepth 100000 in
theorem open_pt {H : Type} {enc : TypeId × Value → H} {W : World} {base : Nat} {v : Value} {d : DataW H} {p : List MemPlace}
    (hv : Value.okWide Tryd.prog W .any base 36 v) (h : DataW.Trod enc Tryd.prog W 0 (fun _ => true) true 36 v d p) : ∃ x y : Int, v = .agg #[.int .i64 x, .int .i64 y] := by
  obtain ⟨f0, f1, hs, o0, o1, t0, t1⟩ := Tryd.structQN
  have hc : ∃ c0 c1, v = .agg #[c0, c1] := by
    simp only [Value.okWide, hs] at hv
    obtain ⟨cs, h1, h2, _⟩ := hv
    rw [Tryd.cellsQN] at h2
    obtain ⟨l⟩ := cs
    match l, h2 with
    | [c0, c1], _ => exact ⟨c0, c1, h1⟩
  obtain ⟨c0, c1, rfl⟩ := hc
  obtain ⟨fuel, hf⟩ := h
  have hcl : (Value.agg #[c0, c1]).cells.toList = [c0, c1] := rfl
  rw [hcl] at hf
  obtain ⟨y0, y1, n, hx, hl, g0, g1⟩ := trod_struct2 hs hf
  rw [o0, t0, Tryd.cells3] at g0
  rw [o1, t1, Tryd.cells3] at g1
  have g0' : DataW.trod enc Tryd.prog W 0 (fun _ => true) true n 3 [c0] = some y0 := g0
  have g1' : DataW.trod enc Tryd.prog W 0 (fun _ => true) true n 3 [c1] = some y1 := g1
  obtain ⟨x, hx1, _, _⟩ := DataW.trod_int Tryd.underlying3 g0'
  obtain ⟨z, hz1, _, _⟩ := DataW.trod_int Tryd.underlying3 g1'
  simp only [List.cons.injEq, and_true] at hx1 hz1
  exact ⟨x, z, by rw [hx1, hz1]⟩

end Go.Proofs.YtcnmndbckjmliaaDoor
