/-
  Arguments of type []api.Point and api.Grid, opened: what the world shows of them.
-/
import Derived.Test.YtapchcamjeafmaaDoorBOpen
import Derived.Test.YtapchcamjeafmaaDoorQWin
import Derived.Deep.SlicePairs
import Derived.Deep.Strs
namespace Go.Proofs.YtapchcamjeafmaaDoor
open Go.ChangeShapes Go.WideShapes Go.ChangeAt Go.RowKit

theorem Tryd.cellsQ : Tryd.prog.cellsOf 29 = 2 := by kernel_rfl
theorem Tryd.bytesQ : Tryd.prog.bytesOf 29 = 16 := by kernel_rfl
theorem Tryd.cellsG : Tryd.prog.cellsOf 24 = 3 := by kernel_rfl
theorem Tryd.cellsQs : Tryd.prog.cellsOf 22 = 1 := by kernel_rfl
theorem Tryd.structQ : ∃ f0 f1 : Field, Tryd.prog.underlying 29 = some (.struct #[f0, f1]) ∧ f0.offset = 0 ∧ f1.offset = 1 ∧ f0.type = 3 ∧ f1.type = 3 := ⟨_, _, Tryd.underlying29, rfl, rfl, rfl, rfl⟩
theorem Tryd.structG : ∃ f0 f1 f2 : Field, Tryd.prog.underlying 24 = some (.struct #[f0, f1, f2]) ∧ f0.offset = 0 ∧ f1.offset = 1 ∧ f2.offset = 2 ∧ f0.type = 3 ∧ f1.type = 3 ∧ f2.type = 22 := ⟨_, _, _, Tryd.underlying24, rfl, rfl, rfl, rfl, rfl, rfl⟩

/-- A slice of points, as it is read. -/
def PtA (W : World) (v : Value) (a : Option Addr) (cap : Nat) (l : List (Int × Int)) : Prop := v = .slice a l.length cap ∧ PtI W a l ∧ l.length ≤ cap ∧ (a = none → l.length = 0 ∧ cap = 0) ∧ l.length ≤ 8796093021952
set_option maxRecDepth 100000 in
theorem pts_of {H : Type} {enc : TypeId × Value → H} {W : World} {v : Value} {y : DataW H × List MemPlace} {fuel : Nat}
    (hf : DataW.trod enc Tryd.prog W 0 (fun _ => true) true fuel 22 [v] = some y) (hlt : ∀ x ∈ y.2, x.block < W.heap.size)
    (hsz : ∀ es sp, y.1 = .slice es sp → (es.length + sp.length) * Tryd.prog.bytesOf 29 ≤ reachBytes) :
    ∃ a cap l, PtA W v a cap l := by
  obtain ⟨f0, f1, hs, o0, o1, t0, t1⟩ := Tryd.structQ
  rcases Go.Deep.open_slice_pairs Tryd.underlying22 hs Tryd.cellsQ o0 o1 (by rw [t0]; exact Tryd.cells3) (by rw [t1]; exact Tryd.cells3) hf with ⟨hcs, hx⟩ | ⟨a, len, cap, m, k, V0, V1, D0, D1, P0, P1, hcs, _, hl, hm, hmm, hx, hall⟩
  · simp only [List.cons.injEq, and_true] at hcs
    exact ⟨none, 0, [], hcs, fun j hj => by simp at hj, by simp, fun _ => ⟨rfl, rfl⟩, by simp⟩
  · simp only [List.cons.injEq, and_true] at hcs
    subst hx
    simp only [if_true] at hmm
    have hreach := hsz _ _ rfl
    rw [Tryd.bytesQ] at hreach
    simp only [List.length_map, List.length_range, reachBytes] at hreach
    have hint : ∀ i, i < len → ∃ x y : Int, V0 i = .int .i64 x ∧ V1 i = .int .i64 y := fun i hi => by
      obtain ⟨_, _, h2, h3⟩ := hall i (by omega)
      rw [t0] at h2
      rw [t1] at h3
      obtain ⟨x, hx1, _, _⟩ := DataW.trod_int Tryd.underlying3 h2
      obtain ⟨y, hy1, _, _⟩ := DataW.trod_int Tryd.underlying3 h3
      simp only [List.cons.injEq, and_true] at hx1 hy1
      exact ⟨x, y, hx1, hy1⟩
    obtain ⟨q, hq⟩ : ∃ q : Nat → Int × Int, ∀ i, i < len → V0 i = .int .i64 (q i).1 ∧ V1 i = .int .i64 (q i).2 := by
      refine ⟨fun i => if h : i < len then ((hint i h).choose, (hint i h).choose_spec.choose) else (0, 0), fun i hi => ?_⟩
      simp only [dif_pos hi]
      exact (hint i hi).choose_spec.choose_spec
    have hgd : ∀ i, i < len → ((List.range len).map q).getD i (0, 0) = q i := fun i hi => by simp [List.getD, hi]
    have hll : ((List.range len).map q).length = len := by simp
    refine ⟨some a, cap, (List.range len).map q, by rw [hll]; exact hcs, fun i hi => ?_, by rw [hll]; exact hl, (fun e => by cases e), by rw [hll]; omega⟩
    rw [hll] at hi
    obtain ⟨b, off, spot⟩ := a
    have hspot : spot = none := by have h := World.cell?_spot (hall 0 (by omega)).1; simpa [Addr.add] using h
    subst hspot
    obtain ⟨h0, h1, _, _⟩ := hall i (by omega)
    rw [hgd i hi, ← (hq i hi).1, ← (hq i hi).2]
    rw [add_plain] at h0 h1
    exact ⟨b, off, rfl, hlt (.cell b off) (List.mem_append_left _ (MemPlace.mem_row.2 ⟨0, by omega, by simp⟩)), h0, by rw [Nat.add_assoc]; exact h1⟩
theorem open_pts {H : Type} {enc : TypeId × Value → H} {W : World} {base : Nat} {v : Value} {d : DataW H} {p : List MemPlace}
    (hv : Value.okWide Tryd.prog W .any base 22 v) (h : DataW.Trod enc Tryd.prog W 0 (fun _ => true) true 22 v d p) (hlt : ∀ x ∈ p, x.block < W.heap.size)
    (hsz : ∀ es sp, d = .slice es sp → (es.length + sp.length) * Tryd.prog.bytesOf 29 ≤ reachBytes) : ∃ a cap l, PtA W v a cap l := by
  obtain ⟨a0, len, cap, rfl⟩ := okWide_slice Tryd.underlying22 hv
  obtain ⟨fuel, hf⟩ := h
  exact pts_of (fuel := fuel) (y := (d, p)) hf hlt hsz
set_option maxRecDepth 100000 in
theorem open_grid {H : Type} {enc : TypeId × Value → H} {W : World} {base : Nat} {v : Value} {d : DataW H} {p : List MemPlace}
    (hv : Value.okWide Tryd.prog W .any base 24 v) (h : DataW.Trod enc Tryd.prog W 0 (fun _ => true) true 24 v d p) (hlt : ∀ x ∈ p, x.block < W.heap.size)
    (hsz : ∀ n ∈ d.weights Tryd.prog 24, n ≤ reachBytes) : ∃ (gw gh : Int) (bv : Value) (a : Option Addr) (cap : Nat) (l : List (Int × Int)), v = .agg #[.int .i64 gw, .int .i64 gh, bv] ∧ PtA W bv a cap l := by
  obtain ⟨f0, f1, f2, hs, o0, o1, o2, t0, t1, t2⟩ := Tryd.structG
  have hc : ∃ c0 c1 c2, v = .agg #[c0, c1, c2] := by
    simp only [Value.okWide, hs] at hv
    obtain ⟨cs, h1, h2, _⟩ := hv
    rw [Tryd.cellsG] at h2
    obtain ⟨l⟩ := cs
    match l, h2 with
    | [c0, c1, c2], _ => exact ⟨c0, c1, c2, h1⟩
  obtain ⟨c0, c1, c2, rfl⟩ := hc
  obtain ⟨fuel, hf⟩ := h
  have hcl : (Value.agg #[c0, c1, c2]).cells.toList = [c0, c1, c2] := rfl
  rw [hcl] at hf
  obtain ⟨y0, y1, y2, n, hx, hl, g0, g1, g2⟩ := Go.Deep.trod_struct3 hs hf
  rw [o0, t0, Tryd.cells3] at g0
  rw [o1, t1, Tryd.cells3] at g1
  rw [o2, t2, Tryd.cellsQs] at g2
  have g0' : DataW.trod enc Tryd.prog W 0 (fun _ => true) true n 3 [c0] = some y0 := g0
  have g1' : DataW.trod enc Tryd.prog W 0 (fun _ => true) true n 3 [c1] = some y1 := g1
  have g2' : DataW.trod enc Tryd.prog W 0 (fun _ => true) true n 22 [c2] = some y2 := g2
  obtain ⟨x, hx1, _, _⟩ := DataW.trod_int Tryd.underlying3 g0'
  obtain ⟨z, hz1, _, _⟩ := DataW.trod_int Tryd.underlying3 g1'
  simp only [List.cons.injEq, and_true] at hx1 hz1
  simp only [Prod.mk.injEq] at hx
  obtain ⟨rfl, rfl⟩ := hx
  obtain ⟨a, cap, l, hA⟩ := pts_of g2' (fun q hq => hlt q (by simp [hq])) (fun es sp e => hsz _ (by
    simp only [DataW.weights, hs, List.map, DataW.weightsEach]
    simp [e, t2, DataW.weights, Tryd.underlying22]))
  exact ⟨x, z, c2, a, cap, l, by rw [hx1, hz1], hA⟩

end Go.Proofs.YtapchcamjeafmaaDoor
