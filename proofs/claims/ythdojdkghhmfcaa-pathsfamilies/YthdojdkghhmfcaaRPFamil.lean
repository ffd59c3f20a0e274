/-
  PROVED: 'PathsFamilies' of the landed package returns true for every arguments (api.Grid, []api.Point, []api.Point, []int) that can be read, and the arguments read afterwards as before. No condition.
-/
import Derived.Test.YthdojdkghhmfcaaQFla
import Derived.Test.YthdojdkghhmfcaaBOpen
import Derived.Test.YthdojdkghhmfcaaOPts
namespace Go.Proofs.Ythdojdkghhmfcaa
open Go.ChangeShapes Go.WideShapes Go.ChangeAt Go.RowKit

set_option maxRecDepth 100000 in
theorem pfam_lifted (os : Os) (started : os.Started) (H : Type) (enc : TypeId × Value → H) :
    ReturnsInHanded {} Try.checked os 3 .any (Rows.pathsFamiliesSpec.pre6 enc Try.prog Try.f3 Rows.pathsFamiliesRow.domain false) (Rows.pathsFamiliesSpec.post enc Try.prog Try.f3 false true false false) := by
  refine returnsInHanded_of_change_sized (C := Try.checked) Try.own started (by kernel_rfl) Try.func3
    (ChangeSpec.witness6 (enc := enc) (C := Try.checked) false ⟨#[], #[.agg #[.int .i64 0, .int .i64 0, .slice none 0 0], .slice none 0 0, .slice none 0 0, .slice none 0 0], []⟩ 8 (by kernel_rfl) (by kernel_rfl) (by kernel_rfl) (by kernel_rfl)) ?_
  intro W base args ds gs before hval0 hW _ hsz0 _
  have hsz : (DataW.weightsEach Try.prog (Try.f3.params.toList ++ Rows.pathsFamiliesSpec.plain.varTypes Try.prog) (ds ++ gs)).all (· ≤ reachBytes) = true := hsz0
  clear hsz0
  have hval : ∀ (j : Nat) t v, Try.f3.params[j]? = some t → args[j]? = some v → Value.okWide Try.prog W .any base t v := hval0
  have hW' := hW
  obtain ⟨p, q, hA0, hV, rfl, _, _⟩ := hW
  have hA : DataW.TrodAll enc Try.prog W 0 (fun _ => true) true Try.f3.params.toList args.toList ds p := hA0
  rw [Try.params3] at hA hval hsz
  obtain ⟨v0, vs0, d0, ds0, p0, q0, hargs0, rfl, rfl, t0, r0⟩ := trodAll_cons hA
  obtain ⟨v1, vs1, d1, ds1, p1, q1, hargs1, rfl, rfl, t1, r1⟩ := trodAll_cons r0
  obtain ⟨v2, vs2, d2, ds2, p2, q2, hargs2, rfl, rfl, t2, r2⟩ := trodAll_cons r1
  obtain ⟨v3, vs3, d3, ds3, p3, q3, hargs3, rfl, rfl, t3, r3⟩ := trodAll_cons r2
  obtain ⟨rfl, rfl, rfl⟩ := trodAll_nil r3
  obtain rfl : args = #[v0, v1, v2, v3] := by cases args; simp_all
  obtain ⟨rfl, rfl⟩ := trodVars_none hV
  clear hA0 hval0
  simp only [List.append_nil] at hW'
  have hlt0 : ∀ x ∈ p0, x.block < W.heap.size := fun x hx => hW'.lt x (by simp [hx])
  have hback0 : ∀ (W' : World), Below W.heap.size W W' → DataW.Trod enc Try.prog W' 0 (fun b => decide (b < W.heap.size)) true 24 v0 d0 p0 :=
    fun W' hn => Below.trod Try.laidOut (by kernel_rfl) (of_decide_eq_true (by kernel_rfl)) t0 hn hlt0
  have hlt1 : ∀ x ∈ p1, x.block < W.heap.size := fun x hx => hW'.lt x (by simp [hx])
  have hback1 : ∀ (W' : World), Below W.heap.size W W' → DataW.Trod enc Try.prog W' 0 (fun b => decide (b < W.heap.size)) true 22 v1 d1 p1 :=
    fun W' hn => Below.trod Try.laidOut (by kernel_rfl) (of_decide_eq_true (by kernel_rfl)) t1 hn hlt1
  have hlt2 : ∀ x ∈ p2, x.block < W.heap.size := fun x hx => hW'.lt x (by simp [hx])
  have hback2 : ∀ (W' : World), Below W.heap.size W W' → DataW.Trod enc Try.prog W' 0 (fun b => decide (b < W.heap.size)) true 22 v2 d2 p2 :=
    fun W' hn => Below.trod Try.laidOut (by kernel_rfl) (of_decide_eq_true (by kernel_rfl)) t2 hn hlt2
  have hlt3 : ∀ x ∈ p3, x.block < W.heap.size := fun x hx => hW'.lt x (by simp [hx])
  have hback3 : ∀ (W' : World), Below W.heap.size W W' → DataW.Trod enc Try.prog W' 0 (fun b => decide (b < W.heap.size)) true 25 v3 d3 p3 :=
    fun W' hn => Below.trod Try.laidOut (by kernel_rfl) (of_decide_eq_true (by kernel_rfl)) t3 hn hlt3
  obtain ⟨w0, x0, b0, a0, c0, z0, rfl, f0⟩ := open_grid (hval 0 24 v0 rfl rfl) t0 hlt0 (fun n hn => by
    have := List.all_eq_true.1 hsz _ (DataW.weights_mem_each (j := 0) rfl rfl n hn); simpa using this)
  obtain ⟨rfl, h0, k0, n0, m0⟩ := f0
  obtain ⟨a1, c1, z1, f1⟩ := open_pts (hval 1 22 v1 rfl rfl) t1 hlt1 (fun es sp e => by
    subst e; exact sized_slice hsz (j := 1) (t := 22) (e := 39) rfl rfl Try.underlying22)
  obtain ⟨rfl, h1, k1, n1, m1⟩ := f1
  obtain ⟨a2, c2, z2, f2⟩ := open_pts (hval 2 22 v2 rfl rfl) t2 hlt2 (fun es sp e => by
    subst e; exact sized_slice hsz (j := 2) (t := 22) (e := 39) rfl rfl Try.underlying22)
  obtain ⟨rfl, h2, k2, n2, m2⟩ := f2
  obtain ⟨a3, c3, z3, rfl, h3, k3⟩ := open_arg (hval 3 25 v3 rfl rfl) t3 hlt3 (fun es sp e => by
    subst e; exact sized_slice hsz (j := 3) (t := 25) (e := 3) rfl rfl Try.underlying25)
  refine (pfam_at w0 x0 a0 a1 a2 a3 z0.length c0 z1.length c1 z2.length c2 z3.length c3 z0 z1 z2 z3 W rfl m0 n0 rfl (by omega) k1 rfl (by omega) k2 rfl h3.len h0 h1 h2 h3).mono fun e W' ⟨he, hnx⟩ => ?_
  subst he
  exact ⟨_, rfl, _, _, _, [], p0 ++ (p1 ++ (p2 ++ (p3 ++ []))), [], hW', trodAll_cons_mk (shut_bool Try.underlying4 _) trodAll_mk0, trodAll_cons_mk (hback0 _ hnx) (trodAll_cons_mk (hback1 _ hnx) (trodAll_cons_mk (hback2 _ hnx) (trodAll_cons_mk (hback3 _ hnx) trodAll_mk0))), rfl, hnx.frame _, fun h => by cases h⟩

theorem pfam_holds : Rows.PathsFamiliesSaid :=
  OpenClaim.holds_of_wide 3 Try.f3 rfl rfl rfl rfl rfl rfl rfl ⟨rfl, rfl, rfl, rfl, rfl⟩ rfl rfl rfl rfl rfl (by kernel_rfl) Try.func3 (by kernel_rfl)
    (of_decide_eq_true (by kernel_rfl)) (by unfold Func.isWrapper; first | (rw [if_pos (by decide +kernel)]; kernel_rfl) | (rw [if_neg (by decide +kernel)]; exact ⟨rfl, rfl⟩))
    (fun os started H enc _ => pfam_lifted os started H enc)

#print axioms pfam_holds
end Go.Proofs.Ythdojdkghhmfcaa
