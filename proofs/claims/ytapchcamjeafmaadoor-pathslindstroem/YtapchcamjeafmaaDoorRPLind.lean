/-
  PROVED: 'PathsLindstroem' of the landed package returns true for every arguments (api.Grid, []api.Point, []api.Point) that can be read, and the arguments read afterwards as before. No condition on the arguments; the listed package-level variables hold what the program's text lays in them (the card ties them).
-/
import Derived.Test.YtapchcamjeafmaaDoorQLlw
import Derived.Test.YtapchcamjeafmaaDoorOPts
import Derived.Test.YtapchcamjeafmaaDoorCards
import Derived.Test.YtapchcamjeafmaaDoorTie
import Derived.ProofKit
import Derived.OpenShut
import Derived.LaidMore
import Derived.Stop.LaidErr
import Derived.Lib.LaidTab
import Derived.Deep.DeepWitnessRowRef
import Derived.Shelf.Vars
namespace Go.Proofs.YtapchcamjeafmaaDoor
open Go.ChangeShapes Go.WideShapes Go.ChangeAt Go.RowKit

/-- The numbers of a table, cell by cell. -/
def tableCells : DataW Unit → Array Value
  | .agg ds => (ds.map fun d => match d with | .lit (.int k n) => Value.int k n | _ => .nilIface).toArray
  | _ => #[]
def tableIn (d : DataW Unit) : Obj → Obj
  | .cells _ t fr => .cells (tableCells d) t fr
  | o => o
/-- The heap that the program's own initialisers leave, and the three tables. -/
def withTabs (w : World) : World :=
  { w with heap := ((w.heap.modify 0 (tableIn Rows.laid_internal_strconv_uint64pow10)).modify 1 (tableIn Rows.laid_math_bits_deBruijn32tab)).modify 2 (tableIn Rows.laid_math_bits_deBruijn64tab) }

set_option maxRecDepth 1000000 in
theorem plind_met (os : Os) (args : Array Value) : laidMet Tryd.prog Rows.pathsLindstroemRow.laid ((withTabs (World.doorLaid Tryd.prog 400 os)).forCall (fun _ _ => 0) ⟨#[], args, []⟩).memory :=
  laidMet_of_run' 10 (by kernel_rfl) (by kernel_rfl)

set_option maxRecDepth 1000000 in
theorem plind_reads (os : Os) {H : Type} (enc : TypeId × Value → H) : ∃ places, DataW.whole enc Tryd.prog ((withTabs (World.doorLaid Tryd.prog 400 os)).forCall (fun _ _ => 0) ⟨#[], #[Value.agg #[.int .i64 0, .int .i64 0, .slice none 0 0], .slice none 0 0, .slice none 0 0], []⟩).memory Tryd.f3.params.toList Rows.pathsLindstroemSpec.vars false #[Value.agg #[.int .i64 0, .int .i64 0, .slice none 0 0], .slice none 0 0, .slice none 0 0].toList 8 = some ([.agg [.lit (.int .i64 0), .lit (.int .i64 0), .nil], .nil, .nil], [], places) :=
  ⟨[], by kernel_rfl⟩

theorem pow_tab : (Lib.tabData .u64 Lib.pow10Tab : DataW Unit) = Rows.laid_internal_strconv_uint64pow10 := by kernel_rfl

set_option maxRecDepth 1000000 in
theorem plind_lifted (os : Os) (started : os.Started) (H : Type) (enc : TypeId × Value → H) (F : Stop.Interp) :
    ReturnsInHanded {} Tryd.checked os 3 .any ((OpenSpec.ofChange Rows.pathsLindstroemSpec).preRow enc Tryd.prog Tryd.f3 Rows.pathsLindstroemRow.domain false Rows.pathsLindstroemRow.laid) (((OpenSpec.ofChange Rows.pathsLindstroemSpec).at F).post enc Tryd.prog Tryd.f3 false true false false) := by
  obtain ⟨places, hx⟩ := plind_reads os enc
  refine returnsInHanded_of_row (C := Tryd.checked) (s := OpenSpec.ofChange Rows.pathsLindstroemSpec) Tryd.own started (by kernel_rfl) Tryd.func3
    (witness_row_atRef (enc := enc) (C := Tryd.checked) false (withTabs (World.doorLaid Tryd.prog 400 os)) #[.agg #[.int .i64 0, .int .i64 0, .slice none 0 0], .slice none 0 0, .slice none 0 0] rfl (by kernel_rfl) (by kernel_rfl) (by kernel_rfl)
      (OpenSpec.preRow_of_cond 8 hx (by kernel_rfl) (fun k hk => by cases hk) (by kernel_rfl) (plind_met os _))) ?_
  intro W base args ds gs before hval0 hW _ _ hsz0 hL0 _ _
  have hsz : (DataW.weightsEach Tryd.prog (Tryd.f3.params.toList ++ (OpenSpec.ofChange Rows.pathsLindstroemSpec).bare.plain.varTypes Tryd.prog) (ds ++ gs)).all (· ≤ reachBytes) = true := hsz0
  clear hsz0
  have hL : laidMet Tryd.prog [("math/bits.deBruijn32tab", Rows.laid_math_bits_deBruijn32tab), ("math/bits.deBruijn64tab", Rows.laid_math_bits_deBruijn64tab), ("internal/strconv.uint64pow10", Rows.laid_internal_strconv_uint64pow10)] W := hL0
  have hL3 := hL.tail.tail
  rw [← pow_tab] at hL3
  have htab : Lib.TabIs Tryd.prog W "internal/strconv.uint64pow10" .u64 Lib.pow10Tab := Lib.tabIs_of_head (g := 0) (by kernel_rfl) (by kernel_rfl) Tryd.underlying77 Tryd.underlying67 (by kernel_rfl) (by kernel_rfl) hL3
  have hval : ∀ (j : Nat) t v, Tryd.f3.params[j]? = some t → args[j]? = some v → Value.okWide Tryd.prog W .any base t v := hval0
  have hW' := hW
  obtain ⟨p, q, hA0, hV, rfl, _, _⟩ := hW
  have hA : DataW.TrodAll enc Tryd.prog W 0 (fun _ => true) true Tryd.f3.params.toList args.toList ds p := hA0
  rw [Tryd.params3] at hA hval hsz
  obtain ⟨v0, vs0, d0, ds0, p0, q0, hargs0, rfl, rfl, t0, r0⟩ := trodAll_cons hA
  obtain ⟨v1, vs1, d1, ds1, p1, q1, hargs1, rfl, rfl, t1, r1⟩ := trodAll_cons r0
  obtain ⟨v2, vs2, d2, ds2, p2, q2, hargs2, rfl, rfl, t2, r2⟩ := trodAll_cons r1
  obtain ⟨rfl, rfl, rfl⟩ := trodAll_nil r2
  obtain rfl : args = #[v0, v1, v2] := by cases args; simp_all
  obtain ⟨rfl, rfl⟩ := trodVars_none hV
  clear hA0 hval0 hL0 hL
  simp only [List.append_nil] at hW'
  have hlt0 : ∀ x ∈ p0, x.block < W.heap.size := fun x hx => hW'.lt x (by simp [hx])
  have hback0 : ∀ (W' : World), Below W.heap.size W W' → DataW.Trod enc Tryd.prog W' 0 (fun b => decide (b < W.heap.size)) true 24 v0 d0 p0 :=
    fun W' hn => Below.trod Tryd.laidOut (by kernel_rfl) (of_decide_eq_true (by kernel_rfl)) t0 hn hlt0
  have hlt1 : ∀ x ∈ p1, x.block < W.heap.size := fun x hx => hW'.lt x (by simp [hx])
  have hback1 : ∀ (W' : World), Below W.heap.size W W' → DataW.Trod enc Tryd.prog W' 0 (fun b => decide (b < W.heap.size)) true 22 v1 d1 p1 :=
    fun W' hn => Below.trod Tryd.laidOut (by kernel_rfl) (of_decide_eq_true (by kernel_rfl)) t1 hn hlt1
  have hlt2 : ∀ x ∈ p2, x.block < W.heap.size := fun x hx => hW'.lt x (by simp [hx])
  have hback2 : ∀ (W' : World), Below W.heap.size W W' → DataW.Trod enc Tryd.prog W' 0 (fun b => decide (b < W.heap.size)) true 22 v2 d2 p2 :=
    fun W' hn => Below.trod Tryd.laidOut (by kernel_rfl) (of_decide_eq_true (by kernel_rfl)) t2 hn hlt2
  obtain ⟨w0, x0, b0, a0, c0, z0, rfl, f0⟩ := open_grid (hval 0 24 v0 rfl rfl) t0 hlt0 (fun n hn => by
    have := List.all_eq_true.1 hsz _ (DataW.weights_mem_each (j := 0) rfl rfl n hn); simpa using this)
  obtain ⟨rfl, h0, k0, n0, m0⟩ := f0
  obtain ⟨a1, c1, z1, f1⟩ := open_pts (hval 1 22 v1 rfl rfl) t1 hlt1 (fun es sp e => by
    subst e; exact sized_slice hsz (j := 1) (t := 22) (e := 29) rfl rfl Tryd.underlying22)
  obtain ⟨rfl, h1, k1, n1, m1⟩ := f1
  obtain ⟨a2, c2, z2, f2⟩ := open_pts (hval 2 22 v2 rfl rfl) t2 hlt2 (fun es sp e => by
    subst e; exact sized_slice hsz (j := 2) (t := 22) (e := 29) rfl rfl Tryd.underlying22)
  obtain ⟨rfl, h2, k2, n2, m2⟩ := f2
  have key := plind_at w0 x0 a0 a1 a2 z0.length c0 z1.length c1 z2.length c2 z0 z1 z2 W rfl m0 rfl (by omega) k1 rfl (by omega) h0 h1 h2 htab
  refine key.mono fun e W' ⟨he, hnx⟩ => ?_
  subst he
  exact ⟨_, rfl, _, _, _, [], p0 ++ (p1 ++ (p2 ++ [])), [], hW', trodAll_cons_mk (shut_bool Tryd.underlying4 _) trodAll_mk0, trodAll_cons_mk (hback0 _ hnx) (trodAll_cons_mk (hback1 _ hnx) (trodAll_cons_mk (hback2 _ hnx) trodAll_mk0)), rfl, hnx.frame _, fun h => by cases h⟩

theorem plind_said : Rows.PathsLindstroemSaid :=
  OpenClaim.holds_of_cond 3 Tryd.f3 rfl rfl rfl rfl rfl rfl rfl ⟨rfl, rfl, rfl, rfl, rfl⟩ rfl rfl rfl rfl rfl (by kernel_rfl) Tryd.func3 (by kernel_rfl)
    (of_decide_eq_true (by kernel_rfl)) (by unfold Func.isWrapper; first | (rw [if_pos (by decide +kernel)]; kernel_rfl) | (rw [if_neg (by decide +kernel)]; exact ⟨rfl, rfl⟩))
    (fun os started H enc _ F => by rw [OpenClaim.pre_eq_preRow]; exact plind_lifted os started H enc F)

theorem plind_plain (f : FuncId) (fn : Func) (hf : Tryd.pinned.checked.prog.funcNamed "ferrers/ferkeep.PathsLindstroem" = some f) (hfn : Tryd.pinned.checked.prog.funcs[f]? = some fn) :
    false = Tryd.pinned.checked.prog.looks [] ∧ ∀ (j : Nat) t, fn.params[j]? = some t → Tryd.pinned.checked.prog.wantsStandIn t = false := by
  obtain rfl : f = 3 := Option.some.inj ((show Tryd.prog.funcNamed "ferrers/ferkeep.PathsLindstroem" = some 3 by kernel_rfl).symm.trans hf) |>.symm
  obtain rfl : fn = Tryd.f3 := (Option.some.inj (Tryd.func3.symm.trans hfn)).symm
  refine ⟨by kernel_rfl, fun j t ht => ?_⟩
  rw [Tryd.params3] at ht
  have hm : t ∈ [24, 22, 22] := by simpa using Array.mem_of_getElem? ht
  have hall : ([24, 22, 22].all fun u => !Tryd.prog.wantsStandIn u) = true := by kernel_rfl
  exact (show Tryd.prog.wantsStandIn t = false by simpa using List.all_eq_true.1 hall t hm)

theorem plind_card : Rows.PathsLindstroemCardSaid :=
  Claim7.holds_tied_plain_at .later [] _ _ _ _ plind_said (fun _ h => by cases h) (by kernel_rfl) (fun _ h => by cases h) pathsLindstroem_row_tie rfl ⟨rfl, rfl⟩ (by kernel_rfl) rfl plind_plain (by kernel_rfl)

#print axioms plind_card
end Go.Proofs.YtapchcamjeafmaaDoor
