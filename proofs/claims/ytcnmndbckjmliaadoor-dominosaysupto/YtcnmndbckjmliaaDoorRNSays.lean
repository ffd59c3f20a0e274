/-
  PROVED: 'DominoSays' of the landed package returns true for every arguments (string, string) that can be read and hold together at most 1048576 values and letters, each counted each time it is reached, and the arguments read afterwards as before. The listed package-level variables hold what the program's text lays in them (the card ties them).
-/
import Derived.Test.YtcnmndbckjmliaaDoorNLs
import Derived.Test.YtcnmndbckjmliaaDoorBOpen
import Derived.Test.YtcnmndbckjmliaaDoorCards
import Derived.Test.YtcnmndbckjmliaaDoorTie
import Derived.ProofKit
import Derived.OpenShut
import Derived.LaidMore
import Derived.Deep.DeepWitnessRowRef
import Derived.Deep.CondSized
import Derived.Shelf.Vars
import Derived.Lib.LaidTab
namespace Go.Proofs.YtcnmndbckjmliaaDoor
open Go.ChangeShapes Go.WideShapes Go.ChangeAt Go.RowKit
open Go.ChangeMaps (open_string shut_string)

/-- The numbers of a table, cell by cell; a row of a table lies flat. -/
def flatCells : DataW Unit → List Value
  | .lit (.int k n) => [Value.int k n]
  | .agg ds => ds.flatMap fun d => match d with | .lit (.int k n) => [Value.int k n] | .agg es => es.map (fun e => match e with | .lit (.int k n) => Value.int k n | _ => .nilIface) | _ => [.nilIface]
  | _ => []
def tableIn (d : DataW Unit) : Obj → Obj
  | .cells _ t fr => .cells (flatCells d).toArray t fr
  | o => o
/-- The heap that the program's own initialisers leave, and utf8's two tables, bits' one. -/
def withTabs (w : World) : World :=
  { w with heap := ((w.heap.modify 2 (tableIn Rows.laid_unicode_utf8_first)).modify 3 (tableIn Rows.laid_unicode_utf8_acceptRanges)).modify 1 (tableIn Rows.laid_math_bits_deBruijn64tab) }

theorem db_tab : (Lib.tabData .u8 (Lib.deBruijn64tab.map Int.ofNat) : DataW Unit) = Rows.laid_math_bits_deBruijn64tab := by kernel_rfl
theorem db_at {w : World} (h : Lib.TabIs Tryd.prog w "math/bits.deBruijn64tab" .u8 (Lib.deBruijn64tab.map Int.ofNat)) : TabAt 1 Lib.deBruijn64tab w := fun j hj => by
  have h1 := h.cell (g := 1) (by kernel_rfl) j (by rw [List.length_map]; exact hj)
  rw [h1]
  simp [List.getD, hj]

set_option maxRecDepth 1000000 in
theorem dsy_met (os : Os) (args : Array Value) : laidMet Tryd.prog Rows.dominoSaysUptoRow.laid ((withTabs (World.doorLaid Tryd.prog 400 os)).forCall (fun _ _ => 0) ⟨#[], args, []⟩).memory :=
  laidMet_of_run' 10 (by kernel_rfl) (by kernel_rfl)

set_option maxRecDepth 1000000 in
theorem dsy_reads (os : Os) {H : Type} (enc : TypeId × Value → H) : ∃ places, DataW.whole enc Tryd.prog ((withTabs (World.doorLaid Tryd.prog 400 os)).forCall (fun _ _ => 0) ⟨#[], #[.string ⟨#[]⟩, .string ⟨#[]⟩], []⟩).memory Tryd.f3.params.toList (Rows.OpenSpec.upto Rows.dominoSaysSpec).vars false #[Value.string ⟨#[]⟩, .string ⟨#[]⟩].toList 8 = some ([.lit (.string []), .lit (.string [])], [], places) :=
  ⟨[], by kernel_rfl⟩

set_option maxRecDepth 1000000 in
theorem dsy_lifted (os : Os) (started : os.Started) (H : Type) (enc : TypeId × Value → H) (F : Stop.Interp) :
    ReturnsInHanded {} Tryd.checked os 3 .any ((Rows.OpenSpec.upto Rows.dominoSaysSpec).preRow enc Tryd.prog Tryd.f3 Rows.dominoSaysUptoRow.domain false Rows.dominoSaysUptoRow.laid) (((Rows.OpenSpec.upto Rows.dominoSaysSpec).at F).post enc Tryd.prog Tryd.f3 false true false false) := by
  obtain ⟨places, hx⟩ := dsy_reads os enc
  refine returnsInHanded_of_row (C := Tryd.checked) (s := Rows.OpenSpec.upto Rows.dominoSaysSpec) Tryd.own started (by kernel_rfl) Tryd.func3
    (witness_row_atRef (enc := enc) (C := Tryd.checked) false (withTabs (World.doorLaid Tryd.prog 400 os)) #[.string ⟨#[]⟩, .string ⟨#[]⟩] rfl (by kernel_rfl) (by kernel_rfl) (by kernel_rfl)
      (OpenSpec.preRow_of_cond 8 hx (by kernel_rfl) (fun k hk => by cases hk; kernel_rfl) (by kernel_rfl) (dsy_met os _))) ?_
  intro W base args ds gs before hval0 hW _ hcond hsz0 hL0 hsh _
  have hL : laidMet Tryd.prog [("math/bits.deBruijn64tab", Rows.laid_math_bits_deBruijn64tab), ("unicode/utf8.acceptRanges", Rows.laid_unicode_utf8_acceptRanges), ("unicode/utf8.first", Rows.laid_unicode_utf8_first)] W := hL0
  rw [← db_tab] at hL
  have htab : TabAt 1 Lib.deBruijn64tab W := db_at (Lib.tabIs_of_head (g := 1) (by kernel_rfl) (by kernel_rfl) Tryd.underlying106 Tryd.underlying5 (by kernel_rfl) (by kernel_rfl) hL)
  have hsz : (DataW.weightsEach Tryd.prog (Tryd.f3.params.toList ++ (Rows.OpenSpec.upto Rows.dominoSaysSpec).bare.plain.varTypes Tryd.prog) (ds ++ gs)).all (· ≤ reachBytes) = true := hsz0
  clear hsz0
  have hval : ∀ (j : Nat) t v, Tryd.f3.params[j]? = some t → args[j]? = some v → Value.okWide Tryd.prog W .any base t v := hval0
  have hW' := hW
  obtain ⟨p, q, hA0, hV, rfl, _, _⟩ := hW
  have hA : DataW.TrodAll enc Tryd.prog W 0 (fun _ => true) true Tryd.f3.params.toList args.toList ds p := hA0
  rw [Tryd.params3] at hA hval hsz
  obtain ⟨v0, vs0, d0, ds0, p0, q0, hargs0, rfl, rfl, t0, r0⟩ := trodAll_cons hA
  obtain ⟨v1, vs1, d1, ds1, p1, q1, hargs1, rfl, rfl, t1, r1⟩ := trodAll_cons r0
  obtain ⟨rfl, rfl, rfl⟩ := trodAll_nil r1
  obtain rfl : args = #[v0, v1] := by cases args; simp_all
  obtain ⟨rfl, rfl⟩ := trodVars_none hV
  clear hA0 hval0
  simp only [List.append_nil] at hW'
  have hbk : Rows.uptoBulkAll [d0, d1] ≤ 1048576 := of_decide_eq_true (by have := hcond _ rfl; simpa [Rows.uptoSmall] using this)
  simp only [Rows.uptoBulkAll] at hbk
  have hlt0 : ∀ x ∈ p0, x.block < W.heap.size := fun x hx => hW'.lt x (by simp [hx])
  have hback0 : ∀ (W' : World), Below W.heap.size W W' → DataW.Trod enc Tryd.prog W' 0 (fun b => decide (b < W.heap.size)) true 9 v0 d0 p0 :=
    fun W' hn => Below.trod Tryd.laidOut (by kernel_rfl) (of_decide_eq_true (by kernel_rfl)) t0 hn hlt0
  have hlt1 : ∀ x ∈ p1, x.block < W.heap.size := fun x hx => hW'.lt x (by simp [hx])
  have hback1 : ∀ (W' : World), Below W.heap.size W W' → DataW.Trod enc Tryd.prog W' 0 (fun b => decide (b < W.heap.size)) true 9 v1 d1 p1 :=
    fun W' hn => Below.trod Tryd.laidOut (by kernel_rfl) (of_decide_eq_true (by kernel_rfl)) t1 hn hlt1
  obtain ⟨s0, rfl, rfl, rfl, -⟩ := open_string Tryd.underlying9 (hval 0 9 v0 rfl rfl) t0
  obtain ⟨s1, rfl, rfl, rfl, -⟩ := open_string Tryd.underlying9 (hval 1 9 v1 rfl rfl) t1
  obtain ⟨m, hm⟩ := Go.Proofs.cell_of_shapedOpen_int (zero := #[.int .i64 0]) (t := 3) (g := 0) hsh (of_decide_eq_true (by kernel_rfl)) (by kernel_rfl) rfl (by kernel_rfl) (by kernel_rfl) Tryd.underlying3
  have b0 : s0.size ≤ 1048576 := by simp only [Rows.uptoBulk] at hbk; rw [← ba_len]; omega
  have b1 : s1.size ≤ 1048576 := by simp only [Rows.uptoBulk] at hbk; rw [← ba_len]; omega
  refine (dsy_at s0 s1 m W (by omega) (by omega) hm htab).mono fun e W' ⟨he, hnx⟩ => ?_
  subst he
  exact ⟨_, rfl, _, _, _, [], ([] : List MemPlace) ++ (([] : List MemPlace) ++ []), [], hW', trodAll_cons_mk (shut_bool Tryd.underlying4 _) trodAll_mk0, trodAll_cons_mk (hback0 _ hnx) (trodAll_cons_mk (hback1 _ hnx) trodAll_mk0), rfl, hnx.frame _, fun h => by cases h⟩

theorem dsy_said : Rows.DominoSaysUptoSaid :=
  OpenClaim.holds_of_cond 3 Tryd.f3 rfl rfl rfl rfl rfl rfl rfl ⟨rfl, rfl, rfl, rfl, rfl⟩ rfl rfl rfl rfl rfl (by kernel_rfl) Tryd.func3 (by kernel_rfl)
    (of_decide_eq_true (by kernel_rfl)) (by unfold Func.isWrapper; first | (rw [if_pos (by decide +kernel)]; kernel_rfl) | (rw [if_neg (by decide +kernel)]; exact ⟨rfl, rfl⟩))
    (fun os started H enc _ F => by rw [OpenClaim.pre_eq_preRow]; exact dsy_lifted os started H enc F)

theorem dsy_plain (f : FuncId) (fn : Func) (hf : Tryd.pinned.checked.prog.funcNamed "ferrers/ferlaw.DominoSays" = some f) (hfn : Tryd.pinned.checked.prog.funcs[f]? = some fn) :
    false = Tryd.pinned.checked.prog.looks [] ∧ ∀ (j : Nat) t, fn.params[j]? = some t → Tryd.pinned.checked.prog.wantsStandIn t = false := by
  obtain rfl : f = 3 := Option.some.inj ((show Tryd.prog.funcNamed "ferrers/ferlaw.DominoSays" = some 3 by kernel_rfl).symm.trans hf) |>.symm
  obtain rfl : fn = Tryd.f3 := (Option.some.inj (Tryd.func3.symm.trans hfn)).symm
  refine ⟨by kernel_rfl, fun j t ht => ?_⟩
  rw [Tryd.params3] at ht
  have hm : t ∈ [9, 9] := by simpa using Array.mem_of_getElem? ht
  have hall : ([9, 9].all fun u => !Tryd.prog.wantsStandIn u) = true := by kernel_rfl
  exact (show Tryd.prog.wantsStandIn t = false by simpa using List.all_eq_true.1 hall t hm)

theorem dsy_card : Rows.DominoSaysUptoCardSaid :=
  Claim7.holds_tied_plain_at .later [] _ _ _ _ dsy_said (fun _ h => by cases h) (by kernel_rfl) (fun _ h => by cases h) dominoSaysUpto_row_tie rfl ⟨rfl, rfl⟩ (by kernel_rfl) rfl dsy_plain (by kernel_rfl)

#print axioms dsy_card
end Go.Proofs.YtcnmndbckjmliaaDoor
