/-
  No cell of these rows narrows 'for every input' (looked for: loops, veiled, ifaces, maps, wideKeys, modest, calm, conditions, laid).
  DERIVED. THE GIVEN ROWS OF THIS SEAT. 5 by the template 'for every input the law returns true; each argument reads behind the call as it read before'; 0 by the template 'total and deterministic' (their statements: YtnjbkiegeielhaaTotals.lean).
  GIVEN WITH THE SEED: the statements are not yours to turn. If you find one false, say at which input.
  Laid BY PROGRAM, IN A SANDBOX (cutbox-rows.mjs): the forced cells as the released guide's own fill.sh prints them over the translation de091646e901d918… (all of the seat's roots in one cut). By AI agents, Wed Nov 11 2026. No macro, syntax, notation, axiom, sorry.
-/
import Derived.Test.YtnjbkiegeielhaaChecked
import GoSem.Claim
import GoSem.ClaimJoined
import GoSem.ClaimMapViews
import Derived.JoinedTies
import Derived.KernelRfl
namespace Go.Proofs.Ytnjbkiegeielhaa
/- THE CELL 'sum', in the pinned program and in every row, IS THE sha256 OF THE DUMP (.gsa) THAT YtnjbkiegeielhaaProg.lean LOADS. Nothing in Lean hashes anything: it is a label: what it is worth is what the hold of that sum in a sandbox is worth. -/
noncomputable def Try.pinned : Pinned := { name := "ytnjbkiegeielhaa", sum := "de091646e901d9180a95e3d1601573e4b95d0bfb4f62f0701255ad8325370445", checked := Try.checked }
namespace Rows
def none {H : Type} : Left H := { results := [], args := [] }

/-- 'ferlaw.PartsTurns': WHATEVER THE INPUT: true; the input reads as it did. -/
def partsTurnsSpec : ChangeSpec := { name := "partsTurns", fn := fun _ => fun
  | [d1, d2, d3, d4] => { results := [.lit (.bool true)], args := [d1, d2, d3, d4] }
  | _ => none }
def partsTurnsRow : OpenClaim := { program := "ytnjbkiegeielhaa", sum := "de091646e901d9180a95e3d1601573e4b95d0bfb4f62f0701255ad8325370445", func := "ferrers/ferlaw.PartsTurns", spec := "partsTurns", apart := false }
def PartsTurnsSaid : Prop := partsTurnsRow.holds Try.pinned (OpenSpec.ofChange partsTurnsSpec)

/-- ITS FALSE NEIGHBOUR: 'it returns false'. Refute it at one input. -/
def partsTurnsWrong : ChangeSpec := { name := "partsTurns", fn := fun _ => fun
  | [d1, d2, d3, d4] => { results := [.lit (.bool false)], args := [d1, d2, d3, d4] }
  | _ => none }
def PartsTurnsWrongFalsely : Prop := partsTurnsRow.holds Try.pinned (OpenSpec.ofChange partsTurnsWrong)

/-- 'ferlaw.PartsMerges': WHATEVER THE INPUT: true; the input reads as it did. -/
def partsMergesSpec : ChangeSpec := { name := "partsMerges", fn := fun _ => fun
  | [d] => { results := [.lit (.bool true)], args := [d] }
  | _ => none }
def partsMergesRow : OpenClaim := { program := "ytnjbkiegeielhaa", sum := "de091646e901d9180a95e3d1601573e4b95d0bfb4f62f0701255ad8325370445", func := "ferrers/ferlaw.PartsMerges", spec := "partsMerges", apart := false }
def PartsMergesSaid : Prop := partsMergesRow.holds Try.pinned (OpenSpec.ofChange partsMergesSpec)

/-- ITS FALSE NEIGHBOUR: 'it returns false'. Refute it at one input. -/
def partsMergesWrong : ChangeSpec := { name := "partsMerges", fn := fun _ => fun
  | [d] => { results := [.lit (.bool false)], args := [d] }
  | _ => none }
def PartsMergesWrongFalsely : Prop := partsMergesRow.holds Try.pinned (OpenSpec.ofChange partsMergesWrong)

/-- 'ferkeep.PartsEuler': WHATEVER THE INPUT: true; the input reads as it did. -/
def partsEulerSpec : ChangeSpec := { name := "partsEuler", fn := fun _ => fun
  | [d] => { results := [.lit (.bool true)], args := [d] }
  | _ => none }
def partsEulerRow : OpenClaim := { program := "ytnjbkiegeielhaa", sum := "de091646e901d9180a95e3d1601573e4b95d0bfb4f62f0701255ad8325370445", func := "ferrers/ferkeep.PartsEuler", spec := "partsEuler", apart := false }
def PartsEulerSaid : Prop := partsEulerRow.holds Try.pinned (OpenSpec.ofChange partsEulerSpec)

/-- ITS FALSE NEIGHBOUR: 'it returns false'. Refute it at one input. -/
def partsEulerWrong : ChangeSpec := { name := "partsEuler", fn := fun _ => fun
  | [d] => { results := [.lit (.bool false)], args := [d] }
  | _ => none }
def PartsEulerWrongFalsely : Prop := partsEulerRow.holds Try.pinned (OpenSpec.ofChange partsEulerWrong)

/-- 'ferkeep.PartsFranklin': WHATEVER THE INPUT: true; the input reads as it did. -/
def partsFranklinSpec : ChangeSpec := { name := "partsFranklin", fn := fun _ => fun
  | [d] => { results := [.lit (.bool true)], args := [d] }
  | _ => none }
def partsFranklinRow : OpenClaim := { program := "ytnjbkiegeielhaa", sum := "de091646e901d9180a95e3d1601573e4b95d0bfb4f62f0701255ad8325370445", func := "ferrers/ferkeep.PartsFranklin", spec := "partsFranklin", apart := false }
def PartsFranklinSaid : Prop := partsFranklinRow.holds Try.pinned (OpenSpec.ofChange partsFranklinSpec)

/-- ITS FALSE NEIGHBOUR: 'it returns false'. Refute it at one input. -/
def partsFranklinWrong : ChangeSpec := { name := "partsFranklin", fn := fun _ => fun
  | [d] => { results := [.lit (.bool false)], args := [d] }
  | _ => none }
def PartsFranklinWrongFalsely : Prop := partsFranklinRow.holds Try.pinned (OpenSpec.ofChange partsFranklinWrong)

/-- 'ferkeep.PartsOrder': WHATEVER THE INPUT: true; the input reads as it did. -/
def partsOrderSpec : ChangeSpec := { name := "partsOrder", fn := fun _ => fun
  | [d1, d2] => { results := [.lit (.bool true)], args := [d1, d2] }
  | _ => none }
def partsOrderRow : OpenClaim := { program := "ytnjbkiegeielhaa", sum := "de091646e901d9180a95e3d1601573e4b95d0bfb4f62f0701255ad8325370445", func := "ferrers/ferkeep.PartsOrder", spec := "partsOrder", apart := false }
def PartsOrderSaid : Prop := partsOrderRow.holds Try.pinned (OpenSpec.ofChange partsOrderSpec)

/-- ITS FALSE NEIGHBOUR: 'it returns false'. Refute it at one input. -/
def partsOrderWrong : ChangeSpec := { name := "partsOrder", fn := fun _ => fun
  | [d1, d2] => { results := [.lit (.bool false)], args := [d1, d2] }
  | _ => none }
def PartsOrderWrongFalsely : Prop := partsOrderRow.holds Try.pinned (OpenSpec.ofChange partsOrderWrong)

/- THE SECOND FORM. 'bulk': how many values and letters a reading holds, each counted each time it is reached (what is shared counts as often as it is met; a slice's spare places count too). A statement '..UptoSaid' is the law's where the arguments, and the package variables that the reading takes, are together of bulk at most 1048576: NARROWER than '..Said'. Prove '..Said' where nothing that the law and all that it calls make is longer than what came in: it says more and counts as full. Else prove '..UptoSaid'. A law counts once. -/
mutual
def uptoBulk {H : Type} : DataW H → Nat
  | .lit (.string bytes) => bytes.length + 1
  | .lit _ => 1
  | .nil => 1
  | .ptr d => uptoBulk d + 1
  | .slice elems spare => uptoBulkAll elems + uptoBulkAll spare + 1
  | .agg parts => uptoBulkAll parts + 1
  | .iface _ d => uptoBulk d + 1
  | .map entries => uptoBulkEntries entries + 1
  | .held _ => 1
def uptoBulkAll {H : Type} : List (DataW H) → Nat
  | [] => 0
  | d :: r => uptoBulk d + uptoBulkAll r
def uptoBulkEntries {H : Type} : List (Lit × DataW H) → Nat
  | [] => 0
  | x :: r => uptoBulkEntry x + uptoBulkEntries r
def uptoBulkEntry {H : Type} : Lit × DataW H → Nat
  | (.string bytes, d) => bytes.length + uptoBulk d + 1
  | (_, d) => uptoBulk d + 1
 end
def uptoSmall : (H : Type) → List (DataW H) → Bool := fun _ ds => decide (uptoBulkAll ds ≤ 1048576)
def OpenSpec.upto (s : _root_.Go.ChangeSpec) : _root_.Go.OpenSpec := { _root_.Go.OpenSpec.ofChange s with cond := some uptoSmall }

/-- 'ferlaw.PartsTurns', WHERE WHAT IT READS IS OF BULK AT MOST 1048576: true; the input reads as it did. -/
def partsTurnsUptoRow : OpenClaim := { program := "ytnjbkiegeielhaa", sum := "de091646e901d9180a95e3d1601573e4b95d0bfb4f62f0701255ad8325370445", func := "ferrers/ferlaw.PartsTurns", spec := "partsTurns", apart := false, narrowed := true }
def PartsTurnsUptoSaid : Prop := partsTurnsUptoRow.holds Try.pinned (OpenSpec.upto partsTurnsSpec)

/-- 'ferlaw.PartsMerges', WHERE WHAT IT READS IS OF BULK AT MOST 1048576: true; the input reads as it did. -/
def partsMergesUptoRow : OpenClaim := { program := "ytnjbkiegeielhaa", sum := "de091646e901d9180a95e3d1601573e4b95d0bfb4f62f0701255ad8325370445", func := "ferrers/ferlaw.PartsMerges", spec := "partsMerges", apart := false, narrowed := true }
def PartsMergesUptoSaid : Prop := partsMergesUptoRow.holds Try.pinned (OpenSpec.upto partsMergesSpec)

/-- 'ferkeep.PartsEuler', WHERE WHAT IT READS IS OF BULK AT MOST 1048576: true; the input reads as it did. -/
def partsEulerUptoRow : OpenClaim := { program := "ytnjbkiegeielhaa", sum := "de091646e901d9180a95e3d1601573e4b95d0bfb4f62f0701255ad8325370445", func := "ferrers/ferkeep.PartsEuler", spec := "partsEuler", apart := false, narrowed := true }
def PartsEulerUptoSaid : Prop := partsEulerUptoRow.holds Try.pinned (OpenSpec.upto partsEulerSpec)

/-- 'ferkeep.PartsFranklin', WHERE WHAT IT READS IS OF BULK AT MOST 1048576: true; the input reads as it did. -/
def partsFranklinUptoRow : OpenClaim := { program := "ytnjbkiegeielhaa", sum := "de091646e901d9180a95e3d1601573e4b95d0bfb4f62f0701255ad8325370445", func := "ferrers/ferkeep.PartsFranklin", spec := "partsFranklin", apart := false, narrowed := true }
def PartsFranklinUptoSaid : Prop := partsFranklinUptoRow.holds Try.pinned (OpenSpec.upto partsFranklinSpec)

/-- 'ferkeep.PartsOrder', WHERE WHAT IT READS IS OF BULK AT MOST 1048576: true; the input reads as it did. -/
def partsOrderUptoRow : OpenClaim := { program := "ytnjbkiegeielhaa", sum := "de091646e901d9180a95e3d1601573e4b95d0bfb4f62f0701255ad8325370445", func := "ferrers/ferkeep.PartsOrder", spec := "partsOrder", apart := false, narrowed := true }
def PartsOrderUptoSaid : Prop := partsOrderUptoRow.holds Try.pinned (OpenSpec.upto partsOrderSpec)

end Rows
end Go.Proofs.Ytnjbkiegeielhaa
