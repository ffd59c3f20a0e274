/-
  No cell of these rows narrows 'for every input' (looked for: loops, veiled, ifaces, maps, wideKeys, modest, calm, conditions, laid).
  DERIVED. THE GIVEN ROWS OF THIS SEAT. 6 by the template 'for every input the law returns true; each argument reads behind the call as it read before'; 0 by the template 'total and deterministic' (their statements: YtpbmcaoomcippadTotals.lean).
  GIVEN WITH THE SEED: the statements are not yours to turn. If you find one false, say at which input.
  Laid BY PROGRAM, IN A SANDBOX (cutbox-rows.mjs): the forced cells as the released guide's own fill.sh prints them over the translation d496bf4ae6c6ed6e… (all of the seat's roots in one cut). By AI agents, Wed Nov 11 2026. No macro, syntax, notation, axiom, sorry.
-/
import Derived.Test.YtpbmcaoomcippadChecked
import GoSem.Claim
import GoSem.ClaimJoined
import GoSem.ClaimMapViews
import Derived.JoinedTies
import Derived.KernelRfl
namespace Go.Proofs.Ytpbmcaoomcippad
/- THE CELL 'sum', in the pinned program and in every row, IS THE sha256 OF THE DUMP (.gsa) THAT YtpbmcaoomcippadProg.lean LOADS. Nothing in Lean hashes anything: it is a label: what it is worth is what the hold of that sum in a sandbox is worth. -/
noncomputable def Try.pinned : Pinned := { name := "ytpbmcaoomcippad", sum := "d496bf4ae6c6ed6eb69e4552796034b313705aa9300d9b887451aefa1b1cbc51", checked := Try.checked }
namespace Rows
def none {H : Type} : Left H := { results := [], args := [] }

/-- 'ferlaw.InsertMakes': WHATEVER THE INPUT: true; the input reads as it did. -/
def insertMakesSpec : ChangeSpec := { name := "insertMakes", fn := fun _ => fun
  | [d1, d2, d3] => { results := [.lit (.bool true)], args := [d1, d2, d3] }
  | _ => none }
def insertMakesRow : OpenClaim := { program := "ytpbmcaoomcippad", sum := "d496bf4ae6c6ed6eb69e4552796034b313705aa9300d9b887451aefa1b1cbc51", func := "ferrers/ferlaw.InsertMakes", spec := "insertMakes", recurses := true, apart := false }
def InsertMakesSaid : Prop := insertMakesRow.holds Try.pinned (OpenSpec.ofChange insertMakesSpec)

/-- ITS FALSE NEIGHBOUR: 'it returns false'. Refute it at one input. -/
def insertMakesWrong : ChangeSpec := { name := "insertMakes", fn := fun _ => fun
  | [d1, d2, d3] => { results := [.lit (.bool false)], args := [d1, d2, d3] }
  | _ => none }
def InsertMakesWrongFalsely : Prop := insertMakesRow.holds Try.pinned (OpenSpec.ofChange insertMakesWrong)

/-- 'ferlaw.InsertPairs': WHATEVER THE INPUT: true; the input reads as it did. -/
def insertPairsSpec : ChangeSpec := { name := "insertPairs", fn := fun _ => fun
  | [d1, d2, d3] => { results := [.lit (.bool true)], args := [d1, d2, d3] }
  | _ => none }
def insertPairsRow : OpenClaim := { program := "ytpbmcaoomcippad", sum := "d496bf4ae6c6ed6eb69e4552796034b313705aa9300d9b887451aefa1b1cbc51", func := "ferrers/ferlaw.InsertPairs", spec := "insertPairs", unfollowed := true, recurses := true, apart := false }
def InsertPairsSaid : Prop := insertPairsRow.holds Try.pinned (OpenSpec.ofChange insertPairsSpec)

/-- ITS FALSE NEIGHBOUR: 'it returns false'. Refute it at one input. -/
def insertPairsWrong : ChangeSpec := { name := "insertPairs", fn := fun _ => fun
  | [d1, d2, d3] => { results := [.lit (.bool false)], args := [d1, d2, d3] }
  | _ => none }
def InsertPairsWrongFalsely : Prop := insertPairsRow.holds Try.pinned (OpenSpec.ofChange insertPairsWrong)

/-- 'ferlaw.InsertLong': WHATEVER THE INPUT: true; the input reads as it did. -/
def insertLongSpec : ChangeSpec := { name := "insertLong", fn := fun _ => fun
  | [d1, d2] => { results := [.lit (.bool true)], args := [d1, d2] }
  | _ => none }
def insertLongRow : OpenClaim := { program := "ytpbmcaoomcippad", sum := "d496bf4ae6c6ed6eb69e4552796034b313705aa9300d9b887451aefa1b1cbc51", func := "ferrers/ferlaw.InsertLong", spec := "insertLong", unfollowed := true, recurses := true, apart := false }
def InsertLongSaid : Prop := insertLongRow.holds Try.pinned (OpenSpec.ofChange insertLongSpec)

/-- ITS FALSE NEIGHBOUR: 'it returns false'. Refute it at one input. -/
def insertLongWrong : ChangeSpec := { name := "insertLong", fn := fun _ => fun
  | [d1, d2] => { results := [.lit (.bool false)], args := [d1, d2] }
  | _ => none }
def InsertLongWrongFalsely : Prop := insertLongRow.holds Try.pinned (OpenSpec.ofChange insertLongWrong)

/-- 'ferkeep.InsertBack': WHATEVER THE INPUT: true; the input reads as it did. -/
def insertBackSpec : ChangeSpec := { name := "insertBack", fn := fun _ => fun
  | [d1, d2, d3, d4] => { results := [.lit (.bool true)], args := [d1, d2, d3, d4] }
  | _ => none }
def insertBackRow : OpenClaim := { program := "ytpbmcaoomcippad", sum := "d496bf4ae6c6ed6eb69e4552796034b313705aa9300d9b887451aefa1b1cbc51", func := "ferrers/ferkeep.InsertBack", spec := "insertBack", unfollowed := true, recurses := true, apart := false }
def InsertBackSaid : Prop := insertBackRow.holds Try.pinned (OpenSpec.ofChange insertBackSpec)

/-- ITS FALSE NEIGHBOUR: 'it returns false'. Refute it at one input. -/
def insertBackWrong : ChangeSpec := { name := "insertBack", fn := fun _ => fun
  | [d1, d2, d3, d4] => { results := [.lit (.bool false)], args := [d1, d2, d3, d4] }
  | _ => none }
def InsertBackWrongFalsely : Prop := insertBackRow.holds Try.pinned (OpenSpec.ofChange insertBackWrong)

/-- 'ferkeep.InsertGreene': WHATEVER THE INPUT: true; the input reads as it did. -/
def insertGreeneSpec : ChangeSpec := { name := "insertGreene", fn := fun _ => fun
  | [d1, d2, d3] => { results := [.lit (.bool true)], args := [d1, d2, d3] }
  | _ => none }
def insertGreeneRow : OpenClaim := { program := "ytpbmcaoomcippad", sum := "d496bf4ae6c6ed6eb69e4552796034b313705aa9300d9b887451aefa1b1cbc51", func := "ferrers/ferkeep.InsertGreene", spec := "insertGreene", apart := false }
def InsertGreeneSaid : Prop := insertGreeneRow.holds Try.pinned (OpenSpec.ofChange insertGreeneSpec)

/-- ITS FALSE NEIGHBOUR: 'it returns false'. Refute it at one input. -/
def insertGreeneWrong : ChangeSpec := { name := "insertGreene", fn := fun _ => fun
  | [d1, d2, d3] => { results := [.lit (.bool false)], args := [d1, d2, d3] }
  | _ => none }
def InsertGreeneWrongFalsely : Prop := insertGreeneRow.holds Try.pinned (OpenSpec.ofChange insertGreeneWrong)

/-- 'ferkeep.InsertKnuth': WHATEVER THE INPUT: true; the input reads as it did. -/
def insertKnuthSpec : ChangeSpec := { name := "insertKnuth", fn := fun _ => fun
  | [d1, d2] => { results := [.lit (.bool true)], args := [d1, d2] }
  | _ => none }
def insertKnuthRow : OpenClaim := { program := "ytpbmcaoomcippad", sum := "d496bf4ae6c6ed6eb69e4552796034b313705aa9300d9b887451aefa1b1cbc51", func := "ferrers/ferkeep.InsertKnuth", spec := "insertKnuth", unfollowed := true, recurses := true, apart := false }
def InsertKnuthSaid : Prop := insertKnuthRow.holds Try.pinned (OpenSpec.ofChange insertKnuthSpec)

/-- ITS FALSE NEIGHBOUR: 'it returns false'. Refute it at one input. -/
def insertKnuthWrong : ChangeSpec := { name := "insertKnuth", fn := fun _ => fun
  | [d1, d2] => { results := [.lit (.bool false)], args := [d1, d2] }
  | _ => none }
def InsertKnuthWrongFalsely : Prop := insertKnuthRow.holds Try.pinned (OpenSpec.ofChange insertKnuthWrong)

/- THE SECOND FORM. 'bulk': how many values and letters a reading holds, each counted each time it is reached (what is shared counts as often as it is met; a slice's spare places count too). A statement '..UptoSaid' is the law's where the arguments, and the package variables that the reading takes, are together of bulk at most 1048576: NARROWER than '..Said'. Prove '..Said' where nothing that the law and all that it calls make is longer than what came in: it says more and counts as full. Else prove '..UptoSaid'. A law counts once. -/
mutual
def uptoBulk {H : Type} : DataW H → Nat
  | .lit (.string bytes) => bytes.length + 1
  | .lit _ => 1
  | .nil => 1
  | .ptr d => uptoBulk d + 1
  | .slice elems spare => uptoBulkAll elems + uptoBulkAll spare + 1
  | .agg parts => uptoBulkAll parts + 1
  | .iface _ d => uptoBulk d + 1
  | .map entries => uptoBulkEntries entries + 1
  | .held _ => 1
def uptoBulkAll {H : Type} : List (DataW H) → Nat
  | [] => 0
  | d :: r => uptoBulk d + uptoBulkAll r
def uptoBulkEntries {H : Type} : List (Lit × DataW H) → Nat
  | [] => 0
  | x :: r => uptoBulkEntry x + uptoBulkEntries r
def uptoBulkEntry {H : Type} : Lit × DataW H → Nat
  | (.string bytes, d) => bytes.length + uptoBulk d + 1
  | (_, d) => uptoBulk d + 1
 end
def uptoSmall : (H : Type) → List (DataW H) → Bool := fun _ ds => decide (uptoBulkAll ds ≤ 1048576)
def OpenSpec.upto (s : _root_.Go.ChangeSpec) : _root_.Go.OpenSpec := { _root_.Go.OpenSpec.ofChange s with cond := some uptoSmall }

/-- 'ferlaw.InsertMakes', WHERE WHAT IT READS IS OF BULK AT MOST 1048576: true; the input reads as it did. -/
def insertMakesUptoRow : OpenClaim := { program := "ytpbmcaoomcippad", sum := "d496bf4ae6c6ed6eb69e4552796034b313705aa9300d9b887451aefa1b1cbc51", func := "ferrers/ferlaw.InsertMakes", spec := "insertMakes", recurses := true, apart := false, narrowed := true }
def InsertMakesUptoSaid : Prop := insertMakesUptoRow.holds Try.pinned (OpenSpec.upto insertMakesSpec)

/-- 'ferlaw.InsertPairs', WHERE WHAT IT READS IS OF BULK AT MOST 1048576: true; the input reads as it did. -/
def insertPairsUptoRow : OpenClaim := { program := "ytpbmcaoomcippad", sum := "d496bf4ae6c6ed6eb69e4552796034b313705aa9300d9b887451aefa1b1cbc51", func := "ferrers/ferlaw.InsertPairs", spec := "insertPairs", unfollowed := true, recurses := true, apart := false, narrowed := true }
def InsertPairsUptoSaid : Prop := insertPairsUptoRow.holds Try.pinned (OpenSpec.upto insertPairsSpec)

/-- 'ferlaw.InsertLong', WHERE WHAT IT READS IS OF BULK AT MOST 1048576: true; the input reads as it did. -/
def insertLongUptoRow : OpenClaim := { program := "ytpbmcaoomcippad", sum := "d496bf4ae6c6ed6eb69e4552796034b313705aa9300d9b887451aefa1b1cbc51", func := "ferrers/ferlaw.InsertLong", spec := "insertLong", unfollowed := true, recurses := true, apart := false, narrowed := true }
def InsertLongUptoSaid : Prop := insertLongUptoRow.holds Try.pinned (OpenSpec.upto insertLongSpec)

/-- 'ferkeep.InsertBack', WHERE WHAT IT READS IS OF BULK AT MOST 1048576: true; the input reads as it did. -/
def insertBackUptoRow : OpenClaim := { program := "ytpbmcaoomcippad", sum := "d496bf4ae6c6ed6eb69e4552796034b313705aa9300d9b887451aefa1b1cbc51", func := "ferrers/ferkeep.InsertBack", spec := "insertBack", unfollowed := true, recurses := true, apart := false, narrowed := true }
def InsertBackUptoSaid : Prop := insertBackUptoRow.holds Try.pinned (OpenSpec.upto insertBackSpec)

/-- 'ferkeep.InsertGreene', WHERE WHAT IT READS IS OF BULK AT MOST 1048576: true; the input reads as it did. -/
def insertGreeneUptoRow : OpenClaim := { program := "ytpbmcaoomcippad", sum := "d496bf4ae6c6ed6eb69e4552796034b313705aa9300d9b887451aefa1b1cbc51", func := "ferrers/ferkeep.InsertGreene", spec := "insertGreene", apart := false, narrowed := true }
def InsertGreeneUptoSaid : Prop := insertGreeneUptoRow.holds Try.pinned (OpenSpec.upto insertGreeneSpec)

/-- 'ferkeep.InsertKnuth', WHERE WHAT IT READS IS OF BULK AT MOST 1048576: true; the input reads as it did. -/
def insertKnuthUptoRow : OpenClaim := { program := "ytpbmcaoomcippad", sum := "d496bf4ae6c6ed6eb69e4552796034b313705aa9300d9b887451aefa1b1cbc51", func := "ferrers/ferkeep.InsertKnuth", spec := "insertKnuth", unfollowed := true, recurses := true, apart := false, narrowed := true }
def InsertKnuthUptoSaid : Prop := insertKnuthUptoRow.holds Try.pinned (OpenSpec.upto insertKnuthSpec)

end Rows
end Go.Proofs.Ytpbmcaoomcippad
