/-
  No cell of these rows narrows 'for every input' (looked for: loops, veiled, ifaces, maps, wideKeys, modest, calm, conditions, laid).
  DERIVED. THE GIVEN ROWS OF THIS SEAT. 6 by the template 'for every input the law returns true; each argument reads behind the call as it read before'; 0 by the template 'total and deterministic' (their statements: YtpbkidgdpejenaeTotals.lean).
  GIVEN WITH THE SEED: the statements are not yours to turn. If you find one false, say at which input.
  Laid BY PROGRAM, IN A SANDBOX (cutbox-rows.mjs): the forced cells as the released guide's own fill.sh prints them over the translation db3df12dfe3151c9… (all of the seat's roots in one cut). By AI agents, Wed Nov 11 2026. No macro, syntax, notation, axiom, sorry.
-/
import Derived.Test.YtpbkidgdpejenaeChecked
import GoSem.Claim
import GoSem.ClaimJoined
import GoSem.ClaimMapViews
import Derived.JoinedTies
import Derived.KernelRfl
namespace Go.Proofs.Ytpbkidgdpejenae
/- THE CELL 'sum', in the pinned program and in every row, IS THE sha256 OF THE DUMP (.gsa) THAT YtpbkidgdpejenaeProg.lean LOADS. Nothing in Lean hashes anything: it is a label: what it is worth is what the hold of that sum in a sandbox is worth. -/
noncomputable def Try.pinned : Pinned := { name := "ytpbkidgdpejenae", sum := "db3df12dfe3151c950e562bc9a864205cfe575dc52e7cb2d15252be81cb05d7b", checked := Try.checked }
namespace Rows
def none {H : Type} : Left H := { results := [], args := [] }

/-- 'ferkeep.InsertMirror': WHATEVER THE INPUT: true; the input reads as it did. -/
def insertMirrorSpec : ChangeSpec := { name := "insertMirror", fn := fun _ => fun
  | [d] => { results := [.lit (.bool true)], args := [d] }
  | _ => none }
def insertMirrorRow : OpenClaim := { program := "ytpbkidgdpejenae", sum := "db3df12dfe3151c950e562bc9a864205cfe575dc52e7cb2d15252be81cb05d7b", func := "ferrers/ferkeep.InsertMirror", spec := "insertMirror", apart := false }
def InsertMirrorSaid : Prop := insertMirrorRow.holds Try.pinned (OpenSpec.ofChange insertMirrorSpec)

/-- ITS FALSE NEIGHBOUR: 'it returns false'. Refute it at one input. -/
def insertMirrorWrong : ChangeSpec := { name := "insertMirror", fn := fun _ => fun
  | [d] => { results := [.lit (.bool false)], args := [d] }
  | _ => none }
def InsertMirrorWrongFalsely : Prop := insertMirrorRow.holds Try.pinned (OpenSpec.ofChange insertMirrorWrong)

/-- 'ferkeep.InsertSides': WHATEVER THE INPUT: true; the input reads as it did. -/
def insertSidesSpec : ChangeSpec := { name := "insertSides", fn := fun _ => fun
  | [d1, d2, d3] => { results := [.lit (.bool true)], args := [d1, d2, d3] }
  | _ => none }
def insertSidesRow : OpenClaim := { program := "ytpbkidgdpejenae", sum := "db3df12dfe3151c950e562bc9a864205cfe575dc52e7cb2d15252be81cb05d7b", func := "ferrers/ferkeep.InsertSides", spec := "insertSides", apart := false }
def InsertSidesSaid : Prop := insertSidesRow.holds Try.pinned (OpenSpec.ofChange insertSidesSpec)

/-- ITS FALSE NEIGHBOUR: 'it returns false'. Refute it at one input. -/
def insertSidesWrong : ChangeSpec := { name := "insertSides", fn := fun _ => fun
  | [d1, d2, d3] => { results := [.lit (.bool false)], args := [d1, d2, d3] }
  | _ => none }
def InsertSidesWrongFalsely : Prop := insertSidesRow.holds Try.pinned (OpenSpec.ofChange insertSidesWrong)

/-- 'ferlaw.SlidesSays': WHATEVER THE INPUT: true; the input reads as it did. -/
def slidesSaysSpec : ChangeSpec := { name := "slidesSays", fn := fun _ => fun
  | [d1, d2, d3] => { results := [.lit (.bool true)], args := [d1, d2, d3] }
  | _ => none }
def slidesSaysRow : OpenClaim := { program := "ytpbkidgdpejenae", sum := "db3df12dfe3151c950e562bc9a864205cfe575dc52e7cb2d15252be81cb05d7b", func := "ferrers/ferlaw.SlidesSays", spec := "slidesSays", unfollowed := true, recurses := true, apart := false }
def SlidesSaysSaid : Prop := slidesSaysRow.holds Try.pinned (OpenSpec.ofChange slidesSaysSpec)

/-- ITS FALSE NEIGHBOUR: 'it returns false'. Refute it at one input. -/
def slidesSaysWrong : ChangeSpec := { name := "slidesSays", fn := fun _ => fun
  | [d1, d2, d3] => { results := [.lit (.bool false)], args := [d1, d2, d3] }
  | _ => none }
def SlidesSaysWrongFalsely : Prop := slidesSaysRow.holds Try.pinned (OpenSpec.ofChange slidesSaysWrong)

/-- 'ferlaw.SlidesTurns': WHATEVER THE INPUT: true; the input reads as it did. -/
def slidesTurnsSpec : ChangeSpec := { name := "slidesTurns", fn := fun _ => fun
  | [d] => { results := [.lit (.bool true)], args := [d] }
  | _ => none }
def slidesTurnsRow : OpenClaim := { program := "ytpbkidgdpejenae", sum := "db3df12dfe3151c950e562bc9a864205cfe575dc52e7cb2d15252be81cb05d7b", func := "ferrers/ferlaw.SlidesTurns", spec := "slidesTurns", apart := false }
def SlidesTurnsSaid : Prop := slidesTurnsRow.holds Try.pinned (OpenSpec.ofChange slidesTurnsSpec)

/-- ITS FALSE NEIGHBOUR: 'it returns false'. Refute it at one input. -/
def slidesTurnsWrong : ChangeSpec := { name := "slidesTurns", fn := fun _ => fun
  | [d] => { results := [.lit (.bool false)], args := [d] }
  | _ => none }
def SlidesTurnsWrongFalsely : Prop := slidesTurnsRow.holds Try.pinned (OpenSpec.ofChange slidesTurnsWrong)

/-- 'ferkeep.SlidesSame': WHATEVER THE INPUT: true; the input reads as it did. -/
def slidesSameSpec : ChangeSpec := { name := "slidesSame", fn := fun _ => fun
  | [d1, d2, d3] => { results := [.lit (.bool true)], args := [d1, d2, d3] }
  | _ => none }
def slidesSameRow : OpenClaim := { program := "ytpbkidgdpejenae", sum := "db3df12dfe3151c950e562bc9a864205cfe575dc52e7cb2d15252be81cb05d7b", func := "ferrers/ferkeep.SlidesSame", spec := "slidesSame", apart := false }
def SlidesSameSaid : Prop := slidesSameRow.holds Try.pinned (OpenSpec.ofChange slidesSameSpec)

/-- ITS FALSE NEIGHBOUR: 'it returns false'. Refute it at one input. -/
def slidesSameWrong : ChangeSpec := { name := "slidesSame", fn := fun _ => fun
  | [d1, d2, d3] => { results := [.lit (.bool false)], args := [d1, d2, d3] }
  | _ => none }
def SlidesSameWrongFalsely : Prop := slidesSameRow.holds Try.pinned (OpenSpec.ofChange slidesSameWrong)

/-- 'ferkeep.SlidesRound': WHATEVER THE INPUT: true; the input reads as it did. -/
def slidesRoundSpec : ChangeSpec := { name := "slidesRound", fn := fun _ => fun
  | [d] => { results := [.lit (.bool true)], args := [d] }
  | _ => none }
def slidesRoundRow : OpenClaim := { program := "ytpbkidgdpejenae", sum := "db3df12dfe3151c950e562bc9a864205cfe575dc52e7cb2d15252be81cb05d7b", func := "ferrers/ferkeep.SlidesRound", spec := "slidesRound", apart := false }
def SlidesRoundSaid : Prop := slidesRoundRow.holds Try.pinned (OpenSpec.ofChange slidesRoundSpec)

/-- ITS FALSE NEIGHBOUR: 'it returns false'. Refute it at one input. -/
def slidesRoundWrong : ChangeSpec := { name := "slidesRound", fn := fun _ => fun
  | [d] => { results := [.lit (.bool false)], args := [d] }
  | _ => none }
def SlidesRoundWrongFalsely : Prop := slidesRoundRow.holds Try.pinned (OpenSpec.ofChange slidesRoundWrong)

/- THE SECOND FORM. 'bulk': how many values and letters a reading holds, each counted each time it is reached (what is shared counts as often as it is met; a slice's spare places count too). A statement '..UptoSaid' is the law's where the arguments, and the package variables that the reading takes, are together of bulk at most 1048576: NARROWER than '..Said'. Prove '..Said' where nothing that the law and all that it calls make is longer than what came in: it says more and counts as full. Else prove '..UptoSaid'. A law counts once. -/
mutual
def uptoBulk {H : Type} : DataW H → Nat
  | .lit (.string bytes) => bytes.length + 1
  | .lit _ => 1
  | .nil => 1
  | .ptr d => uptoBulk d + 1
  | .slice elems spare => uptoBulkAll elems + uptoBulkAll spare + 1
  | .agg parts => uptoBulkAll parts + 1
  | .iface _ d => uptoBulk d + 1
  | .map entries => uptoBulkEntries entries + 1
  | .held _ => 1
def uptoBulkAll {H : Type} : List (DataW H) → Nat
  | [] => 0
  | d :: r => uptoBulk d + uptoBulkAll r
def uptoBulkEntries {H : Type} : List (Lit × DataW H) → Nat
  | [] => 0
  | x :: r => uptoBulkEntry x + uptoBulkEntries r
def uptoBulkEntry {H : Type} : Lit × DataW H → Nat
  | (.string bytes, d) => bytes.length + uptoBulk d + 1
  | (_, d) => uptoBulk d + 1
 end
def uptoSmall : (H : Type) → List (DataW H) → Bool := fun _ ds => decide (uptoBulkAll ds ≤ 1048576)
def OpenSpec.upto (s : _root_.Go.ChangeSpec) : _root_.Go.OpenSpec := { _root_.Go.OpenSpec.ofChange s with cond := some uptoSmall }

/-- 'ferkeep.InsertMirror', WHERE WHAT IT READS IS OF BULK AT MOST 1048576: true; the input reads as it did. -/
def insertMirrorUptoRow : OpenClaim := { program := "ytpbkidgdpejenae", sum := "db3df12dfe3151c950e562bc9a864205cfe575dc52e7cb2d15252be81cb05d7b", func := "ferrers/ferkeep.InsertMirror", spec := "insertMirror", apart := false, narrowed := true }
def InsertMirrorUptoSaid : Prop := insertMirrorUptoRow.holds Try.pinned (OpenSpec.upto insertMirrorSpec)

/-- 'ferkeep.InsertSides', WHERE WHAT IT READS IS OF BULK AT MOST 1048576: true; the input reads as it did. -/
def insertSidesUptoRow : OpenClaim := { program := "ytpbkidgdpejenae", sum := "db3df12dfe3151c950e562bc9a864205cfe575dc52e7cb2d15252be81cb05d7b", func := "ferrers/ferkeep.InsertSides", spec := "insertSides", apart := false, narrowed := true }
def InsertSidesUptoSaid : Prop := insertSidesUptoRow.holds Try.pinned (OpenSpec.upto insertSidesSpec)

/-- 'ferlaw.SlidesSays', WHERE WHAT IT READS IS OF BULK AT MOST 1048576: true; the input reads as it did. -/
def slidesSaysUptoRow : OpenClaim := { program := "ytpbkidgdpejenae", sum := "db3df12dfe3151c950e562bc9a864205cfe575dc52e7cb2d15252be81cb05d7b", func := "ferrers/ferlaw.SlidesSays", spec := "slidesSays", unfollowed := true, recurses := true, apart := false, narrowed := true }
def SlidesSaysUptoSaid : Prop := slidesSaysUptoRow.holds Try.pinned (OpenSpec.upto slidesSaysSpec)

/-- 'ferlaw.SlidesTurns', WHERE WHAT IT READS IS OF BULK AT MOST 1048576: true; the input reads as it did. -/
def slidesTurnsUptoRow : OpenClaim := { program := "ytpbkidgdpejenae", sum := "db3df12dfe3151c950e562bc9a864205cfe575dc52e7cb2d15252be81cb05d7b", func := "ferrers/ferlaw.SlidesTurns", spec := "slidesTurns", apart := false, narrowed := true }
def SlidesTurnsUptoSaid : Prop := slidesTurnsUptoRow.holds Try.pinned (OpenSpec.upto slidesTurnsSpec)

/-- 'ferkeep.SlidesSame', WHERE WHAT IT READS IS OF BULK AT MOST 1048576: true; the input reads as it did. -/
def slidesSameUptoRow : OpenClaim := { program := "ytpbkidgdpejenae", sum := "db3df12dfe3151c950e562bc9a864205cfe575dc52e7cb2d15252be81cb05d7b", func := "ferrers/ferkeep.SlidesSame", spec := "slidesSame", apart := false, narrowed := true }
def SlidesSameUptoSaid : Prop := slidesSameUptoRow.holds Try.pinned (OpenSpec.upto slidesSameSpec)

/-- 'ferkeep.SlidesRound', WHERE WHAT IT READS IS OF BULK AT MOST 1048576: true; the input reads as it did. -/
def slidesRoundUptoRow : OpenClaim := { program := "ytpbkidgdpejenae", sum := "db3df12dfe3151c950e562bc9a864205cfe575dc52e7cb2d15252be81cb05d7b", func := "ferrers/ferkeep.SlidesRound", spec := "slidesRound", apart := false, narrowed := true }
def SlidesRoundUptoSaid : Prop := slidesRoundUptoRow.holds Try.pinned (OpenSpec.upto slidesRoundSpec)

end Rows
end Go.Proofs.Ytpbkidgdpejenae
