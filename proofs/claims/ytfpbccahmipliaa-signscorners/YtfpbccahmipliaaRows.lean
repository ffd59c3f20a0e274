/-
  No cell of these rows narrows 'for every input' (looked for: loops, veiled, ifaces, maps, wideKeys, modest, calm, conditions, laid).
  DERIVED. THE GIVEN ROWS OF THIS SEAT. 3 by the template 'for every input the law returns true; each argument reads behind the call as it read before'; 0 by the template 'total and deterministic' (their statements: YtfpbccahmipliaaTotals.lean).
  GIVEN WITH THE SEED: the statements are not yours to turn. If you find one false, say at which input.
  Laid BY PROGRAM, IN A SANDBOX (cutbox-rows.mjs): the forced cells as the released guide's own fill.sh prints them over the translation 461bf084f0925bcc… (all of the seat's roots in one cut). By AI agents, Wed Nov 11 2026. No macro, syntax, notation, axiom, sorry.
-/
import Derived.Test.YtfpbccahmipliaaChecked
import GoSem.Claim
import GoSem.ClaimJoined
import GoSem.ClaimMapViews
import Derived.JoinedTies
import Derived.KernelRfl
namespace Go.Proofs.Ytfpbccahmipliaa
/- THE CELL 'sum', in the pinned program and in every row, IS THE sha256 OF THE DUMP (.gsa) THAT YtfpbccahmipliaaProg.lean LOADS. Nothing in Lean hashes anything: it is a label: what it is worth is what the hold of that sum in a sandbox is worth. -/
noncomputable def Try.pinned : Pinned := { name := "ytfpbccahmipliaa", sum := "461bf084f0925bcc2d8ac1bd90aa2644cb1d155684be3848454c4b9d5c2bfb8c", checked := Try.checked }
namespace Rows
def none {H : Type} : Left H := { results := [], args := [] }

/-- 'ferlaw.SignsBounds': WHATEVER THE INPUT: true; the input reads as it did. -/
def signsBoundsSpec : ChangeSpec := { name := "signsBounds", fn := fun _ => fun
  | [d1, d2] => { results := [.lit (.bool true)], args := [d1, d2] }
  | _ => none }
def signsBoundsRow : OpenClaim := { program := "ytfpbccahmipliaa", sum := "461bf084f0925bcc2d8ac1bd90aa2644cb1d155684be3848454c4b9d5c2bfb8c", func := "ferrers/ferlaw.SignsBounds", spec := "signsBounds", unfollowed := true, recurses := true, apart := false }
def SignsBoundsSaid : Prop := signsBoundsRow.holds Try.pinned (OpenSpec.ofChange signsBoundsSpec)

/-- ITS FALSE NEIGHBOUR: 'it returns false'. Refute it at one input. -/
def signsBoundsWrong : ChangeSpec := { name := "signsBounds", fn := fun _ => fun
  | [d1, d2] => { results := [.lit (.bool false)], args := [d1, d2] }
  | _ => none }
def SignsBoundsWrongFalsely : Prop := signsBoundsRow.holds Try.pinned (OpenSpec.ofChange signsBoundsWrong)

/-- 'ferlaw.SignsCorners': WHATEVER THE INPUT: true; the input reads as it did. -/
def signsCornersSpec : ChangeSpec := { name := "signsCorners", fn := fun _ => fun
  | [d1, d2, d3] => { results := [.lit (.bool true)], args := [d1, d2, d3] }
  | _ => none }
def signsCornersRow : OpenClaim := { program := "ytfpbccahmipliaa", sum := "461bf084f0925bcc2d8ac1bd90aa2644cb1d155684be3848454c4b9d5c2bfb8c", func := "ferrers/ferlaw.SignsCorners", spec := "signsCorners", apart := false }
def SignsCornersSaid : Prop := signsCornersRow.holds Try.pinned (OpenSpec.ofChange signsCornersSpec)

/-- ITS FALSE NEIGHBOUR: 'it returns false'. Refute it at one input. -/
def signsCornersWrong : ChangeSpec := { name := "signsCorners", fn := fun _ => fun
  | [d1, d2, d3] => { results := [.lit (.bool false)], args := [d1, d2, d3] }
  | _ => none }
def SignsCornersWrongFalsely : Prop := signsCornersRow.holds Try.pinned (OpenSpec.ofChange signsCornersWrong)

/-- 'ferkeep.SignsLattice': WHATEVER THE INPUT: true; the input reads as it did. -/
def signsLatticeSpec : ChangeSpec := { name := "signsLattice", fn := fun _ => fun
  | [d1, d2, d3] => { results := [.lit (.bool true)], args := [d1, d2, d3] }
  | _ => none }
def signsLatticeRow : OpenClaim := { program := "ytfpbccahmipliaa", sum := "461bf084f0925bcc2d8ac1bd90aa2644cb1d155684be3848454c4b9d5c2bfb8c", func := "ferrers/ferkeep.SignsLattice", spec := "signsLattice", unfollowed := true, recurses := true, apart := false }
def SignsLatticeSaid : Prop := signsLatticeRow.holds Try.pinned (OpenSpec.ofChange signsLatticeSpec)

/-- ITS FALSE NEIGHBOUR: 'it returns false'. Refute it at one input. -/
def signsLatticeWrong : ChangeSpec := { name := "signsLattice", fn := fun _ => fun
  | [d1, d2, d3] => { results := [.lit (.bool false)], args := [d1, d2, d3] }
  | _ => none }
def SignsLatticeWrongFalsely : Prop := signsLatticeRow.holds Try.pinned (OpenSpec.ofChange signsLatticeWrong)

/- THE SECOND FORM. 'bulk': how many values and letters a reading holds, each counted each time it is reached (what is shared counts as often as it is met; a slice's spare places count too). A statement '..UptoSaid' is the law's where the arguments, and the package variables that the reading takes, are together of bulk at most 1048576: NARROWER than '..Said'. Prove '..Said' where nothing that the law and all that it calls make is longer than what came in: it says more and counts as full. Else prove '..UptoSaid'. A law counts once. -/
mutual
def uptoBulk {H : Type} : DataW H → Nat
  | .lit (.string bytes) => bytes.length + 1
  | .lit _ => 1
  | .nil => 1
  | .ptr d => uptoBulk d + 1
  | .slice elems spare => uptoBulkAll elems + uptoBulkAll spare + 1
  | .agg parts => uptoBulkAll parts + 1
  | .iface _ d => uptoBulk d + 1
  | .map entries => uptoBulkEntries entries + 1
  | .held _ => 1
def uptoBulkAll {H : Type} : List (DataW H) → Nat
  | [] => 0
  | d :: r => uptoBulk d + uptoBulkAll r
def uptoBulkEntries {H : Type} : List (Lit × DataW H) → Nat
  | [] => 0
  | x :: r => uptoBulkEntry x + uptoBulkEntries r
def uptoBulkEntry {H : Type} : Lit × DataW H → Nat
  | (.string bytes, d) => bytes.length + uptoBulk d + 1
  | (_, d) => uptoBulk d + 1
 end
def uptoSmall : (H : Type) → List (DataW H) → Bool := fun _ ds => decide (uptoBulkAll ds ≤ 1048576)
def OpenSpec.upto (s : _root_.Go.ChangeSpec) : _root_.Go.OpenSpec := { _root_.Go.OpenSpec.ofChange s with cond := some uptoSmall }

/-- 'ferlaw.SignsBounds', WHERE WHAT IT READS IS OF BULK AT MOST 1048576: true; the input reads as it did. -/
def signsBoundsUptoRow : OpenClaim := { program := "ytfpbccahmipliaa", sum := "461bf084f0925bcc2d8ac1bd90aa2644cb1d155684be3848454c4b9d5c2bfb8c", func := "ferrers/ferlaw.SignsBounds", spec := "signsBounds", unfollowed := true, recurses := true, apart := false, narrowed := true }
def SignsBoundsUptoSaid : Prop := signsBoundsUptoRow.holds Try.pinned (OpenSpec.upto signsBoundsSpec)

/-- 'ferlaw.SignsCorners', WHERE WHAT IT READS IS OF BULK AT MOST 1048576: true; the input reads as it did. -/
def signsCornersUptoRow : OpenClaim := { program := "ytfpbccahmipliaa", sum := "461bf084f0925bcc2d8ac1bd90aa2644cb1d155684be3848454c4b9d5c2bfb8c", func := "ferrers/ferlaw.SignsCorners", spec := "signsCorners", apart := false, narrowed := true }
def SignsCornersUptoSaid : Prop := signsCornersUptoRow.holds Try.pinned (OpenSpec.upto signsCornersSpec)

/-- 'ferkeep.SignsLattice', WHERE WHAT IT READS IS OF BULK AT MOST 1048576: true; the input reads as it did. -/
def signsLatticeUptoRow : OpenClaim := { program := "ytfpbccahmipliaa", sum := "461bf084f0925bcc2d8ac1bd90aa2644cb1d155684be3848454c4b9d5c2bfb8c", func := "ferrers/ferkeep.SignsLattice", spec := "signsLattice", unfollowed := true, recurses := true, apart := false, narrowed := true }
def SignsLatticeUptoSaid : Prop := signsLatticeUptoRow.holds Try.pinned (OpenSpec.upto signsLatticeSpec)

end Rows
end Go.Proofs.Ytfpbccahmipliaa
