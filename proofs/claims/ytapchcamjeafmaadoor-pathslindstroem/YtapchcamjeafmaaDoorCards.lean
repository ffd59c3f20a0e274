/-
  DERIVED. GIVEN WITH THE SEED: THE CARDS: each row of YtapchcamjeafmaaDoorRows.lean that lists a variable, with what it lists TIED to the program's text (the seventh form; the later family's looks); each row that meets fmt, with fmt's text TOLD by the authors' own Lean function (tested against real Go, not proved from fmt's source: count such statements apart). THE CARD IS WHAT COUNTS. Prove the row's statement (the work); the ties are given (YtapchcamjeafmaaDoorTie.lean); close each card by the builder's one call (the guide's Derived/Test/ToyasCard.lean, 'card_holds'). Laid BY PROGRAM, IN A SANDBOX (cutbox-door.mjs). By AI agents, Wed Nov 11 2026. No macro, syntax, notation, axiom, sorry.
-/
import Derived.Test.YtapchcamjeafmaaDoorRows
import GoSem.ClaimSeven
namespace Go.Proofs.YtapchcamjeafmaaDoor
namespace Rows

/-- THE TIED CARD OF 'ferkeep.PathsLindstroem'. -/
def pathsLindstroemCard : Claim7 := { stood := { row := pathsLindstroemRow, standIns := [], harness := (true, "e2bfba8b1ba92e213f8d7eaca3a48cb2fbf72269608c251657097ef9a1319de5"), looks := false }, kinds := [], alts := [], laidByText := true, laidKinds := [.data, .data, .data], laidTests := true, laidLooks := .later }
def PathsLindstroemCardSaid : Prop := Claim7.holds Tryd.pinned (.plain (OpenSpec.ofChange pathsLindstroemSpec)) pathsLindstroemCard

/-- THE SECOND FORM's CARD OF 'ferkeep.PathsLindstroem'. -/
def pathsLindstroemUptoCard : Claim7 := { stood := { row := pathsLindstroemUptoRow, standIns := [], harness := (true, "e2bfba8b1ba92e213f8d7eaca3a48cb2fbf72269608c251657097ef9a1319de5"), looks := false }, kinds := [], alts := [], laidByText := true, laidKinds := [.data, .data, .data], laidTests := true, laidLooks := .later }
def PathsLindstroemUptoCardSaid : Prop := Claim7.holds Tryd.pinned (.plain (OpenSpec.upto pathsLindstroemSpec)) pathsLindstroemUptoCard
end Rows
end Go.Proofs.YtapchcamjeafmaaDoor
