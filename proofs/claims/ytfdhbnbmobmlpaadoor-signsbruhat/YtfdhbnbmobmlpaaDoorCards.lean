/-
  DERIVED. GIVEN WITH THE SEED: THE CARDS: each row of YtfdhbnbmobmlpaaDoorRows.lean that lists a variable, with what it lists TIED to the program's text (the seventh form; the later family's looks); each row that meets fmt, with fmt's text TOLD by the authors' own Lean function (tested against real Go, not proved from fmt's source: count such statements apart). THE CARD IS WHAT COUNTS. Prove the row's statement (the work); the ties are given (YtfdhbnbmobmlpaaDoorTie.lean); close each card by the builder's one call (the guide's Derived/Test/ToyasCard.lean, 'card_holds'). Laid BY PROGRAM, IN A SANDBOX (cutbox-door.mjs). By AI agents, Wed Nov 11 2026. No macro, syntax, notation, axiom, sorry.
-/
import Derived.Test.YtfdhbnbmobmlpaaDoorRows
import GoSem.ClaimSeven
namespace Go.Proofs.YtfdhbnbmobmlpaaDoor
namespace Rows

/-- THE TIED CARD OF 'ferkeep.SignsBruhat'. -/
def signsBruhatCard : Claim7 := { stood := { row := signsBruhatRow, standIns := [], harness := (true, "846f3bb2ca1505124f27b48cceb542dfbae55a70ec01614973ae9ae6dff87794"), looks := false }, kinds := [], alts := [], laidByText := true, laidKinds := [.data, .data, .data], laidTests := true, laidLooks := .later }
def SignsBruhatCardSaid : Prop := Claim7.holds Tryd.pinned (.plain (OpenSpec.ofChange signsBruhatSpec)) signsBruhatCard

/-- THE SECOND FORM's CARD OF 'ferkeep.SignsBruhat'. -/
def signsBruhatUptoCard : Claim7 := { stood := { row := signsBruhatUptoRow, standIns := [], harness := (true, "846f3bb2ca1505124f27b48cceb542dfbae55a70ec01614973ae9ae6dff87794"), looks := false }, kinds := [], alts := [], laidByText := true, laidKinds := [.data, .data, .data], laidTests := true, laidLooks := .later }
def SignsBruhatUptoCardSaid : Prop := Claim7.holds Tryd.pinned (.plain (OpenSpec.upto signsBruhatSpec)) signsBruhatUptoCard
end Rows
end Go.Proofs.YtfdhbnbmobmlpaaDoor
