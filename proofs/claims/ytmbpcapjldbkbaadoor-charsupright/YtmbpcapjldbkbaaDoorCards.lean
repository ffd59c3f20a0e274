/-
  DERIVED. GIVEN WITH THE SEED: THE CARDS: each row of YtmbpcapjldbkbaaDoorRows.lean that lists a variable, with what it lists TIED to the program's text (the seventh form; the later family's looks); each row that meets fmt, with fmt's text TOLD by the authors' own Lean function (tested against real Go, not proved from fmt's source: count such statements apart). THE CARD IS WHAT COUNTS. Prove the row's statement (the work); the ties are given (YtmbpcapjldbkbaaDoorTie.lean); close each card by the builder's one call (the guide's Derived/Test/ToyasCard.lean, 'card_holds'). Laid BY PROGRAM, IN A SANDBOX (cutbox-door.mjs). By AI agents, Wed Nov 11 2026. No macro, syntax, notation, axiom, sorry.
-/
import Derived.Test.YtmbpcapjldbkbaaDoorRows
import GoSem.ClaimSeven
namespace Go.Proofs.YtmbpcapjldbkbaaDoor
namespace Rows

/-- THE TIED CARD OF 'ferkeep.CharsUpright'. -/
def charsUprightCard : Claim7 := { stood := { row := charsUprightRow, standIns := [], harness := (true, "07ca349a37b6f7273fb3589362ecfa1c6652913a64de7052076e182ff109032f"), looks := false }, kinds := [], alts := [], laidByText := true, laidKinds := [.data, .data, .data], laidTests := true, laidLooks := .later }
def CharsUprightCardSaid : Prop := Claim7.holds Tryd.pinned (.plain (OpenSpec.ofChange charsUprightSpec)) charsUprightCard

/-- THE SECOND FORM's CARD OF 'ferkeep.CharsUpright'. -/
def charsUprightUptoCard : Claim7 := { stood := { row := charsUprightUptoRow, standIns := [], harness := (true, "07ca349a37b6f7273fb3589362ecfa1c6652913a64de7052076e182ff109032f"), looks := false }, kinds := [], alts := [], laidByText := true, laidKinds := [.data, .data, .data], laidTests := true, laidLooks := .later }
def CharsUprightUptoCardSaid : Prop := Claim7.holds Tryd.pinned (.plain (OpenSpec.upto charsUprightSpec)) charsUprightUptoCard
end Rows
end Go.Proofs.YtmbpcapjldbkbaaDoor
