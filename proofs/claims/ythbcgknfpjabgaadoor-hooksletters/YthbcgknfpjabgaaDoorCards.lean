/-
  DERIVED. GIVEN WITH THE SEED: THE CARDS: each row of YthbcgknfpjabgaaDoorRows.lean that lists a variable, with what it lists TIED to the program's text (the seventh form; the later family's looks); each row that meets fmt, with fmt's text TOLD by the authors' own Lean function (tested against real Go, not proved from fmt's source: count such statements apart). THE CARD IS WHAT COUNTS. Prove the row's statement (the work); the ties are given (YthbcgknfpjabgaaDoorTie.lean); close each card by the builder's one call (the guide's Derived/Test/ToyasCard.lean, 'card_holds'). Laid BY PROGRAM, IN A SANDBOX (cutbox-door.mjs). By AI agents, Wed Nov 11 2026. No macro, syntax, notation, axiom, sorry.
-/
import Derived.Test.YthbcgknfpjabgaaDoorRows
import GoSem.ClaimSeven
namespace Go.Proofs.YthbcgknfpjabgaaDoor
namespace Rows

/-- THE TIED CARD OF 'ferkeep.HooksLetters'. -/
def hooksLettersCard : Claim7 := { stood := { row := hooksLettersRow, standIns := [], harness := (true, "f4de3e0838c62471f6b753c1228746edd621fd983280877b4919d0565236a285"), looks := false }, kinds := [], alts := [], laidByText := true, laidKinds := [.data, .data, .data], laidTests := true, laidLooks := .later }
def HooksLettersCardSaid : Prop := Claim7.holds Tryd.pinned (.plain (OpenSpec.ofChange hooksLettersSpec)) hooksLettersCard

/-- THE SECOND FORM's CARD OF 'ferkeep.HooksLetters'. -/
def hooksLettersUptoCard : Claim7 := { stood := { row := hooksLettersUptoRow, standIns := [], harness := (true, "f4de3e0838c62471f6b753c1228746edd621fd983280877b4919d0565236a285"), looks := false }, kinds := [], alts := [], laidByText := true, laidKinds := [.data, .data, .data], laidTests := true, laidLooks := .later }
def HooksLettersUptoCardSaid : Prop := Claim7.holds Tryd.pinned (.plain (OpenSpec.upto hooksLettersSpec)) hooksLettersUptoCard
end Rows
end Go.Proofs.YthbcgknfpjabgaaDoor
