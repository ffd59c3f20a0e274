/-
  DERIVED. GIVEN WITH THE SEED: THE CARDS: each row of YtgcpconlmihilaaGreatDoorRows.lean that lists a variable, with what it lists TIED to the program's text (the seventh form; the later family's looks); each row that meets fmt, with fmt's text TOLD by the authors' own Lean function (tested against real Go, not proved from fmt's source: count such statements apart). THE CARD IS WHAT COUNTS. Prove the row's statement (the work); the ties are given (YtgcpconlmihilaaGreatDoorTie.lean); close each card by the builder's one call (the guide's Derived/Test/ToyasCard.lean, 'card_holds'). Laid BY PROGRAM, IN A SANDBOX (cutbox-door.mjs). By AI agents, Wed Nov 11 2026. No macro, syntax, notation, axiom, sorry.
-/
import Derived.Test.YtgcpconlmihilaaGreatDoorRows
import GoSem.ClaimSeven
namespace Go.Proofs.YtgcpconlmihilaaGreatDoor
namespace Rows

/-- THE TIED CARD OF 'ferlaw.SignsSays'. -/
def signsSaysCard : Claim7 := { stood := { row := signsSaysRow, standIns := [], harness := (true, "98b34e5dab65420f063b35ed3e0eea8524d963f905ec84d527bdda278dec8e34"), looks := false }, kinds := [], alts := [], laidByText := true, laidKinds := [.data, .data, .data], laidTests := true, laidLooks := .later }
def SignsSaysCardSaid : Prop := Claim7.holds Tryz.pinned (.plain (OpenSpec.ofChange signsSaysSpec)) signsSaysCard

/-- THE SECOND FORM's CARD OF 'ferlaw.SignsSays'. -/
def signsSaysUptoCard : Claim7 := { stood := { row := signsSaysUptoRow, standIns := [], harness := (true, "98b34e5dab65420f063b35ed3e0eea8524d963f905ec84d527bdda278dec8e34"), looks := false }, kinds := [], alts := [], laidByText := true, laidKinds := [.data, .data, .data], laidTests := true, laidLooks := .later }
def SignsSaysUptoCardSaid : Prop := Claim7.holds Tryz.pinned (.plain (OpenSpec.upto signsSaysSpec)) signsSaysUptoCard
end Rows
end Go.Proofs.YtgcpconlmihilaaGreatDoor
