/-
  DERIVED. GIVEN WITH THE SEED: THE CARDS: each row of YtmbpcapjldbkbaaGreatDoorRows.lean that lists a variable, with what it lists TIED to the program's text (the seventh form; the later family's looks); each row that meets fmt, with fmt's text TOLD by the authors' own Lean function (tested against real Go, not proved from fmt's source: count such statements apart). THE CARD IS WHAT COUNTS. Prove the row's statement (the work); the ties are given (YtmbpcapjldbkbaaGreatDoorTie.lean); close each card by the builder's one call (the guide's Derived/Test/ToyasCard.lean, 'card_holds'). Laid BY PROGRAM, IN A SANDBOX (cutbox-door.mjs). By AI agents, Wed Nov 11 2026. No macro, syntax, notation, axiom, sorry.
-/
import Derived.Test.YtmbpcapjldbkbaaGreatDoorRows
import GoSem.ClaimSeven
namespace Go.Proofs.YtmbpcapjldbkbaaGreatDoor
namespace Rows

/-- THE TIED CARD OF 'ferlaw.FillAll'. -/
def fillAllCard : Claim7 := { stood := { row := fillAllRow, standIns := [], harness := (true, "58cdc53e0fd2da6dfe801d2de973b6e48c57a9810fa3e84e31020d1e02f28fe8"), looks := false }, kinds := [], alts := [], laidByText := true, laidKinds := [.data, .data, .data], laidTests := true, laidLooks := .later }
def FillAllCardSaid : Prop := Claim7.holds Tryz.pinned (.plain (OpenSpec.ofChange fillAllSpec)) fillAllCard

/-- THE TIED CARD OF 'ferlaw.HooksSays'. -/
def hooksSaysCard : Claim7 := { stood := { row := hooksSaysRow, standIns := [], harness := (true, "58cdc53e0fd2da6dfe801d2de973b6e48c57a9810fa3e84e31020d1e02f28fe8"), looks := false }, kinds := [], alts := [], laidByText := true, laidKinds := [.data, .data, .data], laidTests := true, laidLooks := .later }
def HooksSaysCardSaid : Prop := Claim7.holds Tryz.pinned (.plain (OpenSpec.ofChange hooksSaysSpec)) hooksSaysCard

/-- THE TIED CARD OF 'ferkeep.HooksSquares'. -/
def hooksSquaresCard : Claim7 := { stood := { row := hooksSquaresRow, standIns := [], harness := (true, "58cdc53e0fd2da6dfe801d2de973b6e48c57a9810fa3e84e31020d1e02f28fe8"), looks := false }, kinds := [], alts := [], laidByText := true, laidKinds := [.data, .data, .data], laidTests := true, laidLooks := .later }
def HooksSquaresCardSaid : Prop := Claim7.holds Tryz.pinned (.plain (OpenSpec.ofChange hooksSquaresSpec)) hooksSquaresCard

/-- THE SECOND FORM's CARD OF 'ferlaw.FillAll'. -/
def fillAllUptoCard : Claim7 := { stood := { row := fillAllUptoRow, standIns := [], harness := (true, "58cdc53e0fd2da6dfe801d2de973b6e48c57a9810fa3e84e31020d1e02f28fe8"), looks := false }, kinds := [], alts := [], laidByText := true, laidKinds := [.data, .data, .data], laidTests := true, laidLooks := .later }
def FillAllUptoCardSaid : Prop := Claim7.holds Tryz.pinned (.plain (OpenSpec.upto fillAllSpec)) fillAllUptoCard

/-- THE SECOND FORM's CARD OF 'ferlaw.HooksSays'. -/
def hooksSaysUptoCard : Claim7 := { stood := { row := hooksSaysUptoRow, standIns := [], harness := (true, "58cdc53e0fd2da6dfe801d2de973b6e48c57a9810fa3e84e31020d1e02f28fe8"), looks := false }, kinds := [], alts := [], laidByText := true, laidKinds := [.data, .data, .data], laidTests := true, laidLooks := .later }
def HooksSaysUptoCardSaid : Prop := Claim7.holds Tryz.pinned (.plain (OpenSpec.upto hooksSaysSpec)) hooksSaysUptoCard

/-- THE SECOND FORM's CARD OF 'ferkeep.HooksSquares'. -/
def hooksSquaresUptoCard : Claim7 := { stood := { row := hooksSquaresUptoRow, standIns := [], harness := (true, "58cdc53e0fd2da6dfe801d2de973b6e48c57a9810fa3e84e31020d1e02f28fe8"), looks := false }, kinds := [], alts := [], laidByText := true, laidKinds := [.data, .data, .data], laidTests := true, laidLooks := .later }
def HooksSquaresUptoCardSaid : Prop := Claim7.holds Tryz.pinned (.plain (OpenSpec.upto hooksSquaresSpec)) hooksSquaresUptoCard
end Rows
end Go.Proofs.YtmbpcapjldbkbaaGreatDoor
