/-
  DERIVED. GIVEN WITH THE SEED: THE CARDS: each row of YtlghldfolfmoeaaDoorRows.lean that lists a variable, with what it lists TIED to the program's text (the seventh form; the later family's looks); each row that meets fmt, with fmt's text TOLD by the authors' own Lean function (tested against real Go, not proved from fmt's source: count such statements apart). THE CARD IS WHAT COUNTS. Prove the row's statement (the work); the ties are given (YtlghldfolfmoeaaDoorTie.lean); close each card by the builder's one call (the guide's Derived/Test/ToyasCard.lean, 'card_holds'). Laid BY PROGRAM, IN A SANDBOX (cutbox-door.mjs). By AI agents, Wed Nov 11 2026. No macro, syntax, notation, axiom, sorry.
-/
import Derived.Test.YtlghldfolfmoeaaDoorRows
import GoSem.ClaimSeven
namespace Go.Proofs.YtlghldfolfmoeaaDoor
namespace Rows

/-- THE TIED CARD OF 'ferlaw.ParkingSays'. -/
def parkingSaysCard : Claim7 := { stood := { row := parkingSaysRow, standIns := [], harness := (true, "dc7fb9f5615138d4ec265eae53d7a670a77335f5ac33dae17d9a161ed0f49a8e"), looks := false }, kinds := [], alts := [], laidByText := true, laidKinds := [.data, .data, .data], laidTests := true, laidLooks := .later }
def ParkingSaysCardSaid : Prop := Claim7.holds Tryd.pinned (.plain (OpenSpec.ofChange parkingSaysSpec)) parkingSaysCard

/-- THE SECOND FORM's CARD OF 'ferlaw.ParkingSays'. -/
def parkingSaysUptoCard : Claim7 := { stood := { row := parkingSaysUptoRow, standIns := [], harness := (true, "dc7fb9f5615138d4ec265eae53d7a670a77335f5ac33dae17d9a161ed0f49a8e"), looks := false }, kinds := [], alts := [], laidByText := true, laidKinds := [.data, .data, .data], laidTests := true, laidLooks := .later }
def ParkingSaysUptoCardSaid : Prop := Claim7.holds Tryd.pinned (.plain (OpenSpec.upto parkingSaysSpec)) parkingSaysUptoCard
end Rows
end Go.Proofs.YtlghldfolfmoeaaDoor
