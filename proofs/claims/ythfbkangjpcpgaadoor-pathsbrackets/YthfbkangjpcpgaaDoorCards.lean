/-
  DERIVED. GIVEN WITH THE SEED: THE CARDS: each row of YthfbkangjpcpgaaDoorRows.lean that lists a variable, with what it lists TIED to the program's text (the seventh form; the later family's looks); each row that meets fmt, with fmt's text TOLD by the authors' own Lean function (tested against real Go, not proved from fmt's source: count such statements apart). THE CARD IS WHAT COUNTS. Prove the row's statement (the work); the ties are given (YthfbkangjpcpgaaDoorTie.lean); close each card by the builder's one call (the guide's Derived/Test/ToyasCard.lean, 'card_holds'). Laid BY PROGRAM, IN A SANDBOX (cutbox-door.mjs). By AI agents, Wed Nov 11 2026. No macro, syntax, notation, axiom, sorry.
-/
import Derived.Test.YthfbkangjpcpgaaDoorRows
import GoSem.ClaimSeven
namespace Go.Proofs.YthfbkangjpcpgaaDoor
namespace Rows

/-- THE TIED CARD OF 'ferlaw.PathsBrackets'. -/
def pathsBracketsCard : Claim7 := { stood := { row := pathsBracketsRow, standIns := [], harness := (true, "c7c83ff43e4ee302813cf916c228d5c71a3e05f97cc3ce52134f9d57f1ce1668"), looks := false }, kinds := [], alts := [], laidByText := true, laidKinds := [.data, .pinned], laidTests := true, laidLooks := .later }
def PathsBracketsCardSaid : Prop := Claim7.holds Tryd.pinned (.plain (OpenSpec.ofChange pathsBracketsSpec)) pathsBracketsCard

/-- THE SECOND FORM's CARD OF 'ferlaw.PathsBrackets'. -/
def pathsBracketsUptoCard : Claim7 := { stood := { row := pathsBracketsUptoRow, standIns := [], harness := (true, "c7c83ff43e4ee302813cf916c228d5c71a3e05f97cc3ce52134f9d57f1ce1668"), looks := false }, kinds := [], alts := [], laidByText := true, laidKinds := [.data, .pinned], laidTests := true, laidLooks := .later }
def PathsBracketsUptoCardSaid : Prop := Claim7.holds Tryd.pinned (.plain (OpenSpec.upto pathsBracketsSpec)) pathsBracketsUptoCard
end Rows
end Go.Proofs.YthfbkangjpcpgaaDoor
