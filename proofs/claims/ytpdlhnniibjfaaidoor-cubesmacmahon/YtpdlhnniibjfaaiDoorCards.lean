/-
  DERIVED. GIVEN WITH THE SEED: THE CARDS: each row of YtpdlhnniibjfaaiDoorRows.lean that lists a variable, with what it lists TIED to the program's text (the seventh form; the later family's looks); each row that meets fmt, with fmt's text TOLD by the authors' own Lean function (tested against real Go, not proved from fmt's source: count such statements apart). THE CARD IS WHAT COUNTS. Prove the row's statement (the work); the ties are given (YtpdlhnniibjfaaiDoorTie.lean); close each card by the builder's one call (the guide's Derived/Test/ToyasCard.lean, 'card_holds'). Laid BY PROGRAM, IN A SANDBOX (cutbox-door.mjs). By AI agents, Wed Nov 11 2026. No macro, syntax, notation, axiom, sorry.
-/
import Derived.Test.YtpdlhnniibjfaaiDoorRows
import GoSem.ClaimSeven
namespace Go.Proofs.YtpdlhnniibjfaaiDoor
namespace Rows

/-- THE TIED CARD OF 'ferlaw.CubesPaths'. -/
def cubesPathsCard : Claim7 := { stood := { row := cubesPathsRow, standIns := [], harness := (true, "09ce859ecb07d72f652a9676a156172c94a2823234959a096344c169c0c8055e"), looks := false }, kinds := [], alts := [], laidByText := true, laidKinds := [.data, .pinned], laidTests := true, laidLooks := .later }
def CubesPathsCardSaid : Prop := Claim7.holds Tryd.pinned (.plain (OpenSpec.ofChange cubesPathsSpec)) cubesPathsCard

/-- THE TIED CARD OF 'ferkeep.CubesMacmahon'. -/
def cubesMacmahonCard : Claim7 := { stood := { row := cubesMacmahonRow, standIns := [], harness := (true, "09ce859ecb07d72f652a9676a156172c94a2823234959a096344c169c0c8055e"), looks := false }, kinds := [], alts := [], laidByText := true, laidKinds := [.data, .data, .data], laidTests := true, laidLooks := .later }
def CubesMacmahonCardSaid : Prop := Claim7.holds Tryd.pinned (.plain (OpenSpec.ofChange cubesMacmahonSpec)) cubesMacmahonCard

/-- THE SECOND FORM's CARD OF 'ferlaw.CubesPaths'. -/
def cubesPathsUptoCard : Claim7 := { stood := { row := cubesPathsUptoRow, standIns := [], harness := (true, "09ce859ecb07d72f652a9676a156172c94a2823234959a096344c169c0c8055e"), looks := false }, kinds := [], alts := [], laidByText := true, laidKinds := [.data, .pinned], laidTests := true, laidLooks := .later }
def CubesPathsUptoCardSaid : Prop := Claim7.holds Tryd.pinned (.plain (OpenSpec.upto cubesPathsSpec)) cubesPathsUptoCard

/-- THE SECOND FORM's CARD OF 'ferkeep.CubesMacmahon'. -/
def cubesMacmahonUptoCard : Claim7 := { stood := { row := cubesMacmahonUptoRow, standIns := [], harness := (true, "09ce859ecb07d72f652a9676a156172c94a2823234959a096344c169c0c8055e"), looks := false }, kinds := [], alts := [], laidByText := true, laidKinds := [.data, .data, .data], laidTests := true, laidLooks := .later }
def CubesMacmahonUptoCardSaid : Prop := Claim7.holds Tryd.pinned (.plain (OpenSpec.upto cubesMacmahonSpec)) cubesMacmahonUptoCard
end Rows
end Go.Proofs.YtpdlhnniibjfaaiDoor
