/-
  DERIVED. GIVEN WITH THE SEED: THE CARDS: each row of YthpkjnfmkinepaaDoorRows.lean that lists a variable, with what it lists TIED to the program's text (the seventh form; the later family's looks); each row that meets fmt, with fmt's text TOLD by the authors' own Lean function (tested against real Go, not proved from fmt's source: count such statements apart). THE CARD IS WHAT COUNTS. Prove the row's statement (the work); the ties are given (YthpkjnfmkinepaaDoorTie.lean); close each card by the builder's one call (the guide's Derived/Test/ToyasCard.lean, 'card_holds'). Laid BY PROGRAM, IN A SANDBOX (cutbox-door.mjs). By AI agents, Wed Nov 11 2026. No macro, syntax, notation, axiom, sorry.
-/
import Derived.Test.YthpkjnfmkinepaaDoorRows
import GoSem.ClaimSeven
namespace Go.Proofs.YthpkjnfmkinepaaDoor
namespace Rows

/-- THE TIED CARD OF 'ferlaw.PartsCounts'. -/
def partsCountsCard : Claim7 := { stood := { row := partsCountsRow, standIns := [], harness := (true, "43a35573b2006cf2aee293b41bdd3c84e320b1be634201f0279e216fc1ae2f73"), looks := false }, kinds := [], alts := [], laidByText := true, laidKinds := [.data, .data, .data], laidTests := true, laidLooks := .later }
def PartsCountsCardSaid : Prop := Claim7.holds Tryd.pinned (.plain (OpenSpec.ofChange partsCountsSpec)) partsCountsCard

/-- THE SECOND FORM's CARD OF 'ferlaw.PartsCounts'. -/
def partsCountsUptoCard : Claim7 := { stood := { row := partsCountsUptoRow, standIns := [], harness := (true, "43a35573b2006cf2aee293b41bdd3c84e320b1be634201f0279e216fc1ae2f73"), looks := false }, kinds := [], alts := [], laidByText := true, laidKinds := [.data, .data, .data], laidTests := true, laidLooks := .later }
def PartsCountsUptoCardSaid : Prop := Claim7.holds Tryd.pinned (.plain (OpenSpec.upto partsCountsSpec)) partsCountsUptoCard
end Rows
end Go.Proofs.YthpkjnfmkinepaaDoor
