/-
  DERIVED. GIVEN WITH THE SEED: THE CARDS: each row of YtllfanlhgnkcfaaGreatDoorRows.lean that lists a variable, with what it lists TIED to the program's text (the seventh form; the later family's looks); each row that meets fmt, with fmt's text TOLD by the authors' own Lean function (tested against real Go, not proved from fmt's source: count such statements apart). THE CARD IS WHAT COUNTS. Prove the row's statement (the work); the ties are given (YtllfanlhgnkcfaaGreatDoorTie.lean); close each card by the builder's one call (the guide's Derived/Test/ToyasCard.lean, 'card_holds'). Laid BY PROGRAM, IN A SANDBOX (cutbox-door.mjs). By AI agents, Wed Nov 11 2026. No macro, syntax, notation, axiom, sorry.
-/
import Derived.Test.YtllfanlhgnkcfaaGreatDoorRows
import GoSem.ClaimSeven
namespace Go.Proofs.YtllfanlhgnkcfaaGreatDoor
namespace Rows

/-- THE TIED CARD OF 'lysimeterlaw16.BlockPacks'. -/
def blockPacksCard : Claim7 := { stood := { row := blockPacksRow, standIns := [], harness := (true, "2811b5fe764070583381a6f5f996dc171bde12a40e8a1f19ee14aee627f0d061"), looks := true }, kinds := [], alts := [], laidByText := true, laidKinds := [.handle, .data], laidTests := true, laidLooks := .later }
def BlockPacksCardSaid : Prop := Claim7.holds Tryz.pinned (.plain (OpenSpec.ofChange blockPacksSpec)) blockPacksCard

/-- THE SECOND FORM's CARD OF 'lysimeterlaw16.BlockPacks'. -/
def blockPacksUptoCard : Claim7 := { stood := { row := blockPacksUptoRow, standIns := [], harness := (true, "2811b5fe764070583381a6f5f996dc171bde12a40e8a1f19ee14aee627f0d061"), looks := true }, kinds := [], alts := [], laidByText := true, laidKinds := [.handle, .data], laidTests := true, laidLooks := .later }
def BlockPacksUptoCardSaid : Prop := Claim7.holds Tryz.pinned (.plain (OpenSpec.upto blockPacksSpec)) blockPacksUptoCard
end Rows
end Go.Proofs.YtllfanlhgnkcfaaGreatDoor
