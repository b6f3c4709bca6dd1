/-
  DERIVED. GIVEN WITH THE SEED: THE CARDS: each row of YtjifcgphlidimaaDoorRows.lean that lists a variable, with what it lists TIED to the program's text (the seventh form; the later family's looks); each row that meets fmt, with fmt's text TOLD by the authors' own Lean function (tested against real Go, not proved from fmt's source: count such statements apart). THE CARD IS WHAT COUNTS. Prove the row's statement (the work); the ties are given (YtjifcgphlidimaaDoorTie.lean); close each card by the builder's one call (the guide's Derived/Test/ToyasCard.lean, 'card_holds'). Laid BY PROGRAM, IN A SANDBOX (cutbox-door.mjs). By AI agents, Wed Nov 11 2026. No macro, syntax, notation, axiom, sorry.
-/
import Derived.Test.YtjifcgphlidimaaDoorRows
import GoSem.ClaimSeven
namespace Go.Proofs.YtjifcgphlidimaaDoor
namespace Rows

/-- THE TIED CARD OF 'lysimeterlaw17.ManifestPacks'. -/
def manifestPacksCard : Claim7 := { stood := { row := manifestPacksRow, standIns := [], harness := (true, "98e9da1ade7d30ba01e8e7c9bf88aba7228b3c7dc5c1b829fe141d71e3d5c79c"), looks := true }, kinds := [], alts := [], laidByText := true, laidKinds := [.data], laidTests := true, laidLooks := .later }
def ManifestPacksCardSaid : Prop := Claim7.holds Tryd.pinned (.plain (OpenSpec.ofChange manifestPacksSpec)) manifestPacksCard

/-- THE TIED CARD OF 'lysimeterlaw17.ManifestReads'. -/
def manifestReadsCard : Claim7 := { stood := { row := manifestReadsRow, standIns := [], harness := (true, "98e9da1ade7d30ba01e8e7c9bf88aba7228b3c7dc5c1b829fe141d71e3d5c79c"), looks := true }, kinds := [], alts := [], laidByText := true, laidKinds := [.data], laidTests := true, laidLooks := .later }
def ManifestReadsCardSaid : Prop := Claim7.holds Tryd.pinned (.plain (OpenSpec.ofChange manifestReadsSpec)) manifestReadsCard

/-- THE SECOND FORM's CARD OF 'lysimeterlaw17.ManifestPacks'. -/
def manifestPacksUptoCard : Claim7 := { stood := { row := manifestPacksUptoRow, standIns := [], harness := (true, "98e9da1ade7d30ba01e8e7c9bf88aba7228b3c7dc5c1b829fe141d71e3d5c79c"), looks := true }, kinds := [], alts := [], laidByText := true, laidKinds := [.data], laidTests := true, laidLooks := .later }
def ManifestPacksUptoCardSaid : Prop := Claim7.holds Tryd.pinned (.plain (OpenSpec.upto manifestPacksSpec)) manifestPacksUptoCard

/-- THE SECOND FORM's CARD OF 'lysimeterlaw17.ManifestReads'. -/
def manifestReadsUptoCard : Claim7 := { stood := { row := manifestReadsUptoRow, standIns := [], harness := (true, "98e9da1ade7d30ba01e8e7c9bf88aba7228b3c7dc5c1b829fe141d71e3d5c79c"), looks := true }, kinds := [], alts := [], laidByText := true, laidKinds := [.data], laidTests := true, laidLooks := .later }
def ManifestReadsUptoCardSaid : Prop := Claim7.holds Tryd.pinned (.plain (OpenSpec.upto manifestReadsSpec)) manifestReadsUptoCard
end Rows
end Go.Proofs.YtjifcgphlidimaaDoor
