/-
  DERIVED. GIVEN WITH THE SEED: THE CARDS: each row of YtcpgamhekelamabDoorRows.lean that lists a variable, with what it lists TIED to the program's text (the seventh form; the later family's looks); each row that meets fmt, with fmt's text TOLD by the authors' own Lean function (tested against real Go, not proved from fmt's source: count such statements apart). THE CARD IS WHAT COUNTS. Prove the row's statement (the work); the ties are given (YtcpgamhekelamabDoorTie.lean); close each card by the builder's one call (the guide's Derived/Test/ToyasCard.lean, 'card_holds'). Laid BY PROGRAM, IN A SANDBOX (cutbox-door.mjs). By AI agents, Wed Nov 11 2026. No macro, syntax, notation, axiom, sorry.
-/
import Derived.Test.YtcpgamhekelamabDoorRows
import GoSem.ClaimSeven
namespace Go.Proofs.YtcpgamhekelamabDoor
namespace Rows

/-- THE TIED CARD OF 'lysimeterlaw2.FloatsWhole'. -/
def floatsWholeCard : Claim7 := { stood := { row := floatsWholeRow, standIns := [], harness := (true, "5deaa535e5a13910afa1ed71b121cfe0612d2999d1b82bf38d0acee698fb1ec7"), looks := false }, kinds := [], alts := [], laidByText := true, laidKinds := [.data, .data, .data], laidTests := true, laidLooks := .later }
def FloatsWholeCardSaid : Prop := Claim7.holds Tryd.pinned (.plain (OpenSpec.ofChange floatsWholeSpec)) floatsWholeCard

/-- THE TIED CARD OF 'lysimeterlaw2.FloatsOrder'. -/
def floatsOrderCard : Claim7 := { stood := { row := floatsOrderRow, standIns := [], harness := (true, "5deaa535e5a13910afa1ed71b121cfe0612d2999d1b82bf38d0acee698fb1ec7"), looks := false }, kinds := [], alts := [], laidByText := true, laidKinds := [.data, .data, .data], laidTests := true, laidLooks := .later }
def FloatsOrderCardSaid : Prop := Claim7.holds Tryd.pinned (.plain (OpenSpec.ofChange floatsOrderSpec)) floatsOrderCard

/-- THE TIED CARD OF 'lysimeterlaw2.FloatsDigits'. -/
def floatsDigitsCard : Claim7 := { stood := { row := floatsDigitsRow, standIns := [], harness := (true, "5deaa535e5a13910afa1ed71b121cfe0612d2999d1b82bf38d0acee698fb1ec7"), looks := false }, kinds := [], alts := [], laidByText := true, laidKinds := [.data, .data, .data], laidTests := true, laidLooks := .later }
def FloatsDigitsCardSaid : Prop := Claim7.holds Tryd.pinned (.plain (OpenSpec.ofChange floatsDigitsSpec)) floatsDigitsCard

/-- THE SECOND FORM's CARD OF 'lysimeterlaw2.FloatsWhole'. -/
def floatsWholeUptoCard : Claim7 := { stood := { row := floatsWholeUptoRow, standIns := [], harness := (true, "5deaa535e5a13910afa1ed71b121cfe0612d2999d1b82bf38d0acee698fb1ec7"), looks := false }, kinds := [], alts := [], laidByText := true, laidKinds := [.data, .data, .data], laidTests := true, laidLooks := .later }
def FloatsWholeUptoCardSaid : Prop := Claim7.holds Tryd.pinned (.plain (OpenSpec.upto floatsWholeSpec)) floatsWholeUptoCard

/-- THE SECOND FORM's CARD OF 'lysimeterlaw2.FloatsOrder'. -/
def floatsOrderUptoCard : Claim7 := { stood := { row := floatsOrderUptoRow, standIns := [], harness := (true, "5deaa535e5a13910afa1ed71b121cfe0612d2999d1b82bf38d0acee698fb1ec7"), looks := false }, kinds := [], alts := [], laidByText := true, laidKinds := [.data, .data, .data], laidTests := true, laidLooks := .later }
def FloatsOrderUptoCardSaid : Prop := Claim7.holds Tryd.pinned (.plain (OpenSpec.upto floatsOrderSpec)) floatsOrderUptoCard

/-- THE SECOND FORM's CARD OF 'lysimeterlaw2.FloatsDigits'. -/
def floatsDigitsUptoCard : Claim7 := { stood := { row := floatsDigitsUptoRow, standIns := [], harness := (true, "5deaa535e5a13910afa1ed71b121cfe0612d2999d1b82bf38d0acee698fb1ec7"), looks := false }, kinds := [], alts := [], laidByText := true, laidKinds := [.data, .data, .data], laidTests := true, laidLooks := .later }
def FloatsDigitsUptoCardSaid : Prop := Claim7.holds Tryd.pinned (.plain (OpenSpec.upto floatsDigitsSpec)) floatsDigitsUptoCard
end Rows
end Go.Proofs.YtcpgamhekelamabDoor
