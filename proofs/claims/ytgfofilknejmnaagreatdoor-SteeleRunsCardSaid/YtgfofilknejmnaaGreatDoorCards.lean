/-
  DERIVED. GIVEN WITH THE SEED: THE CARDS: each row of YtgfofilknejmnaaGreatDoorRows.lean that lists a variable, with what it lists TIED to the program's text (the seventh form; the later family's looks); each row that meets fmt, with fmt's text TOLD by the authors' own Lean function (tested against real Go, not proved from fmt's source: count such statements apart). THE CARD IS WHAT COUNTS. Prove the row's statement (the work); the ties are given (YtgfofilknejmnaaGreatDoorTie.lean); close each card by the builder's one call (the guide's Derived/Test/ToyasCard.lean, 'card_holds'). Laid BY PROGRAM, IN A SANDBOX (cutbox-door.mjs). By AI agents, Wed Nov 11 2026. No macro, syntax, notation, axiom, sorry.
-/
import Derived.Test.YtgfofilknejmnaaGreatDoorRows
import GoSem.ClaimSeven
namespace Go.Proofs.YtgfofilknejmnaaGreatDoor
namespace Rows

/-- THE TIED CARD OF 'hawthornlaw12.SteeleRuns'. -/
def steeleRunsCard : Claim7 := { stood := { row := steeleRunsRow, standIns := [], harness := (true, "8112eb002ce14e03ca61332b1d5f2c438ef64156719afcca89fd8efc4809d656"), looks := false }, kinds := [], alts := [], laidByText := true, laidKinds := [.data, .data], laidTests := true, laidLooks := .later }
def SteeleRunsCardSaid : Prop := Claim7.holds Tryz.pinned (.plain (OpenSpec.ofChange steeleRunsSpec)) steeleRunsCard

/-- THE TIED CARD OF 'hawthornlaw12.SteelePages'. -/
def steelePagesCard : Claim7 := { stood := { row := steelePagesRow, standIns := [], harness := (true, "8112eb002ce14e03ca61332b1d5f2c438ef64156719afcca89fd8efc4809d656"), looks := false }, kinds := [], alts := [], laidByText := true, laidKinds := [.data, .data], laidTests := true, laidLooks := .later }
def SteelePagesCardSaid : Prop := Claim7.holds Tryz.pinned (.plain (OpenSpec.ofChange steelePagesSpec)) steelePagesCard

/-- THE TIED CARD OF 'hawthornlaw12.SteeleWhite'. -/
def steeleWhiteCard : Claim7 := { stood := { row := steeleWhiteRow, standIns := [], harness := (true, "8112eb002ce14e03ca61332b1d5f2c438ef64156719afcca89fd8efc4809d656"), looks := false }, kinds := [], alts := [], laidByText := true, laidKinds := [.data, .data], laidTests := true, laidLooks := .later }
def SteeleWhiteCardSaid : Prop := Claim7.holds Tryz.pinned (.plain (OpenSpec.ofChange steeleWhiteSpec)) steeleWhiteCard

/-- THE SECOND FORM's CARD OF 'hawthornlaw12.SteeleRuns'. -/
def steeleRunsUptoCard : Claim7 := { stood := { row := steeleRunsUptoRow, standIns := [], harness := (true, "8112eb002ce14e03ca61332b1d5f2c438ef64156719afcca89fd8efc4809d656"), looks := false }, kinds := [], alts := [], laidByText := true, laidKinds := [.data, .data], laidTests := true, laidLooks := .later }
def SteeleRunsUptoCardSaid : Prop := Claim7.holds Tryz.pinned (.plain (OpenSpec.upto steeleRunsSpec)) steeleRunsUptoCard

/-- THE SECOND FORM's CARD OF 'hawthornlaw12.SteelePages'. -/
def steelePagesUptoCard : Claim7 := { stood := { row := steelePagesUptoRow, standIns := [], harness := (true, "8112eb002ce14e03ca61332b1d5f2c438ef64156719afcca89fd8efc4809d656"), looks := false }, kinds := [], alts := [], laidByText := true, laidKinds := [.data, .data], laidTests := true, laidLooks := .later }
def SteelePagesUptoCardSaid : Prop := Claim7.holds Tryz.pinned (.plain (OpenSpec.upto steelePagesSpec)) steelePagesUptoCard

/-- THE SECOND FORM's CARD OF 'hawthornlaw12.SteeleWhite'. -/
def steeleWhiteUptoCard : Claim7 := { stood := { row := steeleWhiteUptoRow, standIns := [], harness := (true, "8112eb002ce14e03ca61332b1d5f2c438ef64156719afcca89fd8efc4809d656"), looks := false }, kinds := [], alts := [], laidByText := true, laidKinds := [.data, .data], laidTests := true, laidLooks := .later }
def SteeleWhiteUptoCardSaid : Prop := Claim7.holds Tryz.pinned (.plain (OpenSpec.upto steeleWhiteSpec)) steeleWhiteUptoCard
end Rows
end Go.Proofs.YtgfofilknejmnaaGreatDoor
