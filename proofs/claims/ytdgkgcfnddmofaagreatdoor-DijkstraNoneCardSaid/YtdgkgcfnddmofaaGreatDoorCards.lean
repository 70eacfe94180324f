/-
  DERIVED. GIVEN WITH THE SEED: THE CARDS: each row of YtdgkgcfnddmofaaGreatDoorRows.lean that lists a variable, with what it lists TIED to the program's text (the seventh form; the later family's looks); each row that meets fmt, with fmt's text TOLD by the authors' own Lean function (tested against real Go, not proved from fmt's source: count such statements apart). THE CARD IS WHAT COUNTS. Prove the row's statement (the work); the ties are given (YtdgkgcfnddmofaaGreatDoorTie.lean); close each card by the builder's one call (the guide's Derived/Test/ToyasCard.lean, 'card_holds'). Laid BY PROGRAM, IN A SANDBOX (cutbox-door.mjs). By AI agents, Wed Nov 11 2026. No macro, syntax, notation, axiom, sorry.
-/
import Derived.Test.YtdgkgcfnddmofaaGreatDoorRows
import GoSem.ClaimSeven
namespace Go.Proofs.YtdgkgcfnddmofaaGreatDoor
namespace Rows

/-- THE TIED CARD OF 'hawthornlaw13.DijkstraRuns'. -/
def dijkstraRunsCard : Claim7 := { stood := { row := dijkstraRunsRow, standIns := [], harness := (true, "1bd4ffb70c444f9b761891f5a7e3797001a671c571966af9de25e20ac571325c"), looks := false }, kinds := [], alts := [], laidByText := true, laidKinds := [.data], laidTests := true, laidLooks := .later }
def DijkstraRunsCardSaid : Prop := Claim7.holds Tryz.pinned (.plain (OpenSpec.ofChange dijkstraRunsSpec)) dijkstraRunsCard

/-- THE TIED CARD OF 'hawthornlaw13.DijkstraKeeps'. -/
def dijkstraKeepsCard : Claim7 := { stood := { row := dijkstraKeepsRow, standIns := [], harness := (true, "1bd4ffb70c444f9b761891f5a7e3797001a671c571966af9de25e20ac571325c"), looks := false }, kinds := [], alts := [], laidByText := true, laidKinds := [.data, .data], laidTests := true, laidLooks := .later }
def DijkstraKeepsCardSaid : Prop := Claim7.holds Tryz.pinned (.plain (OpenSpec.ofChange dijkstraKeepsSpec)) dijkstraKeepsCard

/-- THE TIED CARD OF 'hawthornlaw13.DijkstraNone'. -/
def dijkstraNoneCard : Claim7 := { stood := { row := dijkstraNoneRow, standIns := [], harness := (true, "1bd4ffb70c444f9b761891f5a7e3797001a671c571966af9de25e20ac571325c"), looks := false }, kinds := [], alts := [], laidByText := true, laidKinds := [.data, .data], laidTests := true, laidLooks := .later }
def DijkstraNoneCardSaid : Prop := Claim7.holds Tryz.pinned (.plain (OpenSpec.ofChange dijkstraNoneSpec)) dijkstraNoneCard

/-- THE SECOND FORM's CARD OF 'hawthornlaw13.DijkstraRuns'. -/
def dijkstraRunsUptoCard : Claim7 := { stood := { row := dijkstraRunsUptoRow, standIns := [], harness := (true, "1bd4ffb70c444f9b761891f5a7e3797001a671c571966af9de25e20ac571325c"), looks := false }, kinds := [], alts := [], laidByText := true, laidKinds := [.data], laidTests := true, laidLooks := .later }
def DijkstraRunsUptoCardSaid : Prop := Claim7.holds Tryz.pinned (.plain (OpenSpec.upto dijkstraRunsSpec)) dijkstraRunsUptoCard

/-- THE SECOND FORM's CARD OF 'hawthornlaw13.DijkstraKeeps'. -/
def dijkstraKeepsUptoCard : Claim7 := { stood := { row := dijkstraKeepsUptoRow, standIns := [], harness := (true, "1bd4ffb70c444f9b761891f5a7e3797001a671c571966af9de25e20ac571325c"), looks := false }, kinds := [], alts := [], laidByText := true, laidKinds := [.data, .data], laidTests := true, laidLooks := .later }
def DijkstraKeepsUptoCardSaid : Prop := Claim7.holds Tryz.pinned (.plain (OpenSpec.upto dijkstraKeepsSpec)) dijkstraKeepsUptoCard

/-- THE SECOND FORM's CARD OF 'hawthornlaw13.DijkstraNone'. -/
def dijkstraNoneUptoCard : Claim7 := { stood := { row := dijkstraNoneUptoRow, standIns := [], harness := (true, "1bd4ffb70c444f9b761891f5a7e3797001a671c571966af9de25e20ac571325c"), looks := false }, kinds := [], alts := [], laidByText := true, laidKinds := [.data, .data], laidTests := true, laidLooks := .later }
def DijkstraNoneUptoCardSaid : Prop := Claim7.holds Tryz.pinned (.plain (OpenSpec.upto dijkstraNoneSpec)) dijkstraNoneUptoCard
end Rows
end Go.Proofs.YtdgkgcfnddmofaaGreatDoor
