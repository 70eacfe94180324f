/-
  DERIVED. GIVEN WITH THE SEED: THE CARDS: each row of YtfcbpablponmeaaGreatDoorRows.lean that lists a variable, with what it lists TIED to the program's text (the seventh form; the later family's looks); each row that meets fmt, with fmt's text TOLD by the authors' own Lean function (tested against real Go, not proved from fmt's source: count such statements apart). THE CARD IS WHAT COUNTS. Prove the row's statement (the work); the ties are given (YtfcbpablponmeaaGreatDoorTie.lean); close each card by the builder's one call (the guide's Derived/Test/ToyasCard.lean, 'card_holds'). Laid BY PROGRAM, IN A SANDBOX (cutbox-door.mjs). By AI agents, Wed Nov 11 2026. No macro, syntax, notation, axiom, sorry.
-/
import Derived.Test.YtfcbpablponmeaaGreatDoorRows
import GoSem.ClaimSeven
namespace Go.Proofs.YtfcbpablponmeaaGreatDoor
namespace Rows

/-- THE TIED CARD OF 'hawthornlaw11.MarkReaches'. -/
def markReachesCard : Claim7 := { stood := { row := markReachesRow, standIns := [], harness := (true, "f22f344f33236ba29b531837652668f27e1326a6b86cc7cfa8cb54e9bc79fc3d"), looks := false }, kinds := [], alts := [], laidByText := true, laidKinds := [.data, .data], laidTests := true, laidLooks := .later }
def MarkReachesCardSaid : Prop := Claim7.holds Tryz.pinned (.plain (OpenSpec.ofChange markReachesSpec)) markReachesCard

/-- THE TIED CARD OF 'hawthornlaw11.MarkColours'. -/
def markColoursCard : Claim7 := { stood := { row := markColoursRow, standIns := [], harness := (true, "f22f344f33236ba29b531837652668f27e1326a6b86cc7cfa8cb54e9bc79fc3d"), looks := false }, kinds := [], alts := [], laidByText := true, laidKinds := [.data, .data], laidTests := true, laidLooks := .later }
def MarkColoursCardSaid : Prop := Claim7.holds Tryz.pinned (.plain (OpenSpec.ofChange markColoursSpec)) markColoursCard

/-- THE TIED CARD OF 'hawthornlaw11.MarkBudgets'. -/
def markBudgetsCard : Claim7 := { stood := { row := markBudgetsRow, standIns := [], harness := (true, "f22f344f33236ba29b531837652668f27e1326a6b86cc7cfa8cb54e9bc79fc3d"), looks := false }, kinds := [], alts := [], laidByText := true, laidKinds := [.data, .data], laidTests := true, laidLooks := .later }
def MarkBudgetsCardSaid : Prop := Claim7.holds Tryz.pinned (.plain (OpenSpec.ofChange markBudgetsSpec)) markBudgetsCard

/-- THE TIED CARD OF 'hawthornlaw11.MarkAgain'. -/
def markAgainCard : Claim7 := { stood := { row := markAgainRow, standIns := [], harness := (true, "f22f344f33236ba29b531837652668f27e1326a6b86cc7cfa8cb54e9bc79fc3d"), looks := false }, kinds := [], alts := [], laidByText := true, laidKinds := [.data, .data], laidTests := true, laidLooks := .later }
def MarkAgainCardSaid : Prop := Claim7.holds Tryz.pinned (.plain (OpenSpec.ofChange markAgainSpec)) markAgainCard

/-- THE TIED CARD OF 'hawthornlaw11.MarkOrders'. -/
def markOrdersCard : Claim7 := { stood := { row := markOrdersRow, standIns := [], harness := (true, "f22f344f33236ba29b531837652668f27e1326a6b86cc7cfa8cb54e9bc79fc3d"), looks := false }, kinds := [], alts := [], laidByText := true, laidKinds := [.data, .data], laidTests := true, laidLooks := .later }
def MarkOrdersCardSaid : Prop := Claim7.holds Tryz.pinned (.plain (OpenSpec.ofChange markOrdersSpec)) markOrdersCard

/-- THE TIED CARD OF 'hawthornlaw11.MarkBlacks'. -/
def markBlacksCard : Claim7 := { stood := { row := markBlacksRow, standIns := [], harness := (true, "f22f344f33236ba29b531837652668f27e1326a6b86cc7cfa8cb54e9bc79fc3d"), looks := false }, kinds := [], alts := [], laidByText := true, laidKinds := [.data, .data], laidTests := true, laidLooks := .later }
def MarkBlacksCardSaid : Prop := Claim7.holds Tryz.pinned (.plain (OpenSpec.ofChange markBlacksSpec)) markBlacksCard

/-- THE TIED CARD OF 'hawthornlaw11.MarkTwice'. -/
def markTwiceCard : Claim7 := { stood := { row := markTwiceRow, standIns := [], harness := (true, "f22f344f33236ba29b531837652668f27e1326a6b86cc7cfa8cb54e9bc79fc3d"), looks := false }, kinds := [], alts := [], laidByText := true, laidKinds := [.data, .data], laidTests := true, laidLooks := .later }
def MarkTwiceCardSaid : Prop := Claim7.holds Tryz.pinned (.plain (OpenSpec.ofChange markTwiceSpec)) markTwiceCard

/-- THE SECOND FORM's CARD OF 'hawthornlaw11.MarkReaches'. -/
def markReachesUptoCard : Claim7 := { stood := { row := markReachesUptoRow, standIns := [], harness := (true, "f22f344f33236ba29b531837652668f27e1326a6b86cc7cfa8cb54e9bc79fc3d"), looks := false }, kinds := [], alts := [], laidByText := true, laidKinds := [.data, .data], laidTests := true, laidLooks := .later }
def MarkReachesUptoCardSaid : Prop := Claim7.holds Tryz.pinned (.plain (OpenSpec.upto markReachesSpec)) markReachesUptoCard

/-- THE SECOND FORM's CARD OF 'hawthornlaw11.MarkColours'. -/
def markColoursUptoCard : Claim7 := { stood := { row := markColoursUptoRow, standIns := [], harness := (true, "f22f344f33236ba29b531837652668f27e1326a6b86cc7cfa8cb54e9bc79fc3d"), looks := false }, kinds := [], alts := [], laidByText := true, laidKinds := [.data, .data], laidTests := true, laidLooks := .later }
def MarkColoursUptoCardSaid : Prop := Claim7.holds Tryz.pinned (.plain (OpenSpec.upto markColoursSpec)) markColoursUptoCard

/-- THE SECOND FORM's CARD OF 'hawthornlaw11.MarkBudgets'. -/
def markBudgetsUptoCard : Claim7 := { stood := { row := markBudgetsUptoRow, standIns := [], harness := (true, "f22f344f33236ba29b531837652668f27e1326a6b86cc7cfa8cb54e9bc79fc3d"), looks := false }, kinds := [], alts := [], laidByText := true, laidKinds := [.data, .data], laidTests := true, laidLooks := .later }
def MarkBudgetsUptoCardSaid : Prop := Claim7.holds Tryz.pinned (.plain (OpenSpec.upto markBudgetsSpec)) markBudgetsUptoCard

/-- THE SECOND FORM's CARD OF 'hawthornlaw11.MarkAgain'. -/
def markAgainUptoCard : Claim7 := { stood := { row := markAgainUptoRow, standIns := [], harness := (true, "f22f344f33236ba29b531837652668f27e1326a6b86cc7cfa8cb54e9bc79fc3d"), looks := false }, kinds := [], alts := [], laidByText := true, laidKinds := [.data, .data], laidTests := true, laidLooks := .later }
def MarkAgainUptoCardSaid : Prop := Claim7.holds Tryz.pinned (.plain (OpenSpec.upto markAgainSpec)) markAgainUptoCard

/-- THE SECOND FORM's CARD OF 'hawthornlaw11.MarkOrders'. -/
def markOrdersUptoCard : Claim7 := { stood := { row := markOrdersUptoRow, standIns := [], harness := (true, "f22f344f33236ba29b531837652668f27e1326a6b86cc7cfa8cb54e9bc79fc3d"), looks := false }, kinds := [], alts := [], laidByText := true, laidKinds := [.data, .data], laidTests := true, laidLooks := .later }
def MarkOrdersUptoCardSaid : Prop := Claim7.holds Tryz.pinned (.plain (OpenSpec.upto markOrdersSpec)) markOrdersUptoCard

/-- THE SECOND FORM's CARD OF 'hawthornlaw11.MarkBlacks'. -/
def markBlacksUptoCard : Claim7 := { stood := { row := markBlacksUptoRow, standIns := [], harness := (true, "f22f344f33236ba29b531837652668f27e1326a6b86cc7cfa8cb54e9bc79fc3d"), looks := false }, kinds := [], alts := [], laidByText := true, laidKinds := [.data, .data], laidTests := true, laidLooks := .later }
def MarkBlacksUptoCardSaid : Prop := Claim7.holds Tryz.pinned (.plain (OpenSpec.upto markBlacksSpec)) markBlacksUptoCard

/-- THE SECOND FORM's CARD OF 'hawthornlaw11.MarkTwice'. -/
def markTwiceUptoCard : Claim7 := { stood := { row := markTwiceUptoRow, standIns := [], harness := (true, "f22f344f33236ba29b531837652668f27e1326a6b86cc7cfa8cb54e9bc79fc3d"), looks := false }, kinds := [], alts := [], laidByText := true, laidKinds := [.data, .data], laidTests := true, laidLooks := .later }
def MarkTwiceUptoCardSaid : Prop := Claim7.holds Tryz.pinned (.plain (OpenSpec.upto markTwiceSpec)) markTwiceUptoCard
end Rows
end Go.Proofs.YtfcbpablponmeaaGreatDoor
