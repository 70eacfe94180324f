/-
  DERIVED. GIVEN WITH THE SEED: THE CARDS: each row of YtfipflghnhfcjaaDoorRows.lean that lists a variable, with what it lists TIED to the program's text (the seventh form; the later family's looks); each row that meets fmt, with fmt's text TOLD by the authors' own Lean function (tested against real Go, not proved from fmt's source: count such statements apart). THE CARD IS WHAT COUNTS. Prove the row's statement (the work); the ties are given (YtfipflghnhfcjaaDoorTie.lean); close each card by the builder's one call (the guide's Derived/Test/ToyasCard.lean, 'card_holds'). Laid BY PROGRAM, IN A SANDBOX (cutbox-door.mjs). By AI agents, Wed Nov 11 2026. No macro, syntax, notation, axiom, sorry.
-/
import Derived.Test.YtfipflghnhfcjaaDoorRows
import GoSem.ClaimSeven
namespace Go.Proofs.YtfipflghnhfcjaaDoor
namespace Rows

/-- THE TIED CARD OF 'hawthornlaw03.ArenaRuns'. -/
def arenaRunsCard : Claim7 := { stood := { row := arenaRunsRow, standIns := [], harness := (true, "b7636a9d80a783c189831eebaacbecda574f448fbc6bce6fe455eac8bdacf68d"), looks := false }, kinds := [], alts := [], laidByText := true, laidKinds := [.data, .data], laidTests := true, laidLooks := .later }
def ArenaRunsCardSaid : Prop := Claim7.holds Tryd.pinned (.plain (OpenSpec.ofChange arenaRunsSpec)) arenaRunsCard

/-- THE TIED CARD OF 'hawthornlaw04.CellRuns'. -/
def cellRunsCard : Claim7 := { stood := { row := cellRunsRow, standIns := [], harness := (true, "b7636a9d80a783c189831eebaacbecda574f448fbc6bce6fe455eac8bdacf68d"), looks := false }, kinds := [], alts := [], laidByText := true, laidKinds := [.data], laidTests := true, laidLooks := .later }
def CellRunsCardSaid : Prop := Claim7.holds Tryd.pinned (.plain (OpenSpec.ofChange cellRunsSpec)) cellRunsCard

/-- THE TIED CARD OF 'hawthornlaw04.CellPoints'. -/
def cellPointsCard : Claim7 := { stood := { row := cellPointsRow, standIns := [], harness := (true, "b7636a9d80a783c189831eebaacbecda574f448fbc6bce6fe455eac8bdacf68d"), looks := false }, kinds := [], alts := [], laidByText := true, laidKinds := [.data], laidTests := true, laidLooks := .later }
def CellPointsCardSaid : Prop := Claim7.holds Tryd.pinned (.plain (OpenSpec.ofChange cellPointsSpec)) cellPointsCard

/-- THE TIED CARD OF 'hawthornlaw05.CardTakes'. -/
def cardTakesCard : Claim7 := { stood := { row := cardTakesRow, standIns := [], harness := (true, "b7636a9d80a783c189831eebaacbecda574f448fbc6bce6fe455eac8bdacf68d"), looks := false }, kinds := [], alts := [], laidByText := true, laidKinds := [.data], laidTests := true, laidLooks := .later }
def CardTakesCardSaid : Prop := Claim7.holds Tryd.pinned (.plain (OpenSpec.ofChange cardTakesSpec)) cardTakesCard

/-- THE TIED CARD OF 'hawthornlaw05.CardAgain'. -/
def cardAgainCard : Claim7 := { stood := { row := cardAgainRow, standIns := [], harness := (true, "b7636a9d80a783c189831eebaacbecda574f448fbc6bce6fe455eac8bdacf68d"), looks := false }, kinds := [], alts := [], laidByText := true, laidKinds := [.data], laidTests := true, laidLooks := .later }
def CardAgainCardSaid : Prop := Claim7.holds Tryd.pinned (.plain (OpenSpec.ofChange cardAgainSpec)) cardAgainCard

/-- THE TIED CARD OF 'hawthornlaw05.CardApart'. -/
def cardApartCard : Claim7 := { stood := { row := cardApartRow, standIns := [], harness := (true, "b7636a9d80a783c189831eebaacbecda574f448fbc6bce6fe455eac8bdacf68d"), looks := false }, kinds := [], alts := [], laidByText := true, laidKinds := [.data], laidTests := true, laidLooks := .later }
def CardApartCardSaid : Prop := Claim7.holds Tryd.pinned (.plain (OpenSpec.ofChange cardApartSpec)) cardApartCard

/-- THE SECOND FORM's CARD OF 'hawthornlaw03.ArenaRuns'. -/
def arenaRunsUptoCard : Claim7 := { stood := { row := arenaRunsUptoRow, standIns := [], harness := (true, "b7636a9d80a783c189831eebaacbecda574f448fbc6bce6fe455eac8bdacf68d"), looks := false }, kinds := [], alts := [], laidByText := true, laidKinds := [.data, .data], laidTests := true, laidLooks := .later }
def ArenaRunsUptoCardSaid : Prop := Claim7.holds Tryd.pinned (.plain (OpenSpec.upto arenaRunsSpec)) arenaRunsUptoCard

/-- THE SECOND FORM's CARD OF 'hawthornlaw04.CellRuns'. -/
def cellRunsUptoCard : Claim7 := { stood := { row := cellRunsUptoRow, standIns := [], harness := (true, "b7636a9d80a783c189831eebaacbecda574f448fbc6bce6fe455eac8bdacf68d"), looks := false }, kinds := [], alts := [], laidByText := true, laidKinds := [.data], laidTests := true, laidLooks := .later }
def CellRunsUptoCardSaid : Prop := Claim7.holds Tryd.pinned (.plain (OpenSpec.upto cellRunsSpec)) cellRunsUptoCard

/-- THE SECOND FORM's CARD OF 'hawthornlaw04.CellPoints'. -/
def cellPointsUptoCard : Claim7 := { stood := { row := cellPointsUptoRow, standIns := [], harness := (true, "b7636a9d80a783c189831eebaacbecda574f448fbc6bce6fe455eac8bdacf68d"), looks := false }, kinds := [], alts := [], laidByText := true, laidKinds := [.data], laidTests := true, laidLooks := .later }
def CellPointsUptoCardSaid : Prop := Claim7.holds Tryd.pinned (.plain (OpenSpec.upto cellPointsSpec)) cellPointsUptoCard

/-- THE SECOND FORM's CARD OF 'hawthornlaw05.CardTakes'. -/
def cardTakesUptoCard : Claim7 := { stood := { row := cardTakesUptoRow, standIns := [], harness := (true, "b7636a9d80a783c189831eebaacbecda574f448fbc6bce6fe455eac8bdacf68d"), looks := false }, kinds := [], alts := [], laidByText := true, laidKinds := [.data], laidTests := true, laidLooks := .later }
def CardTakesUptoCardSaid : Prop := Claim7.holds Tryd.pinned (.plain (OpenSpec.upto cardTakesSpec)) cardTakesUptoCard

/-- THE SECOND FORM's CARD OF 'hawthornlaw05.CardAgain'. -/
def cardAgainUptoCard : Claim7 := { stood := { row := cardAgainUptoRow, standIns := [], harness := (true, "b7636a9d80a783c189831eebaacbecda574f448fbc6bce6fe455eac8bdacf68d"), looks := false }, kinds := [], alts := [], laidByText := true, laidKinds := [.data], laidTests := true, laidLooks := .later }
def CardAgainUptoCardSaid : Prop := Claim7.holds Tryd.pinned (.plain (OpenSpec.upto cardAgainSpec)) cardAgainUptoCard

/-- THE SECOND FORM's CARD OF 'hawthornlaw05.CardApart'. -/
def cardApartUptoCard : Claim7 := { stood := { row := cardApartUptoRow, standIns := [], harness := (true, "b7636a9d80a783c189831eebaacbecda574f448fbc6bce6fe455eac8bdacf68d"), looks := false }, kinds := [], alts := [], laidByText := true, laidKinds := [.data], laidTests := true, laidLooks := .later }
def CardApartUptoCardSaid : Prop := Claim7.holds Tryd.pinned (.plain (OpenSpec.upto cardApartSpec)) cardApartUptoCard
end Rows
end Go.Proofs.YtfipflghnhfcjaaDoor
