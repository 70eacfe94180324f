/-
  DERIVED. GIVEN WITH THE SEED: THE CARDS: each row of YtoemfehlnnbjdaaDoorRows.lean that lists a variable, with what it lists TIED to the program's text (the seventh form; the later family's looks); each row that meets fmt, with fmt's text TOLD by the authors' own Lean function (tested against real Go, not proved from fmt's source: count such statements apart). THE CARD IS WHAT COUNTS. Prove the row's statement (the work); the ties are given (YtoemfehlnnbjdaaDoorTie.lean); close each card by the builder's one call (the guide's Derived/Test/ToyasCard.lean, 'card_holds'). Laid BY PROGRAM, IN A SANDBOX (cutbox-door.mjs). By AI agents, Wed Nov 11 2026. No macro, syntax, notation, axiom, sorry.
-/
import Derived.Test.YtoemfehlnnbjdaaDoorRows
import GoSem.ClaimSeven
namespace Go.Proofs.YtoemfehlnnbjdaaDoor
namespace Rows

/-- THE TIED CARD OF 'hawthornlaw04.CellRuns'. -/
def cellRunsCard : Claim7 := { stood := { row := cellRunsRow, standIns := [], harness := (true, "85ed9b0d6a8a1b273fcd04dafe3060fb5e167cdeb63515309c7843923074c570"), looks := false }, kinds := [], alts := [], laidByText := true, laidKinds := [.data], laidTests := true, laidLooks := .later }
def CellRunsCardSaid : Prop := Claim7.holds Tryd.pinned (.plain (OpenSpec.ofChange cellRunsSpec)) cellRunsCard

/-- THE TIED CARD OF 'hawthornlaw04.CellPoints'. -/
def cellPointsCard : Claim7 := { stood := { row := cellPointsRow, standIns := [], harness := (true, "85ed9b0d6a8a1b273fcd04dafe3060fb5e167cdeb63515309c7843923074c570"), looks := false }, kinds := [], alts := [], laidByText := true, laidKinds := [.data], laidTests := true, laidLooks := .later }
def CellPointsCardSaid : Prop := Claim7.holds Tryd.pinned (.plain (OpenSpec.ofChange cellPointsSpec)) cellPointsCard

/-- THE TIED CARD OF 'hawthornlaw05.CardTakes'. -/
def cardTakesCard : Claim7 := { stood := { row := cardTakesRow, standIns := [], harness := (true, "85ed9b0d6a8a1b273fcd04dafe3060fb5e167cdeb63515309c7843923074c570"), looks := false }, kinds := [], alts := [], laidByText := true, laidKinds := [.data], laidTests := true, laidLooks := .later }
def CardTakesCardSaid : Prop := Claim7.holds Tryd.pinned (.plain (OpenSpec.ofChange cardTakesSpec)) cardTakesCard

/-- THE TIED CARD OF 'hawthornlaw03.ArenaRuns'. -/
def arenaRunsCard : Claim7 := { stood := { row := arenaRunsRow, standIns := [], harness := (true, "85ed9b0d6a8a1b273fcd04dafe3060fb5e167cdeb63515309c7843923074c570"), looks := false }, kinds := [], alts := [], laidByText := true, laidKinds := [.data, .data], laidTests := true, laidLooks := .later }
def ArenaRunsCardSaid : Prop := Claim7.holds Tryd.pinned (.plain (OpenSpec.ofChange arenaRunsSpec)) arenaRunsCard

/-- THE SECOND FORM's CARD OF 'hawthornlaw04.CellRuns'. -/
def cellRunsUptoCard : Claim7 := { stood := { row := cellRunsUptoRow, standIns := [], harness := (true, "85ed9b0d6a8a1b273fcd04dafe3060fb5e167cdeb63515309c7843923074c570"), looks := false }, kinds := [], alts := [], laidByText := true, laidKinds := [.data], laidTests := true, laidLooks := .later }
def CellRunsUptoCardSaid : Prop := Claim7.holds Tryd.pinned (.plain (OpenSpec.upto cellRunsSpec)) cellRunsUptoCard

/-- THE SECOND FORM's CARD OF 'hawthornlaw04.CellPoints'. -/
def cellPointsUptoCard : Claim7 := { stood := { row := cellPointsUptoRow, standIns := [], harness := (true, "85ed9b0d6a8a1b273fcd04dafe3060fb5e167cdeb63515309c7843923074c570"), looks := false }, kinds := [], alts := [], laidByText := true, laidKinds := [.data], laidTests := true, laidLooks := .later }
def CellPointsUptoCardSaid : Prop := Claim7.holds Tryd.pinned (.plain (OpenSpec.upto cellPointsSpec)) cellPointsUptoCard

/-- THE SECOND FORM's CARD OF 'hawthornlaw05.CardTakes'. -/
def cardTakesUptoCard : Claim7 := { stood := { row := cardTakesUptoRow, standIns := [], harness := (true, "85ed9b0d6a8a1b273fcd04dafe3060fb5e167cdeb63515309c7843923074c570"), looks := false }, kinds := [], alts := [], laidByText := true, laidKinds := [.data], laidTests := true, laidLooks := .later }
def CardTakesUptoCardSaid : Prop := Claim7.holds Tryd.pinned (.plain (OpenSpec.upto cardTakesSpec)) cardTakesUptoCard

/-- THE SECOND FORM's CARD OF 'hawthornlaw03.ArenaRuns'. -/
def arenaRunsUptoCard : Claim7 := { stood := { row := arenaRunsUptoRow, standIns := [], harness := (true, "85ed9b0d6a8a1b273fcd04dafe3060fb5e167cdeb63515309c7843923074c570"), looks := false }, kinds := [], alts := [], laidByText := true, laidKinds := [.data, .data], laidTests := true, laidLooks := .later }
def ArenaRunsUptoCardSaid : Prop := Claim7.holds Tryd.pinned (.plain (OpenSpec.upto arenaRunsSpec)) arenaRunsUptoCard
end Rows
end Go.Proofs.YtoemfehlnnbjdaaDoor
