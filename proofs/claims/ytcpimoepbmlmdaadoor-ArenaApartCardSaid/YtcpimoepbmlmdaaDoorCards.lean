/-
  DERIVED. GIVEN WITH THE SEED: THE CARDS: each row of YtcpimoepbmlmdaaDoorRows.lean that lists a variable, with what it lists TIED to the program's text (the seventh form; the later family's looks); each row that meets fmt, with fmt's text TOLD by the authors' own Lean function (tested against real Go, not proved from fmt's source: count such statements apart). THE CARD IS WHAT COUNTS. Prove the row's statement (the work); the ties are given (YtcpimoepbmlmdaaDoorTie.lean); close each card by the builder's one call (the guide's Derived/Test/ToyasCard.lean, 'card_holds'). Laid BY PROGRAM, IN A SANDBOX (cutbox-door.mjs). By AI agents, Wed Nov 11 2026. No macro, syntax, notation, axiom, sorry.
-/
import Derived.Test.YtcpimoepbmlmdaaDoorRows
import GoSem.ClaimSeven
namespace Go.Proofs.YtcpimoepbmlmdaaDoor
namespace Rows

/-- THE TIED CARD OF 'hawthornlaw03.ArenaRuns'. -/
def arenaRunsCard : Claim7 := { stood := { row := arenaRunsRow, standIns := [], harness := (true, "eb6e62cab01513dab1f1ae3de9f96f3ac528172f4d638d980b00fd4c61135ae5"), looks := false }, kinds := [], alts := [], laidByText := true, laidKinds := [.data, .data], laidTests := true, laidLooks := .later }
def ArenaRunsCardSaid : Prop := Claim7.holds Tryd.pinned (.plain (OpenSpec.ofChange arenaRunsSpec)) arenaRunsCard

/-- THE TIED CARD OF 'hawthornlaw03.ArenaWords'. -/
def arenaWordsCard : Claim7 := { stood := { row := arenaWordsRow, standIns := [], harness := (true, "eb6e62cab01513dab1f1ae3de9f96f3ac528172f4d638d980b00fd4c61135ae5"), looks := false }, kinds := [], alts := [], laidByText := true, laidKinds := [.data], laidTests := true, laidLooks := .later }
def ArenaWordsCardSaid : Prop := Claim7.holds Tryd.pinned (.plain (OpenSpec.ofChange arenaWordsSpec)) arenaWordsCard

/-- THE TIED CARD OF 'hawthornlaw03.ArenaRefs'. -/
def arenaRefsCard : Claim7 := { stood := { row := arenaRefsRow, standIns := [], harness := (true, "eb6e62cab01513dab1f1ae3de9f96f3ac528172f4d638d980b00fd4c61135ae5"), looks := false }, kinds := [], alts := [], laidByText := true, laidKinds := [.data, .data], laidTests := true, laidLooks := .later }
def ArenaRefsCardSaid : Prop := Claim7.holds Tryd.pinned (.plain (OpenSpec.ofChange arenaRefsSpec)) arenaRefsCard

/-- THE TIED CARD OF 'hawthornlaw03.ArenaCells'. -/
def arenaCellsCard : Claim7 := { stood := { row := arenaCellsRow, standIns := [], harness := (true, "eb6e62cab01513dab1f1ae3de9f96f3ac528172f4d638d980b00fd4c61135ae5"), looks := false }, kinds := [], alts := [], laidByText := true, laidKinds := [.data, .data], laidTests := true, laidLooks := .later }
def ArenaCellsCardSaid : Prop := Claim7.holds Tryd.pinned (.plain (OpenSpec.ofChange arenaCellsSpec)) arenaCellsCard

/-- THE TIED CARD OF 'hawthornlaw03.ArenaApart'. -/
def arenaApartCard : Claim7 := { stood := { row := arenaApartRow, standIns := [], harness := (true, "eb6e62cab01513dab1f1ae3de9f96f3ac528172f4d638d980b00fd4c61135ae5"), looks := false }, kinds := [], alts := [], laidByText := true, laidKinds := [.data], laidTests := true, laidLooks := .later }
def ArenaApartCardSaid : Prop := Claim7.holds Tryd.pinned (.plain (OpenSpec.ofChange arenaApartSpec)) arenaApartCard

/-- THE TIED CARD OF 'hawthornlaw04.CellRuns'. -/
def cellRunsCard : Claim7 := { stood := { row := cellRunsRow, standIns := [], harness := (true, "eb6e62cab01513dab1f1ae3de9f96f3ac528172f4d638d980b00fd4c61135ae5"), looks := false }, kinds := [], alts := [], laidByText := true, laidKinds := [.data], laidTests := true, laidLooks := .later }
def CellRunsCardSaid : Prop := Claim7.holds Tryd.pinned (.plain (OpenSpec.ofChange cellRunsSpec)) cellRunsCard

/-- THE TIED CARD OF 'hawthornlaw04.CellPoints'. -/
def cellPointsCard : Claim7 := { stood := { row := cellPointsRow, standIns := [], harness := (true, "eb6e62cab01513dab1f1ae3de9f96f3ac528172f4d638d980b00fd4c61135ae5"), looks := false }, kinds := [], alts := [], laidByText := true, laidKinds := [.data], laidTests := true, laidLooks := .later }
def CellPointsCardSaid : Prop := Claim7.holds Tryd.pinned (.plain (OpenSpec.ofChange cellPointsSpec)) cellPointsCard

/-- THE TIED CARD OF 'hawthornlaw04.CellNone'. -/
def cellNoneCard : Claim7 := { stood := { row := cellNoneRow, standIns := [], harness := (true, "eb6e62cab01513dab1f1ae3de9f96f3ac528172f4d638d980b00fd4c61135ae5"), looks := false }, kinds := [], alts := [], laidByText := true, laidKinds := [.data], laidTests := true, laidLooks := .later }
def CellNoneCardSaid : Prop := Claim7.holds Tryd.pinned (.plain (OpenSpec.ofChange cellNoneSpec)) cellNoneCard

/-- THE TIED CARD OF 'hawthornlaw04.CellFresh'. -/
def cellFreshCard : Claim7 := { stood := { row := cellFreshRow, standIns := [], harness := (true, "eb6e62cab01513dab1f1ae3de9f96f3ac528172f4d638d980b00fd4c61135ae5"), looks := false }, kinds := [], alts := [], laidByText := true, laidKinds := [.data], laidTests := true, laidLooks := .later }
def CellFreshCardSaid : Prop := Claim7.holds Tryd.pinned (.plain (OpenSpec.ofChange cellFreshSpec)) cellFreshCard

/-- THE TIED CARD OF 'hawthornlaw04.CellApart'. -/
def cellApartCard : Claim7 := { stood := { row := cellApartRow, standIns := [], harness := (true, "eb6e62cab01513dab1f1ae3de9f96f3ac528172f4d638d980b00fd4c61135ae5"), looks := false }, kinds := [], alts := [], laidByText := true, laidKinds := [.data], laidTests := true, laidLooks := .later }
def CellApartCardSaid : Prop := Claim7.holds Tryd.pinned (.plain (OpenSpec.ofChange cellApartSpec)) cellApartCard

/-- THE TIED CARD OF 'hawthornlaw04.CellNumbers'. -/
def cellNumbersCard : Claim7 := { stood := { row := cellNumbersRow, standIns := [], harness := (true, "eb6e62cab01513dab1f1ae3de9f96f3ac528172f4d638d980b00fd4c61135ae5"), looks := false }, kinds := [], alts := [], laidByText := true, laidKinds := [.data], laidTests := true, laidLooks := .later }
def CellNumbersCardSaid : Prop := Claim7.holds Tryd.pinned (.plain (OpenSpec.ofChange cellNumbersSpec)) cellNumbersCard

/-- THE SECOND FORM's CARD OF 'hawthornlaw03.ArenaRuns'. -/
def arenaRunsUptoCard : Claim7 := { stood := { row := arenaRunsUptoRow, standIns := [], harness := (true, "eb6e62cab01513dab1f1ae3de9f96f3ac528172f4d638d980b00fd4c61135ae5"), looks := false }, kinds := [], alts := [], laidByText := true, laidKinds := [.data, .data], laidTests := true, laidLooks := .later }
def ArenaRunsUptoCardSaid : Prop := Claim7.holds Tryd.pinned (.plain (OpenSpec.upto arenaRunsSpec)) arenaRunsUptoCard

/-- THE SECOND FORM's CARD OF 'hawthornlaw03.ArenaWords'. -/
def arenaWordsUptoCard : Claim7 := { stood := { row := arenaWordsUptoRow, standIns := [], harness := (true, "eb6e62cab01513dab1f1ae3de9f96f3ac528172f4d638d980b00fd4c61135ae5"), looks := false }, kinds := [], alts := [], laidByText := true, laidKinds := [.data], laidTests := true, laidLooks := .later }
def ArenaWordsUptoCardSaid : Prop := Claim7.holds Tryd.pinned (.plain (OpenSpec.upto arenaWordsSpec)) arenaWordsUptoCard

/-- THE SECOND FORM's CARD OF 'hawthornlaw03.ArenaRefs'. -/
def arenaRefsUptoCard : Claim7 := { stood := { row := arenaRefsUptoRow, standIns := [], harness := (true, "eb6e62cab01513dab1f1ae3de9f96f3ac528172f4d638d980b00fd4c61135ae5"), looks := false }, kinds := [], alts := [], laidByText := true, laidKinds := [.data, .data], laidTests := true, laidLooks := .later }
def ArenaRefsUptoCardSaid : Prop := Claim7.holds Tryd.pinned (.plain (OpenSpec.upto arenaRefsSpec)) arenaRefsUptoCard

/-- THE SECOND FORM's CARD OF 'hawthornlaw03.ArenaCells'. -/
def arenaCellsUptoCard : Claim7 := { stood := { row := arenaCellsUptoRow, standIns := [], harness := (true, "eb6e62cab01513dab1f1ae3de9f96f3ac528172f4d638d980b00fd4c61135ae5"), looks := false }, kinds := [], alts := [], laidByText := true, laidKinds := [.data, .data], laidTests := true, laidLooks := .later }
def ArenaCellsUptoCardSaid : Prop := Claim7.holds Tryd.pinned (.plain (OpenSpec.upto arenaCellsSpec)) arenaCellsUptoCard

/-- THE SECOND FORM's CARD OF 'hawthornlaw03.ArenaApart'. -/
def arenaApartUptoCard : Claim7 := { stood := { row := arenaApartUptoRow, standIns := [], harness := (true, "eb6e62cab01513dab1f1ae3de9f96f3ac528172f4d638d980b00fd4c61135ae5"), looks := false }, kinds := [], alts := [], laidByText := true, laidKinds := [.data], laidTests := true, laidLooks := .later }
def ArenaApartUptoCardSaid : Prop := Claim7.holds Tryd.pinned (.plain (OpenSpec.upto arenaApartSpec)) arenaApartUptoCard

/-- THE SECOND FORM's CARD OF 'hawthornlaw04.CellRuns'. -/
def cellRunsUptoCard : Claim7 := { stood := { row := cellRunsUptoRow, standIns := [], harness := (true, "eb6e62cab01513dab1f1ae3de9f96f3ac528172f4d638d980b00fd4c61135ae5"), looks := false }, kinds := [], alts := [], laidByText := true, laidKinds := [.data], laidTests := true, laidLooks := .later }
def CellRunsUptoCardSaid : Prop := Claim7.holds Tryd.pinned (.plain (OpenSpec.upto cellRunsSpec)) cellRunsUptoCard

/-- THE SECOND FORM's CARD OF 'hawthornlaw04.CellPoints'. -/
def cellPointsUptoCard : Claim7 := { stood := { row := cellPointsUptoRow, standIns := [], harness := (true, "eb6e62cab01513dab1f1ae3de9f96f3ac528172f4d638d980b00fd4c61135ae5"), looks := false }, kinds := [], alts := [], laidByText := true, laidKinds := [.data], laidTests := true, laidLooks := .later }
def CellPointsUptoCardSaid : Prop := Claim7.holds Tryd.pinned (.plain (OpenSpec.upto cellPointsSpec)) cellPointsUptoCard

/-- THE SECOND FORM's CARD OF 'hawthornlaw04.CellNone'. -/
def cellNoneUptoCard : Claim7 := { stood := { row := cellNoneUptoRow, standIns := [], harness := (true, "eb6e62cab01513dab1f1ae3de9f96f3ac528172f4d638d980b00fd4c61135ae5"), looks := false }, kinds := [], alts := [], laidByText := true, laidKinds := [.data], laidTests := true, laidLooks := .later }
def CellNoneUptoCardSaid : Prop := Claim7.holds Tryd.pinned (.plain (OpenSpec.upto cellNoneSpec)) cellNoneUptoCard

/-- THE SECOND FORM's CARD OF 'hawthornlaw04.CellFresh'. -/
def cellFreshUptoCard : Claim7 := { stood := { row := cellFreshUptoRow, standIns := [], harness := (true, "eb6e62cab01513dab1f1ae3de9f96f3ac528172f4d638d980b00fd4c61135ae5"), looks := false }, kinds := [], alts := [], laidByText := true, laidKinds := [.data], laidTests := true, laidLooks := .later }
def CellFreshUptoCardSaid : Prop := Claim7.holds Tryd.pinned (.plain (OpenSpec.upto cellFreshSpec)) cellFreshUptoCard

/-- THE SECOND FORM's CARD OF 'hawthornlaw04.CellApart'. -/
def cellApartUptoCard : Claim7 := { stood := { row := cellApartUptoRow, standIns := [], harness := (true, "eb6e62cab01513dab1f1ae3de9f96f3ac528172f4d638d980b00fd4c61135ae5"), looks := false }, kinds := [], alts := [], laidByText := true, laidKinds := [.data], laidTests := true, laidLooks := .later }
def CellApartUptoCardSaid : Prop := Claim7.holds Tryd.pinned (.plain (OpenSpec.upto cellApartSpec)) cellApartUptoCard

/-- THE SECOND FORM's CARD OF 'hawthornlaw04.CellNumbers'. -/
def cellNumbersUptoCard : Claim7 := { stood := { row := cellNumbersUptoRow, standIns := [], harness := (true, "eb6e62cab01513dab1f1ae3de9f96f3ac528172f4d638d980b00fd4c61135ae5"), looks := false }, kinds := [], alts := [], laidByText := true, laidKinds := [.data], laidTests := true, laidLooks := .later }
def CellNumbersUptoCardSaid : Prop := Claim7.holds Tryd.pinned (.plain (OpenSpec.upto cellNumbersSpec)) cellNumbersUptoCard
end Rows
end Go.Proofs.YtcpimoepbmlmdaaDoor
