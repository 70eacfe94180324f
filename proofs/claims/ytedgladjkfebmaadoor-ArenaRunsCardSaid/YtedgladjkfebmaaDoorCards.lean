/-
  DERIVED. GIVEN WITH THE SEED: THE CARDS: each row of YtedgladjkfebmaaDoorRows.lean that lists a variable, with what it lists TIED to the program's text (the seventh form; the later family's looks); each row that meets fmt, with fmt's text TOLD by the authors' own Lean function (tested against real Go, not proved from fmt's source: count such statements apart). THE CARD IS WHAT COUNTS. Prove the row's statement (the work); the ties are given (YtedgladjkfebmaaDoorTie.lean); close each card by the builder's one call (the guide's Derived/Test/ToyasCard.lean, 'card_holds'). Laid BY PROGRAM, IN A SANDBOX (cutbox-door.mjs). By AI agents, Wed Nov 11 2026. No macro, syntax, notation, axiom, sorry.
-/
import Derived.Test.YtedgladjkfebmaaDoorRows
import GoSem.ClaimSeven
namespace Go.Proofs.YtedgladjkfebmaaDoor
namespace Rows

/-- THE TIED CARD OF 'hawthornlaw03.ArenaRuns'. -/
def arenaRunsCard : Claim7 := { stood := { row := arenaRunsRow, standIns := [], harness := (true, "60edc4b0b83859da7649f9129940bde665ccaa6dbb1aec83c552eb90b7d5c285"), looks := false }, kinds := [], alts := [], laidByText := true, laidKinds := [.data, .data], laidTests := true, laidLooks := .later }
def ArenaRunsCardSaid : Prop := Claim7.holds Tryd.pinned (.plain (OpenSpec.ofChange arenaRunsSpec)) arenaRunsCard

/-- THE TIED CARD OF 'hawthornlaw03.ArenaWords'. -/
def arenaWordsCard : Claim7 := { stood := { row := arenaWordsRow, standIns := [], harness := (true, "60edc4b0b83859da7649f9129940bde665ccaa6dbb1aec83c552eb90b7d5c285"), looks := false }, kinds := [], alts := [], laidByText := true, laidKinds := [.data], laidTests := true, laidLooks := .later }
def ArenaWordsCardSaid : Prop := Claim7.holds Tryd.pinned (.plain (OpenSpec.ofChange arenaWordsSpec)) arenaWordsCard

/-- THE TIED CARD OF 'hawthornlaw03.ArenaRefs'. -/
def arenaRefsCard : Claim7 := { stood := { row := arenaRefsRow, standIns := [], harness := (true, "60edc4b0b83859da7649f9129940bde665ccaa6dbb1aec83c552eb90b7d5c285"), looks := false }, kinds := [], alts := [], laidByText := true, laidKinds := [.data, .data], laidTests := true, laidLooks := .later }
def ArenaRefsCardSaid : Prop := Claim7.holds Tryd.pinned (.plain (OpenSpec.ofChange arenaRefsSpec)) arenaRefsCard

/-- THE TIED CARD OF 'hawthornlaw03.ArenaCells'. -/
def arenaCellsCard : Claim7 := { stood := { row := arenaCellsRow, standIns := [], harness := (true, "60edc4b0b83859da7649f9129940bde665ccaa6dbb1aec83c552eb90b7d5c285"), looks := false }, kinds := [], alts := [], laidByText := true, laidKinds := [.data, .data], laidTests := true, laidLooks := .later }
def ArenaCellsCardSaid : Prop := Claim7.holds Tryd.pinned (.plain (OpenSpec.ofChange arenaCellsSpec)) arenaCellsCard

/-- THE TIED CARD OF 'hawthornlaw03.ArenaLimits'. -/
def arenaLimitsCard : Claim7 := { stood := { row := arenaLimitsRow, standIns := [], harness := (true, "60edc4b0b83859da7649f9129940bde665ccaa6dbb1aec83c552eb90b7d5c285"), looks := false }, kinds := [], alts := [], laidByText := true, laidKinds := [.data], laidTests := true, laidLooks := .later }
def ArenaLimitsCardSaid : Prop := Claim7.holds Tryd.pinned (.plain (OpenSpec.ofChange arenaLimitsSpec)) arenaLimitsCard

/-- THE TIED CARD OF 'hawthornlaw03.ArenaAgain'. -/
def arenaAgainCard : Claim7 := { stood := { row := arenaAgainRow, standIns := [], harness := (true, "60edc4b0b83859da7649f9129940bde665ccaa6dbb1aec83c552eb90b7d5c285"), looks := false }, kinds := [], alts := [], laidByText := true, laidKinds := [.data], laidTests := true, laidLooks := .later }
def ArenaAgainCardSaid : Prop := Claim7.holds Tryd.pinned (.plain (OpenSpec.ofChange arenaAgainSpec)) arenaAgainCard

/-- THE TIED CARD OF 'hawthornlaw03.ArenaApart'. -/
def arenaApartCard : Claim7 := { stood := { row := arenaApartRow, standIns := [], harness := (true, "60edc4b0b83859da7649f9129940bde665ccaa6dbb1aec83c552eb90b7d5c285"), looks := false }, kinds := [], alts := [], laidByText := true, laidKinds := [.data], laidTests := true, laidLooks := .later }
def ArenaApartCardSaid : Prop := Claim7.holds Tryd.pinned (.plain (OpenSpec.ofChange arenaApartSpec)) arenaApartCard

/-- THE TIED CARD OF 'hawthornlaw03.ArenaEmpty'. -/
def arenaEmptyCard : Claim7 := { stood := { row := arenaEmptyRow, standIns := [], harness := (true, "60edc4b0b83859da7649f9129940bde665ccaa6dbb1aec83c552eb90b7d5c285"), looks := false }, kinds := [], alts := [], laidByText := true, laidKinds := [.data], laidTests := true, laidLooks := .later }
def ArenaEmptyCardSaid : Prop := Claim7.holds Tryd.pinned (.plain (OpenSpec.ofChange arenaEmptySpec)) arenaEmptyCard

/-- THE SECOND FORM's CARD OF 'hawthornlaw03.ArenaRuns'. -/
def arenaRunsUptoCard : Claim7 := { stood := { row := arenaRunsUptoRow, standIns := [], harness := (true, "60edc4b0b83859da7649f9129940bde665ccaa6dbb1aec83c552eb90b7d5c285"), looks := false }, kinds := [], alts := [], laidByText := true, laidKinds := [.data, .data], laidTests := true, laidLooks := .later }
def ArenaRunsUptoCardSaid : Prop := Claim7.holds Tryd.pinned (.plain (OpenSpec.upto arenaRunsSpec)) arenaRunsUptoCard

/-- THE SECOND FORM's CARD OF 'hawthornlaw03.ArenaWords'. -/
def arenaWordsUptoCard : Claim7 := { stood := { row := arenaWordsUptoRow, standIns := [], harness := (true, "60edc4b0b83859da7649f9129940bde665ccaa6dbb1aec83c552eb90b7d5c285"), looks := false }, kinds := [], alts := [], laidByText := true, laidKinds := [.data], laidTests := true, laidLooks := .later }
def ArenaWordsUptoCardSaid : Prop := Claim7.holds Tryd.pinned (.plain (OpenSpec.upto arenaWordsSpec)) arenaWordsUptoCard

/-- THE SECOND FORM's CARD OF 'hawthornlaw03.ArenaRefs'. -/
def arenaRefsUptoCard : Claim7 := { stood := { row := arenaRefsUptoRow, standIns := [], harness := (true, "60edc4b0b83859da7649f9129940bde665ccaa6dbb1aec83c552eb90b7d5c285"), looks := false }, kinds := [], alts := [], laidByText := true, laidKinds := [.data, .data], laidTests := true, laidLooks := .later }
def ArenaRefsUptoCardSaid : Prop := Claim7.holds Tryd.pinned (.plain (OpenSpec.upto arenaRefsSpec)) arenaRefsUptoCard

/-- THE SECOND FORM's CARD OF 'hawthornlaw03.ArenaCells'. -/
def arenaCellsUptoCard : Claim7 := { stood := { row := arenaCellsUptoRow, standIns := [], harness := (true, "60edc4b0b83859da7649f9129940bde665ccaa6dbb1aec83c552eb90b7d5c285"), looks := false }, kinds := [], alts := [], laidByText := true, laidKinds := [.data, .data], laidTests := true, laidLooks := .later }
def ArenaCellsUptoCardSaid : Prop := Claim7.holds Tryd.pinned (.plain (OpenSpec.upto arenaCellsSpec)) arenaCellsUptoCard

/-- THE SECOND FORM's CARD OF 'hawthornlaw03.ArenaLimits'. -/
def arenaLimitsUptoCard : Claim7 := { stood := { row := arenaLimitsUptoRow, standIns := [], harness := (true, "60edc4b0b83859da7649f9129940bde665ccaa6dbb1aec83c552eb90b7d5c285"), looks := false }, kinds := [], alts := [], laidByText := true, laidKinds := [.data], laidTests := true, laidLooks := .later }
def ArenaLimitsUptoCardSaid : Prop := Claim7.holds Tryd.pinned (.plain (OpenSpec.upto arenaLimitsSpec)) arenaLimitsUptoCard

/-- THE SECOND FORM's CARD OF 'hawthornlaw03.ArenaAgain'. -/
def arenaAgainUptoCard : Claim7 := { stood := { row := arenaAgainUptoRow, standIns := [], harness := (true, "60edc4b0b83859da7649f9129940bde665ccaa6dbb1aec83c552eb90b7d5c285"), looks := false }, kinds := [], alts := [], laidByText := true, laidKinds := [.data], laidTests := true, laidLooks := .later }
def ArenaAgainUptoCardSaid : Prop := Claim7.holds Tryd.pinned (.plain (OpenSpec.upto arenaAgainSpec)) arenaAgainUptoCard

/-- THE SECOND FORM's CARD OF 'hawthornlaw03.ArenaApart'. -/
def arenaApartUptoCard : Claim7 := { stood := { row := arenaApartUptoRow, standIns := [], harness := (true, "60edc4b0b83859da7649f9129940bde665ccaa6dbb1aec83c552eb90b7d5c285"), looks := false }, kinds := [], alts := [], laidByText := true, laidKinds := [.data], laidTests := true, laidLooks := .later }
def ArenaApartUptoCardSaid : Prop := Claim7.holds Tryd.pinned (.plain (OpenSpec.upto arenaApartSpec)) arenaApartUptoCard

/-- THE SECOND FORM's CARD OF 'hawthornlaw03.ArenaEmpty'. -/
def arenaEmptyUptoCard : Claim7 := { stood := { row := arenaEmptyUptoRow, standIns := [], harness := (true, "60edc4b0b83859da7649f9129940bde665ccaa6dbb1aec83c552eb90b7d5c285"), looks := false }, kinds := [], alts := [], laidByText := true, laidKinds := [.data], laidTests := true, laidLooks := .later }
def ArenaEmptyUptoCardSaid : Prop := Claim7.holds Tryd.pinned (.plain (OpenSpec.upto arenaEmptySpec)) arenaEmptyUptoCard
end Rows
end Go.Proofs.YtedgladjkfebmaaDoor
