/-
  DERIVED. GIVEN WITH THE SEED: THE CARDS: each row of YtihjijfeogapdaaGreatDoorRows.lean that lists a variable, with what it lists TIED to the program's text (the seventh form; the later family's looks); each row that meets fmt, with fmt's text TOLD by the authors' own Lean function (tested against real Go, not proved from fmt's source: count such statements apart). THE CARD IS WHAT COUNTS. Prove the row's statement (the work); the ties are given (YtihjijfeogapdaaGreatDoorTie.lean); close each card by the builder's one call (the guide's Derived/Test/ToyasCard.lean, 'card_holds'). Laid BY PROGRAM, IN A SANDBOX (cutbox-door.mjs). By AI agents, Wed Nov 11 2026. No macro, syntax, notation, axiom, sorry.
-/
import Derived.Test.YtihjijfeogapdaaGreatDoorRows
import GoSem.ClaimSeven
namespace Go.Proofs.YtihjijfeogapdaaGreatDoor
namespace Rows

/-- THE TIED CARD OF 'hawthornlaw14.YuasaRuns'. -/
def yuasaRunsCard : Claim7 := { stood := { row := yuasaRunsRow, standIns := [], harness := (true, "7d8f58f60079477e24bb3fdee7bd3a1006b7457970ee46188a3f1c4fea8bd2d6"), looks := false }, kinds := [], alts := [], laidByText := true, laidKinds := [.data, .data], laidTests := true, laidLooks := .later }
def YuasaRunsCardSaid : Prop := Claim7.holds Tryz.pinned (.plain (OpenSpec.ofChange yuasaRunsSpec)) yuasaRunsCard

/-- THE TIED CARD OF 'hawthornlaw14.YuasaSnapshot'. -/
def yuasaSnapshotCard : Claim7 := { stood := { row := yuasaSnapshotRow, standIns := [], harness := (true, "7d8f58f60079477e24bb3fdee7bd3a1006b7457970ee46188a3f1c4fea8bd2d6"), looks := false }, kinds := [], alts := [], laidByText := true, laidKinds := [.data, .data], laidTests := true, laidLooks := .later }
def YuasaSnapshotCardSaid : Prop := Claim7.holds Tryz.pinned (.plain (OpenSpec.ofChange yuasaSnapshotSpec)) yuasaSnapshotCard

/-- THE TIED CARD OF 'hawthornlaw14.YuasaQuiet'. -/
def yuasaQuietCard : Claim7 := { stood := { row := yuasaQuietRow, standIns := [], harness := (true, "7d8f58f60079477e24bb3fdee7bd3a1006b7457970ee46188a3f1c4fea8bd2d6"), looks := false }, kinds := [], alts := [], laidByText := true, laidKinds := [.data, .data], laidTests := true, laidLooks := .later }
def YuasaQuietCardSaid : Prop := Claim7.holds Tryz.pinned (.plain (OpenSpec.ofChange yuasaQuietSpec)) yuasaQuietCard

/-- THE SECOND FORM's CARD OF 'hawthornlaw14.YuasaRuns'. -/
def yuasaRunsUptoCard : Claim7 := { stood := { row := yuasaRunsUptoRow, standIns := [], harness := (true, "7d8f58f60079477e24bb3fdee7bd3a1006b7457970ee46188a3f1c4fea8bd2d6"), looks := false }, kinds := [], alts := [], laidByText := true, laidKinds := [.data, .data], laidTests := true, laidLooks := .later }
def YuasaRunsUptoCardSaid : Prop := Claim7.holds Tryz.pinned (.plain (OpenSpec.upto yuasaRunsSpec)) yuasaRunsUptoCard

/-- THE SECOND FORM's CARD OF 'hawthornlaw14.YuasaSnapshot'. -/
def yuasaSnapshotUptoCard : Claim7 := { stood := { row := yuasaSnapshotUptoRow, standIns := [], harness := (true, "7d8f58f60079477e24bb3fdee7bd3a1006b7457970ee46188a3f1c4fea8bd2d6"), looks := false }, kinds := [], alts := [], laidByText := true, laidKinds := [.data, .data], laidTests := true, laidLooks := .later }
def YuasaSnapshotUptoCardSaid : Prop := Claim7.holds Tryz.pinned (.plain (OpenSpec.upto yuasaSnapshotSpec)) yuasaSnapshotUptoCard

/-- THE SECOND FORM's CARD OF 'hawthornlaw14.YuasaQuiet'. -/
def yuasaQuietUptoCard : Claim7 := { stood := { row := yuasaQuietUptoRow, standIns := [], harness := (true, "7d8f58f60079477e24bb3fdee7bd3a1006b7457970ee46188a3f1c4fea8bd2d6"), looks := false }, kinds := [], alts := [], laidByText := true, laidKinds := [.data, .data], laidTests := true, laidLooks := .later }
def YuasaQuietUptoCardSaid : Prop := Claim7.holds Tryz.pinned (.plain (OpenSpec.upto yuasaQuietSpec)) yuasaQuietUptoCard
end Rows
end Go.Proofs.YtihjijfeogapdaaGreatDoor
