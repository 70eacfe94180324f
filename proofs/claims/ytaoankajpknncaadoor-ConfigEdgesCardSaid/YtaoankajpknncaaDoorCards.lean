/-
  DERIVED. GIVEN WITH THE SEED: THE CARDS: each row of YtaoankajpknncaaDoorRows.lean that lists a variable, with what it lists TIED to the program's text (the seventh form; the later family's looks); each row that meets fmt, with fmt's text TOLD by the authors' own Lean function (tested against real Go, not proved from fmt's source: count such statements apart). THE CARD IS WHAT COUNTS. Prove the row's statement (the work); the ties are given (YtaoankajpknncaaDoorTie.lean); close each card by the builder's one call (the guide's Derived/Test/ToyasCard.lean, 'card_holds'). Laid BY PROGRAM, IN A SANDBOX (cutbox-door.mjs). By AI agents, Wed Nov 11 2026. No macro, syntax, notation, axiom, sorry.
-/
import Derived.Test.YtaoankajpknncaaDoorRows
import GoSem.ClaimSeven
namespace Go.Proofs.YtaoankajpknncaaDoor
namespace Rows

/-- THE TIED CARD OF 'hawthornlaw08.ConfigChecks'. -/
def configChecksCard : Claim7 := { stood := { row := configChecksRow, standIns := [], harness := (true, "ca9f83af3b269537cc73b151402f26d745de8b98bb04370d05f3294b31919b0e"), looks := false }, kinds := [], alts := [], laidByText := true, laidKinds := [.data], laidTests := true, laidLooks := .later }
def ConfigChecksCardSaid : Prop := Claim7.holds Tryd.pinned (.plain (OpenSpec.ofChange configChecksSpec)) configChecksCard

/-- THE TIED CARD OF 'hawthornlaw08.ConfigEdges'. -/
def configEdgesCard : Claim7 := { stood := { row := configEdgesRow, standIns := [], harness := (true, "ca9f83af3b269537cc73b151402f26d745de8b98bb04370d05f3294b31919b0e"), looks := false }, kinds := [], alts := [], laidByText := true, laidKinds := [.data], laidTests := true, laidLooks := .later }
def ConfigEdgesCardSaid : Prop := Claim7.holds Tryd.pinned (.plain (OpenSpec.ofChange configEdgesSpec)) configEdgesCard

/-- THE TIED CARD OF 'hawthornlaw08.ConfigNames'. -/
def configNamesCard : Claim7 := { stood := { row := configNamesRow, standIns := [], harness := (true, "ca9f83af3b269537cc73b151402f26d745de8b98bb04370d05f3294b31919b0e"), looks := false }, kinds := [], alts := [], laidByText := true, laidKinds := [.data], laidTests := true, laidLooks := .later }
def ConfigNamesCardSaid : Prop := Claim7.holds Tryd.pinned (.plain (OpenSpec.ofChange configNamesSpec)) configNamesCard

/-- THE TIED CARD OF 'hawthornlaw08.ConfigAlike'. -/
def configAlikeCard : Claim7 := { stood := { row := configAlikeRow, standIns := [], harness := (true, "ca9f83af3b269537cc73b151402f26d745de8b98bb04370d05f3294b31919b0e"), looks := false }, kinds := [], alts := [], laidByText := true, laidKinds := [.data], laidTests := true, laidLooks := .later }
def ConfigAlikeCardSaid : Prop := Claim7.holds Tryd.pinned (.plain (OpenSpec.ofChange configAlikeSpec)) configAlikeCard

/-- THE TIED CARD OF 'hawthornlaw08.ConfigAlls'. -/
def configAllsCard : Claim7 := { stood := { row := configAllsRow, standIns := [], harness := (true, "ca9f83af3b269537cc73b151402f26d745de8b98bb04370d05f3294b31919b0e"), looks := false }, kinds := [], alts := [], laidByText := true, laidKinds := [.data], laidTests := true, laidLooks := .later }
def ConfigAllsCardSaid : Prop := Claim7.holds Tryd.pinned (.plain (OpenSpec.ofChange configAllsSpec)) configAllsCard

/-- THE SECOND FORM's CARD OF 'hawthornlaw08.ConfigChecks'. -/
def configChecksUptoCard : Claim7 := { stood := { row := configChecksUptoRow, standIns := [], harness := (true, "ca9f83af3b269537cc73b151402f26d745de8b98bb04370d05f3294b31919b0e"), looks := false }, kinds := [], alts := [], laidByText := true, laidKinds := [.data], laidTests := true, laidLooks := .later }
def ConfigChecksUptoCardSaid : Prop := Claim7.holds Tryd.pinned (.plain (OpenSpec.upto configChecksSpec)) configChecksUptoCard

/-- THE SECOND FORM's CARD OF 'hawthornlaw08.ConfigEdges'. -/
def configEdgesUptoCard : Claim7 := { stood := { row := configEdgesUptoRow, standIns := [], harness := (true, "ca9f83af3b269537cc73b151402f26d745de8b98bb04370d05f3294b31919b0e"), looks := false }, kinds := [], alts := [], laidByText := true, laidKinds := [.data], laidTests := true, laidLooks := .later }
def ConfigEdgesUptoCardSaid : Prop := Claim7.holds Tryd.pinned (.plain (OpenSpec.upto configEdgesSpec)) configEdgesUptoCard

/-- THE SECOND FORM's CARD OF 'hawthornlaw08.ConfigNames'. -/
def configNamesUptoCard : Claim7 := { stood := { row := configNamesUptoRow, standIns := [], harness := (true, "ca9f83af3b269537cc73b151402f26d745de8b98bb04370d05f3294b31919b0e"), looks := false }, kinds := [], alts := [], laidByText := true, laidKinds := [.data], laidTests := true, laidLooks := .later }
def ConfigNamesUptoCardSaid : Prop := Claim7.holds Tryd.pinned (.plain (OpenSpec.upto configNamesSpec)) configNamesUptoCard

/-- THE SECOND FORM's CARD OF 'hawthornlaw08.ConfigAlike'. -/
def configAlikeUptoCard : Claim7 := { stood := { row := configAlikeUptoRow, standIns := [], harness := (true, "ca9f83af3b269537cc73b151402f26d745de8b98bb04370d05f3294b31919b0e"), looks := false }, kinds := [], alts := [], laidByText := true, laidKinds := [.data], laidTests := true, laidLooks := .later }
def ConfigAlikeUptoCardSaid : Prop := Claim7.holds Tryd.pinned (.plain (OpenSpec.upto configAlikeSpec)) configAlikeUptoCard

/-- THE SECOND FORM's CARD OF 'hawthornlaw08.ConfigAlls'. -/
def configAllsUptoCard : Claim7 := { stood := { row := configAllsUptoRow, standIns := [], harness := (true, "ca9f83af3b269537cc73b151402f26d745de8b98bb04370d05f3294b31919b0e"), looks := false }, kinds := [], alts := [], laidByText := true, laidKinds := [.data], laidTests := true, laidLooks := .later }
def ConfigAllsUptoCardSaid : Prop := Claim7.holds Tryd.pinned (.plain (OpenSpec.upto configAllsSpec)) configAllsUptoCard
end Rows
end Go.Proofs.YtaoankajpknncaaDoor
