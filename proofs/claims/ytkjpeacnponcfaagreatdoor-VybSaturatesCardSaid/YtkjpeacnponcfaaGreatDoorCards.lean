/-
  DERIVED. GIVEN WITH THE SEED: THE CARDS: each row of YtkjpeacnponcfaaGreatDoorRows.lean that lists a variable, with what it lists TIED to the program's text (the seventh form; the later family's looks); each row that meets fmt, with fmt's text TOLD by the authors' own Lean function (tested against real Go, not proved from fmt's source: count such statements apart). THE CARD IS WHAT COUNTS. Prove the row's statement (the work); the ties are given (YtkjpeacnponcfaaGreatDoorTie.lean); close each card by the builder's one call (the guide's Derived/Test/ToyasCard.lean, 'card_holds'). Laid BY PROGRAM, IN A SANDBOX (cutbox-door.mjs). By AI agents, Wed Nov 11 2026. No macro, syntax, notation, axiom, sorry.
-/
import Derived.Test.YtkjpeacnponcfaaGreatDoorRows
import GoSem.ClaimSeven
namespace Go.Proofs.YtkjpeacnponcfaaGreatDoor
namespace Rows

/-- THE TIED CARD OF 'hawthornlaw15.VybCounts'. -/
def vybCountsCard : Claim7 := { stood := { row := vybCountsRow, standIns := [], harness := (true, "33c1b20996da030e7fe24912ba7e6ad302d37bdcfbf025419246d4713ff7bece"), looks := false }, kinds := [], alts := [], laidByText := true, laidKinds := [.data, .data], laidTests := true, laidLooks := .later }
def VybCountsCardSaid : Prop := Claim7.holds Tryz.pinned (.plain (OpenSpec.ofChange vybCountsSpec)) vybCountsCard

/-- THE TIED CARD OF 'hawthornlaw15.VybRemarks'. -/
def vybRemarksCard : Claim7 := { stood := { row := vybRemarksRow, standIns := [], harness := (true, "33c1b20996da030e7fe24912ba7e6ad302d37bdcfbf025419246d4713ff7bece"), looks := false }, kinds := [], alts := [], laidByText := true, laidKinds := [.data], laidTests := true, laidLooks := .later }
def VybRemarksCardSaid : Prop := Claim7.holds Tryz.pinned (.plain (OpenSpec.ofChange vybRemarksSpec)) vybRemarksCard

/-- THE TIED CARD OF 'hawthornlaw15.VybEnough'. -/
def vybEnoughCard : Claim7 := { stood := { row := vybEnoughRow, standIns := [], harness := (true, "33c1b20996da030e7fe24912ba7e6ad302d37bdcfbf025419246d4713ff7bece"), looks := false }, kinds := [], alts := [], laidByText := true, laidKinds := [.data], laidTests := true, laidLooks := .later }
def VybEnoughCardSaid : Prop := Claim7.holds Tryz.pinned (.plain (OpenSpec.ofChange vybEnoughSpec)) vybEnoughCard

/-- THE TIED CARD OF 'hawthornlaw15.VybSaturates'. -/
def vybSaturatesCard : Claim7 := { stood := { row := vybSaturatesRow, standIns := [], harness := (true, "33c1b20996da030e7fe24912ba7e6ad302d37bdcfbf025419246d4713ff7bece"), looks := false }, kinds := [], alts := [], laidByText := true, laidKinds := [.data], laidTests := true, laidLooks := .later }
def VybSaturatesCardSaid : Prop := Claim7.holds Tryz.pinned (.plain (OpenSpec.ofChange vybSaturatesSpec)) vybSaturatesCard

/-- THE TIED CARD OF 'hawthornlaw15.VybWhite'. -/
def vybWhiteCard : Claim7 := { stood := { row := vybWhiteRow, standIns := [], harness := (true, "33c1b20996da030e7fe24912ba7e6ad302d37bdcfbf025419246d4713ff7bece"), looks := false }, kinds := [], alts := [], laidByText := true, laidKinds := [.data, .data], laidTests := true, laidLooks := .later }
def VybWhiteCardSaid : Prop := Claim7.holds Tryz.pinned (.plain (OpenSpec.ofChange vybWhiteSpec)) vybWhiteCard

/-- THE SECOND FORM's CARD OF 'hawthornlaw15.VybCounts'. -/
def vybCountsUptoCard : Claim7 := { stood := { row := vybCountsUptoRow, standIns := [], harness := (true, "33c1b20996da030e7fe24912ba7e6ad302d37bdcfbf025419246d4713ff7bece"), looks := false }, kinds := [], alts := [], laidByText := true, laidKinds := [.data, .data], laidTests := true, laidLooks := .later }
def VybCountsUptoCardSaid : Prop := Claim7.holds Tryz.pinned (.plain (OpenSpec.upto vybCountsSpec)) vybCountsUptoCard

/-- THE SECOND FORM's CARD OF 'hawthornlaw15.VybRemarks'. -/
def vybRemarksUptoCard : Claim7 := { stood := { row := vybRemarksUptoRow, standIns := [], harness := (true, "33c1b20996da030e7fe24912ba7e6ad302d37bdcfbf025419246d4713ff7bece"), looks := false }, kinds := [], alts := [], laidByText := true, laidKinds := [.data], laidTests := true, laidLooks := .later }
def VybRemarksUptoCardSaid : Prop := Claim7.holds Tryz.pinned (.plain (OpenSpec.upto vybRemarksSpec)) vybRemarksUptoCard

/-- THE SECOND FORM's CARD OF 'hawthornlaw15.VybEnough'. -/
def vybEnoughUptoCard : Claim7 := { stood := { row := vybEnoughUptoRow, standIns := [], harness := (true, "33c1b20996da030e7fe24912ba7e6ad302d37bdcfbf025419246d4713ff7bece"), looks := false }, kinds := [], alts := [], laidByText := true, laidKinds := [.data], laidTests := true, laidLooks := .later }
def VybEnoughUptoCardSaid : Prop := Claim7.holds Tryz.pinned (.plain (OpenSpec.upto vybEnoughSpec)) vybEnoughUptoCard

/-- THE SECOND FORM's CARD OF 'hawthornlaw15.VybSaturates'. -/
def vybSaturatesUptoCard : Claim7 := { stood := { row := vybSaturatesUptoRow, standIns := [], harness := (true, "33c1b20996da030e7fe24912ba7e6ad302d37bdcfbf025419246d4713ff7bece"), looks := false }, kinds := [], alts := [], laidByText := true, laidKinds := [.data], laidTests := true, laidLooks := .later }
def VybSaturatesUptoCardSaid : Prop := Claim7.holds Tryz.pinned (.plain (OpenSpec.upto vybSaturatesSpec)) vybSaturatesUptoCard

/-- THE SECOND FORM's CARD OF 'hawthornlaw15.VybWhite'. -/
def vybWhiteUptoCard : Claim7 := { stood := { row := vybWhiteUptoRow, standIns := [], harness := (true, "33c1b20996da030e7fe24912ba7e6ad302d37bdcfbf025419246d4713ff7bece"), looks := false }, kinds := [], alts := [], laidByText := true, laidKinds := [.data, .data], laidTests := true, laidLooks := .later }
def VybWhiteUptoCardSaid : Prop := Claim7.holds Tryz.pinned (.plain (OpenSpec.upto vybWhiteSpec)) vybWhiteUptoCard
end Rows
end Go.Proofs.YtkjpeacnponcfaaGreatDoor
