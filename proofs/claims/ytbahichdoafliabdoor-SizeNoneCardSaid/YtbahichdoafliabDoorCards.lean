/-
  DERIVED. GIVEN WITH THE SEED: THE CARDS: each row of YtbahichdoafliabDoorRows.lean that lists a variable, with what it lists TIED to the program's text (the seventh form; the later family's looks); each row that meets fmt, with fmt's text TOLD by the authors' own Lean function (tested against real Go, not proved from fmt's source: count such statements apart). THE CARD IS WHAT COUNTS. Prove the row's statement (the work); the ties are given (YtbahichdoafliabDoorTie.lean); close each card by the builder's one call (the guide's Derived/Test/ToyasCard.lean, 'card_holds'). Laid BY PROGRAM, IN A SANDBOX (cutbox-door.mjs). By AI agents, Wed Nov 11 2026. No macro, syntax, notation, axiom, sorry.
-/
import Derived.Test.YtbahichdoafliabDoorRows
import GoSem.ClaimSeven
namespace Go.Proofs.YtbahichdoafliabDoor
namespace Rows

/-- THE TIED CARD OF 'hawthornlaw02.SizeClasses'. -/
def sizeClassesCard : Claim7 := { stood := { row := sizeClassesRow, standIns := [], harness := (true, "ae46a30566941beef27a4c369709104c5fcca49d86817c73ccadbc59a1658136"), looks := false }, kinds := [], alts := [], laidByText := true, laidKinds := [.data], laidTests := true, laidLooks := .later }
def SizeClassesCardSaid : Prop := Claim7.holds Tryd.pinned (.plain (OpenSpec.ofChange sizeClassesSpec)) sizeClassesCard

/-- THE TIED CARD OF 'hawthornlaw02.SizeCells'. -/
def sizeCellsCard : Claim7 := { stood := { row := sizeCellsRow, standIns := [], harness := (true, "ae46a30566941beef27a4c369709104c5fcca49d86817c73ccadbc59a1658136"), looks := false }, kinds := [], alts := [], laidByText := true, laidKinds := [.data], laidTests := true, laidLooks := .later }
def SizeCellsCardSaid : Prop := Claim7.holds Tryd.pinned (.plain (OpenSpec.ofChange sizeCellsSpec)) sizeCellsCard

/-- THE TIED CARD OF 'hawthornlaw02.SizeWhole'. -/
def sizeWholeCard : Claim7 := { stood := { row := sizeWholeRow, standIns := [], harness := (true, "ae46a30566941beef27a4c369709104c5fcca49d86817c73ccadbc59a1658136"), looks := false }, kinds := [], alts := [], laidByText := true, laidKinds := [.data], laidTests := true, laidLooks := .later }
def SizeWholeCardSaid : Prop := Claim7.holds Tryd.pinned (.plain (OpenSpec.ofChange sizeWholeSpec)) sizeWholeCard

/-- THE TIED CARD OF 'hawthornlaw02.SizeSteps'. -/
def sizeStepsCard : Claim7 := { stood := { row := sizeStepsRow, standIns := [], harness := (true, "ae46a30566941beef27a4c369709104c5fcca49d86817c73ccadbc59a1658136"), looks := false }, kinds := [], alts := [], laidByText := true, laidKinds := [.data], laidTests := true, laidLooks := .later }
def SizeStepsCardSaid : Prop := Claim7.holds Tryd.pinned (.plain (OpenSpec.ofChange sizeStepsSpec)) sizeStepsCard

/-- THE TIED CARD OF 'hawthornlaw02.SizeInner'. -/
def sizeInnerCard : Claim7 := { stood := { row := sizeInnerRow, standIns := [], harness := (true, "ae46a30566941beef27a4c369709104c5fcca49d86817c73ccadbc59a1658136"), looks := false }, kinds := [], alts := [], laidByText := true, laidKinds := [.data], laidTests := true, laidLooks := .later }
def SizeInnerCardSaid : Prop := Claim7.holds Tryd.pinned (.plain (OpenSpec.ofChange sizeInnerSpec)) sizeInnerCard

/-- THE TIED CARD OF 'hawthornlaw02.SizeNone'. -/
def sizeNoneCard : Claim7 := { stood := { row := sizeNoneRow, standIns := [], harness := (true, "ae46a30566941beef27a4c369709104c5fcca49d86817c73ccadbc59a1658136"), looks := false }, kinds := [], alts := [], laidByText := true, laidKinds := [.data], laidTests := true, laidLooks := .later }
def SizeNoneCardSaid : Prop := Claim7.holds Tryd.pinned (.plain (OpenSpec.ofChange sizeNoneSpec)) sizeNoneCard

/-- THE SECOND FORM's CARD OF 'hawthornlaw02.SizeClasses'. -/
def sizeClassesUptoCard : Claim7 := { stood := { row := sizeClassesUptoRow, standIns := [], harness := (true, "ae46a30566941beef27a4c369709104c5fcca49d86817c73ccadbc59a1658136"), looks := false }, kinds := [], alts := [], laidByText := true, laidKinds := [.data], laidTests := true, laidLooks := .later }
def SizeClassesUptoCardSaid : Prop := Claim7.holds Tryd.pinned (.plain (OpenSpec.upto sizeClassesSpec)) sizeClassesUptoCard

/-- THE SECOND FORM's CARD OF 'hawthornlaw02.SizeCells'. -/
def sizeCellsUptoCard : Claim7 := { stood := { row := sizeCellsUptoRow, standIns := [], harness := (true, "ae46a30566941beef27a4c369709104c5fcca49d86817c73ccadbc59a1658136"), looks := false }, kinds := [], alts := [], laidByText := true, laidKinds := [.data], laidTests := true, laidLooks := .later }
def SizeCellsUptoCardSaid : Prop := Claim7.holds Tryd.pinned (.plain (OpenSpec.upto sizeCellsSpec)) sizeCellsUptoCard

/-- THE SECOND FORM's CARD OF 'hawthornlaw02.SizeWhole'. -/
def sizeWholeUptoCard : Claim7 := { stood := { row := sizeWholeUptoRow, standIns := [], harness := (true, "ae46a30566941beef27a4c369709104c5fcca49d86817c73ccadbc59a1658136"), looks := false }, kinds := [], alts := [], laidByText := true, laidKinds := [.data], laidTests := true, laidLooks := .later }
def SizeWholeUptoCardSaid : Prop := Claim7.holds Tryd.pinned (.plain (OpenSpec.upto sizeWholeSpec)) sizeWholeUptoCard

/-- THE SECOND FORM's CARD OF 'hawthornlaw02.SizeSteps'. -/
def sizeStepsUptoCard : Claim7 := { stood := { row := sizeStepsUptoRow, standIns := [], harness := (true, "ae46a30566941beef27a4c369709104c5fcca49d86817c73ccadbc59a1658136"), looks := false }, kinds := [], alts := [], laidByText := true, laidKinds := [.data], laidTests := true, laidLooks := .later }
def SizeStepsUptoCardSaid : Prop := Claim7.holds Tryd.pinned (.plain (OpenSpec.upto sizeStepsSpec)) sizeStepsUptoCard

/-- THE SECOND FORM's CARD OF 'hawthornlaw02.SizeInner'. -/
def sizeInnerUptoCard : Claim7 := { stood := { row := sizeInnerUptoRow, standIns := [], harness := (true, "ae46a30566941beef27a4c369709104c5fcca49d86817c73ccadbc59a1658136"), looks := false }, kinds := [], alts := [], laidByText := true, laidKinds := [.data], laidTests := true, laidLooks := .later }
def SizeInnerUptoCardSaid : Prop := Claim7.holds Tryd.pinned (.plain (OpenSpec.upto sizeInnerSpec)) sizeInnerUptoCard

/-- THE SECOND FORM's CARD OF 'hawthornlaw02.SizeNone'. -/
def sizeNoneUptoCard : Claim7 := { stood := { row := sizeNoneUptoRow, standIns := [], harness := (true, "ae46a30566941beef27a4c369709104c5fcca49d86817c73ccadbc59a1658136"), looks := false }, kinds := [], alts := [], laidByText := true, laidKinds := [.data], laidTests := true, laidLooks := .later }
def SizeNoneUptoCardSaid : Prop := Claim7.holds Tryd.pinned (.plain (OpenSpec.upto sizeNoneSpec)) sizeNoneUptoCard
end Rows
end Go.Proofs.YtbahichdoafliabDoor
