/-
  DERIVED. GIVEN WITH THE SEED: THE CARDS: each row of YtooddbhlanjfbaaGreatDoorRows.lean that lists a variable, with what it lists TIED to the program's text (the seventh form; the later family's looks); each row that meets fmt, with fmt's text TOLD by the authors' own Lean function (tested against real Go, not proved from fmt's source: count such statements apart). THE CARD IS WHAT COUNTS. Prove the row's statement (the work); the ties are given (YtooddbhlanjfbaaGreatDoorTie.lean); close each card by the builder's one call (the guide's Derived/Test/ToyasCard.lean, 'card_holds'). Laid BY PROGRAM, IN A SANDBOX (cutbox-door.mjs). By AI agents, Wed Nov 11 2026. No macro, syntax, notation, axiom, sorry.
-/
import Derived.Test.YtooddbhlanjfbaaGreatDoorRows
import GoSem.ClaimSeven
namespace Go.Proofs.YtooddbhlanjfbaaGreatDoor
namespace Rows

/-- THE TIED CARD OF 'hawthornlaw16.EngineKeeps'. -/
def engineKeepsCard : Claim7 := { stood := { row := engineKeepsRow, standIns := [], harness := (true, "4020929fa931904518e57dbb75fe87557ba6ae8b0f8d9a26d58916bbff694440"), looks := false }, kinds := [], alts := [], laidByText := true, laidKinds := [.data, .data], laidTests := true, laidLooks := .later }
def EngineKeepsCardSaid : Prop := Claim7.holds Tryz.pinned (.plain (OpenSpec.ofChange engineKeepsSpec)) engineKeepsCard

/-- THE TIED CARD OF 'hawthornlaw16.EngineAlike'. -/
def engineAlikeCard : Claim7 := { stood := { row := engineAlikeRow, standIns := [], harness := (true, "4020929fa931904518e57dbb75fe87557ba6ae8b0f8d9a26d58916bbff694440"), looks := false }, kinds := [], alts := [], laidByText := true, laidKinds := [.data, .data], laidTests := true, laidLooks := .later }
def EngineAlikeCardSaid : Prop := Claim7.holds Tryz.pinned (.plain (OpenSpec.ofChange engineAlikeSpec)) engineAlikeCard

/-- THE TIED CARD OF 'hawthornlaw16.EngineFinishes'. -/
def engineFinishesCard : Claim7 := { stood := { row := engineFinishesRow, standIns := [], harness := (true, "4020929fa931904518e57dbb75fe87557ba6ae8b0f8d9a26d58916bbff694440"), looks := false }, kinds := [], alts := [], laidByText := true, laidKinds := [.data, .data], laidTests := true, laidLooks := .later }
def EngineFinishesCardSaid : Prop := Claim7.holds Tryz.pinned (.plain (OpenSpec.ofChange engineFinishesSpec)) engineFinishesCard

/-- THE TIED CARD OF 'hawthornlaw16.EngineAgain'. -/
def engineAgainCard : Claim7 := { stood := { row := engineAgainRow, standIns := [], harness := (true, "4020929fa931904518e57dbb75fe87557ba6ae8b0f8d9a26d58916bbff694440"), looks := false }, kinds := [], alts := [], laidByText := true, laidKinds := [.data, .data], laidTests := true, laidLooks := .later }
def EngineAgainCardSaid : Prop := Claim7.holds Tryz.pinned (.plain (OpenSpec.ofChange engineAgainSpec)) engineAgainCard

/-- THE TIED CARD OF 'hawthornlaw16.EngineQuiet'. -/
def engineQuietCard : Claim7 := { stood := { row := engineQuietRow, standIns := [], harness := (true, "4020929fa931904518e57dbb75fe87557ba6ae8b0f8d9a26d58916bbff694440"), looks := false }, kinds := [], alts := [], laidByText := true, laidKinds := [.data, .data], laidTests := true, laidLooks := .later }
def EngineQuietCardSaid : Prop := Claim7.holds Tryz.pinned (.plain (OpenSpec.ofChange engineQuietSpec)) engineQuietCard

/-- THE SECOND FORM's CARD OF 'hawthornlaw16.EngineKeeps'. -/
def engineKeepsUptoCard : Claim7 := { stood := { row := engineKeepsUptoRow, standIns := [], harness := (true, "4020929fa931904518e57dbb75fe87557ba6ae8b0f8d9a26d58916bbff694440"), looks := false }, kinds := [], alts := [], laidByText := true, laidKinds := [.data, .data], laidTests := true, laidLooks := .later }
def EngineKeepsUptoCardSaid : Prop := Claim7.holds Tryz.pinned (.plain (OpenSpec.upto engineKeepsSpec)) engineKeepsUptoCard

/-- THE SECOND FORM's CARD OF 'hawthornlaw16.EngineAlike'. -/
def engineAlikeUptoCard : Claim7 := { stood := { row := engineAlikeUptoRow, standIns := [], harness := (true, "4020929fa931904518e57dbb75fe87557ba6ae8b0f8d9a26d58916bbff694440"), looks := false }, kinds := [], alts := [], laidByText := true, laidKinds := [.data, .data], laidTests := true, laidLooks := .later }
def EngineAlikeUptoCardSaid : Prop := Claim7.holds Tryz.pinned (.plain (OpenSpec.upto engineAlikeSpec)) engineAlikeUptoCard

/-- THE SECOND FORM's CARD OF 'hawthornlaw16.EngineFinishes'. -/
def engineFinishesUptoCard : Claim7 := { stood := { row := engineFinishesUptoRow, standIns := [], harness := (true, "4020929fa931904518e57dbb75fe87557ba6ae8b0f8d9a26d58916bbff694440"), looks := false }, kinds := [], alts := [], laidByText := true, laidKinds := [.data, .data], laidTests := true, laidLooks := .later }
def EngineFinishesUptoCardSaid : Prop := Claim7.holds Tryz.pinned (.plain (OpenSpec.upto engineFinishesSpec)) engineFinishesUptoCard

/-- THE SECOND FORM's CARD OF 'hawthornlaw16.EngineAgain'. -/
def engineAgainUptoCard : Claim7 := { stood := { row := engineAgainUptoRow, standIns := [], harness := (true, "4020929fa931904518e57dbb75fe87557ba6ae8b0f8d9a26d58916bbff694440"), looks := false }, kinds := [], alts := [], laidByText := true, laidKinds := [.data, .data], laidTests := true, laidLooks := .later }
def EngineAgainUptoCardSaid : Prop := Claim7.holds Tryz.pinned (.plain (OpenSpec.upto engineAgainSpec)) engineAgainUptoCard

/-- THE SECOND FORM's CARD OF 'hawthornlaw16.EngineQuiet'. -/
def engineQuietUptoCard : Claim7 := { stood := { row := engineQuietUptoRow, standIns := [], harness := (true, "4020929fa931904518e57dbb75fe87557ba6ae8b0f8d9a26d58916bbff694440"), looks := false }, kinds := [], alts := [], laidByText := true, laidKinds := [.data, .data], laidTests := true, laidLooks := .later }
def EngineQuietUptoCardSaid : Prop := Claim7.holds Tryz.pinned (.plain (OpenSpec.upto engineQuietSpec)) engineQuietUptoCard
end Rows
end Go.Proofs.YtooddbhlanjfbaaGreatDoor
