/-
  DERIVED. GIVEN WITH THE SEED: THE CARDS: each row of YtidpmplkbgllfaaGreatDoorRows.lean that lists a variable, with what it lists TIED to the program's text (the seventh form; the later family's looks); each row that meets fmt, with fmt's text TOLD by the authors' own Lean function (tested against real Go, not proved from fmt's source: count such statements apart). THE CARD IS WHAT COUNTS. Prove the row's statement (the work); the ties are given (YtidpmplkbgllfaaGreatDoorTie.lean); close each card by the builder's one call (the guide's Derived/Test/ToyasCard.lean, 'card_holds'). Laid BY PROGRAM, IN A SANDBOX (cutbox-door.mjs). By AI agents, Wed Nov 11 2026. No macro, syntax, notation, axiom, sorry.
-/
import Derived.Test.YtidpmplkbgllfaaGreatDoorRows
import GoSem.ClaimSeven
namespace Go.Proofs.YtidpmplkbgllfaaGreatDoor
namespace Rows

/-- THE TIED CARD OF 'hawthornlaw18.SweepMeets'. -/
def sweepMeetsCard : Claim7 := { stood := { row := sweepMeetsRow, standIns := [], harness := (true, "0982ff67cee659267bc46f5de73bcc20cc6cc88a8e882a4cced093d63502fa1d"), looks := false }, kinds := [], alts := [], laidByText := true, laidKinds := [.data, .data], laidTests := true, laidLooks := .later }
def SweepMeetsCardSaid : Prop := Claim7.holds Tryz.pinned (.plain (OpenSpec.ofChange sweepMeetsSpec)) sweepMeetsCard

/-- THE TIED CARD OF 'hawthornlaw18.SweepPool'. -/
def sweepPoolCard : Claim7 := { stood := { row := sweepPoolRow, standIns := [], harness := (true, "0982ff67cee659267bc46f5de73bcc20cc6cc88a8e882a4cced093d63502fa1d"), looks := false }, kinds := [], alts := [], laidByText := true, laidKinds := [.data], laidTests := true, laidLooks := .later }
def SweepPoolCardSaid : Prop := Claim7.holds Tryz.pinned (.plain (OpenSpec.ofChange sweepPoolSpec)) sweepPoolCard

/-- THE TIED CARD OF 'hawthornlaw18.SweepBegins'. -/
def sweepBeginsCard : Claim7 := { stood := { row := sweepBeginsRow, standIns := [], harness := (true, "0982ff67cee659267bc46f5de73bcc20cc6cc88a8e882a4cced093d63502fa1d"), looks := false }, kinds := [], alts := [], laidByText := true, laidKinds := [.data], laidTests := true, laidLooks := .later }
def SweepBeginsCardSaid : Prop := Claim7.holds Tryz.pinned (.plain (OpenSpec.ofChange sweepBeginsSpec)) sweepBeginsCard

/-- THE SECOND FORM's CARD OF 'hawthornlaw18.SweepMeets'. -/
def sweepMeetsUptoCard : Claim7 := { stood := { row := sweepMeetsUptoRow, standIns := [], harness := (true, "0982ff67cee659267bc46f5de73bcc20cc6cc88a8e882a4cced093d63502fa1d"), looks := false }, kinds := [], alts := [], laidByText := true, laidKinds := [.data, .data], laidTests := true, laidLooks := .later }
def SweepMeetsUptoCardSaid : Prop := Claim7.holds Tryz.pinned (.plain (OpenSpec.upto sweepMeetsSpec)) sweepMeetsUptoCard

/-- THE SECOND FORM's CARD OF 'hawthornlaw18.SweepPool'. -/
def sweepPoolUptoCard : Claim7 := { stood := { row := sweepPoolUptoRow, standIns := [], harness := (true, "0982ff67cee659267bc46f5de73bcc20cc6cc88a8e882a4cced093d63502fa1d"), looks := false }, kinds := [], alts := [], laidByText := true, laidKinds := [.data], laidTests := true, laidLooks := .later }
def SweepPoolUptoCardSaid : Prop := Claim7.holds Tryz.pinned (.plain (OpenSpec.upto sweepPoolSpec)) sweepPoolUptoCard

/-- THE SECOND FORM's CARD OF 'hawthornlaw18.SweepBegins'. -/
def sweepBeginsUptoCard : Claim7 := { stood := { row := sweepBeginsUptoRow, standIns := [], harness := (true, "0982ff67cee659267bc46f5de73bcc20cc6cc88a8e882a4cced093d63502fa1d"), looks := false }, kinds := [], alts := [], laidByText := true, laidKinds := [.data], laidTests := true, laidLooks := .later }
def SweepBeginsUptoCardSaid : Prop := Claim7.holds Tryz.pinned (.plain (OpenSpec.upto sweepBeginsSpec)) sweepBeginsUptoCard
end Rows
end Go.Proofs.YtidpmplkbgllfaaGreatDoor
