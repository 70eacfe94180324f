/-
  DERIVED. GIVEN WITH THE SEED: THE CARDS: each row of YtbahichdoafliaaDoorRows.lean that lists a variable, with what it lists TIED to the program's text (the seventh form; the later family's looks); each row that meets fmt, with fmt's text TOLD by the authors' own Lean function (tested against real Go, not proved from fmt's source: count such statements apart). THE CARD IS WHAT COUNTS. Prove the row's statement (the work); the ties are given (YtbahichdoafliaaDoorTie.lean); close each card by the builder's one call (the guide's Derived/Test/ToyasCard.lean, 'card_holds'). Laid BY PROGRAM, IN A SANDBOX (cutbox-door.mjs). By AI agents, Wed Nov 11 2026. No macro, syntax, notation, axiom, sorry.
-/
import Derived.Test.YtbahichdoafliaaDoorRows
import GoSem.ClaimSeven
namespace Go.Proofs.YtbahichdoafliaaDoor
namespace Rows

/-- THE TIED CARD OF 'hawthornlaw01.BitsRuns'. -/
def bitsRunsCard : Claim7 := { stood := { row := bitsRunsRow, standIns := [], harness := (true, "84d33f08502db05bd5a6a46ff05957ba370d2d4fe830f96bfb006992eea569fd"), looks := false }, kinds := [], alts := [], laidByText := true, laidKinds := [.data], laidTests := true, laidLooks := .later }
def BitsRunsCardSaid : Prop := Claim7.holds Tryd.pinned (.plain (OpenSpec.ofChange bitsRunsSpec)) bitsRunsCard

/-- THE TIED CARD OF 'hawthornlaw01.BitsNone'. -/
def bitsNoneCard : Claim7 := { stood := { row := bitsNoneRow, standIns := [], harness := (true, "84d33f08502db05bd5a6a46ff05957ba370d2d4fe830f96bfb006992eea569fd"), looks := false }, kinds := [], alts := [], laidByText := true, laidKinds := [.data], laidTests := true, laidLooks := .later }
def BitsNoneCardSaid : Prop := Claim7.holds Tryd.pinned (.plain (OpenSpec.ofChange bitsNoneSpec)) bitsNoneCard

/-- THE TIED CARD OF 'hawthornlaw01.BitsDrops'. -/
def bitsDropsCard : Claim7 := { stood := { row := bitsDropsRow, standIns := [], harness := (true, "84d33f08502db05bd5a6a46ff05957ba370d2d4fe830f96bfb006992eea569fd"), looks := false }, kinds := [], alts := [], laidByText := true, laidKinds := [.data], laidTests := true, laidLooks := .later }
def BitsDropsCardSaid : Prop := Claim7.holds Tryd.pinned (.plain (OpenSpec.ofChange bitsDropsSpec)) bitsDropsCard

/-- THE TIED CARD OF 'hawthornlaw01.BitsResets'. -/
def bitsResetsCard : Claim7 := { stood := { row := bitsResetsRow, standIns := [], harness := (true, "84d33f08502db05bd5a6a46ff05957ba370d2d4fe830f96bfb006992eea569fd"), looks := false }, kinds := [], alts := [], laidByText := true, laidKinds := [.data], laidTests := true, laidLooks := .later }
def BitsResetsCardSaid : Prop := Claim7.holds Tryd.pinned (.plain (OpenSpec.ofChange bitsResetsSpec)) bitsResetsCard

/-- THE SECOND FORM's CARD OF 'hawthornlaw01.BitsRuns'. -/
def bitsRunsUptoCard : Claim7 := { stood := { row := bitsRunsUptoRow, standIns := [], harness := (true, "84d33f08502db05bd5a6a46ff05957ba370d2d4fe830f96bfb006992eea569fd"), looks := false }, kinds := [], alts := [], laidByText := true, laidKinds := [.data], laidTests := true, laidLooks := .later }
def BitsRunsUptoCardSaid : Prop := Claim7.holds Tryd.pinned (.plain (OpenSpec.upto bitsRunsSpec)) bitsRunsUptoCard

/-- THE SECOND FORM's CARD OF 'hawthornlaw01.BitsNone'. -/
def bitsNoneUptoCard : Claim7 := { stood := { row := bitsNoneUptoRow, standIns := [], harness := (true, "84d33f08502db05bd5a6a46ff05957ba370d2d4fe830f96bfb006992eea569fd"), looks := false }, kinds := [], alts := [], laidByText := true, laidKinds := [.data], laidTests := true, laidLooks := .later }
def BitsNoneUptoCardSaid : Prop := Claim7.holds Tryd.pinned (.plain (OpenSpec.upto bitsNoneSpec)) bitsNoneUptoCard

/-- THE SECOND FORM's CARD OF 'hawthornlaw01.BitsDrops'. -/
def bitsDropsUptoCard : Claim7 := { stood := { row := bitsDropsUptoRow, standIns := [], harness := (true, "84d33f08502db05bd5a6a46ff05957ba370d2d4fe830f96bfb006992eea569fd"), looks := false }, kinds := [], alts := [], laidByText := true, laidKinds := [.data], laidTests := true, laidLooks := .later }
def BitsDropsUptoCardSaid : Prop := Claim7.holds Tryd.pinned (.plain (OpenSpec.upto bitsDropsSpec)) bitsDropsUptoCard

/-- THE SECOND FORM's CARD OF 'hawthornlaw01.BitsResets'. -/
def bitsResetsUptoCard : Claim7 := { stood := { row := bitsResetsUptoRow, standIns := [], harness := (true, "84d33f08502db05bd5a6a46ff05957ba370d2d4fe830f96bfb006992eea569fd"), looks := false }, kinds := [], alts := [], laidByText := true, laidKinds := [.data], laidTests := true, laidLooks := .later }
def BitsResetsUptoCardSaid : Prop := Claim7.holds Tryd.pinned (.plain (OpenSpec.upto bitsResetsSpec)) bitsResetsUptoCard
end Rows
end Go.Proofs.YtbahichdoafliaaDoor
