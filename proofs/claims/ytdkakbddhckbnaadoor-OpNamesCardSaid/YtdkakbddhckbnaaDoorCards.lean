/-
  DERIVED. GIVEN WITH THE SEED: THE CARDS: each row of YtdkakbddhckbnaaDoorRows.lean that lists a variable, with what it lists TIED to the program's text (the seventh form; the later family's looks); each row that meets fmt, with fmt's text TOLD by the authors' own Lean function (tested against real Go, not proved from fmt's source: count such statements apart). THE CARD IS WHAT COUNTS. Prove the row's statement (the work); the ties are given (YtdkakbddhckbnaaDoorTie.lean); close each card by the builder's one call (the guide's Derived/Test/ToyasCard.lean, 'card_holds'). Laid BY PROGRAM, IN A SANDBOX (cutbox-door.mjs). By AI agents, Wed Nov 11 2026. No macro, syntax, notation, axiom, sorry.
-/
import Derived.Test.YtdkakbddhckbnaaDoorRows
import GoSem.ClaimSeven
namespace Go.Proofs.YtdkakbddhckbnaaDoor
namespace Rows

/-- THE TIED CARD OF 'hawthornlaw09.OpChecks'. -/
def opChecksCard : Claim7 := { stood := { row := opChecksRow, standIns := [], harness := (true, "745817cf6b724d65cd36da370413c2e9e2a062b3252f2f943afece396c4f588c"), looks := false }, kinds := [], alts := [], laidByText := true, laidKinds := [.data], laidTests := true, laidLooks := .later }
def OpChecksCardSaid : Prop := Claim7.holds Tryd.pinned (.plain (OpenSpec.ofChange opChecksSpec)) opChecksCard

/-- THE TIED CARD OF 'hawthornlaw09.OpNames'. -/
def opNamesCard : Claim7 := { stood := { row := opNamesRow, standIns := [], harness := (true, "745817cf6b724d65cd36da370413c2e9e2a062b3252f2f943afece396c4f588c"), looks := false }, kinds := [], alts := [], laidByText := true, laidKinds := [.data], laidTests := true, laidLooks := .later }
def OpNamesCardSaid : Prop := Claim7.holds Tryd.pinned (.plain (OpenSpec.ofChange opNamesSpec)) opNamesCard

/-- THE TIED CARD OF 'hawthornlaw09.OpRegs'. -/
def opRegsCard : Claim7 := { stood := { row := opRegsRow, standIns := [], harness := (true, "745817cf6b724d65cd36da370413c2e9e2a062b3252f2f943afece396c4f588c"), looks := false }, kinds := [], alts := [], laidByText := true, laidKinds := [.data], laidTests := true, laidLooks := .later }
def OpRegsCardSaid : Prop := Claim7.holds Tryd.pinned (.plain (OpenSpec.ofChange opRegsSpec)) opRegsCard

/-- THE TIED CARD OF 'hawthornlaw09.OpLimits'. -/
def opLimitsCard : Claim7 := { stood := { row := opLimitsRow, standIns := [], harness := (true, "745817cf6b724d65cd36da370413c2e9e2a062b3252f2f943afece396c4f588c"), looks := false }, kinds := [], alts := [], laidByText := true, laidKinds := [.data], laidTests := true, laidLooks := .later }
def OpLimitsCardSaid : Prop := Claim7.holds Tryd.pinned (.plain (OpenSpec.ofChange opLimitsSpec)) opLimitsCard

/-- THE TIED CARD OF 'hawthornlaw09.OpSpells'. -/
def opSpellsCard : Claim7 := { stood := { row := opSpellsRow, standIns := [], harness := (true, "745817cf6b724d65cd36da370413c2e9e2a062b3252f2f943afece396c4f588c"), looks := false }, kinds := [], alts := [], laidByText := true, laidKinds := [.data], laidTests := true, laidLooks := .later }
def OpSpellsCardSaid : Prop := Claim7.holds Tryd.pinned (.plain (OpenSpec.ofChange opSpellsSpec)) opSpellsCard

/-- THE SECOND FORM's CARD OF 'hawthornlaw09.OpChecks'. -/
def opChecksUptoCard : Claim7 := { stood := { row := opChecksUptoRow, standIns := [], harness := (true, "745817cf6b724d65cd36da370413c2e9e2a062b3252f2f943afece396c4f588c"), looks := false }, kinds := [], alts := [], laidByText := true, laidKinds := [.data], laidTests := true, laidLooks := .later }
def OpChecksUptoCardSaid : Prop := Claim7.holds Tryd.pinned (.plain (OpenSpec.upto opChecksSpec)) opChecksUptoCard

/-- THE SECOND FORM's CARD OF 'hawthornlaw09.OpNames'. -/
def opNamesUptoCard : Claim7 := { stood := { row := opNamesUptoRow, standIns := [], harness := (true, "745817cf6b724d65cd36da370413c2e9e2a062b3252f2f943afece396c4f588c"), looks := false }, kinds := [], alts := [], laidByText := true, laidKinds := [.data], laidTests := true, laidLooks := .later }
def OpNamesUptoCardSaid : Prop := Claim7.holds Tryd.pinned (.plain (OpenSpec.upto opNamesSpec)) opNamesUptoCard

/-- THE SECOND FORM's CARD OF 'hawthornlaw09.OpRegs'. -/
def opRegsUptoCard : Claim7 := { stood := { row := opRegsUptoRow, standIns := [], harness := (true, "745817cf6b724d65cd36da370413c2e9e2a062b3252f2f943afece396c4f588c"), looks := false }, kinds := [], alts := [], laidByText := true, laidKinds := [.data], laidTests := true, laidLooks := .later }
def OpRegsUptoCardSaid : Prop := Claim7.holds Tryd.pinned (.plain (OpenSpec.upto opRegsSpec)) opRegsUptoCard

/-- THE SECOND FORM's CARD OF 'hawthornlaw09.OpLimits'. -/
def opLimitsUptoCard : Claim7 := { stood := { row := opLimitsUptoRow, standIns := [], harness := (true, "745817cf6b724d65cd36da370413c2e9e2a062b3252f2f943afece396c4f588c"), looks := false }, kinds := [], alts := [], laidByText := true, laidKinds := [.data], laidTests := true, laidLooks := .later }
def OpLimitsUptoCardSaid : Prop := Claim7.holds Tryd.pinned (.plain (OpenSpec.upto opLimitsSpec)) opLimitsUptoCard

/-- THE SECOND FORM's CARD OF 'hawthornlaw09.OpSpells'. -/
def opSpellsUptoCard : Claim7 := { stood := { row := opSpellsUptoRow, standIns := [], harness := (true, "745817cf6b724d65cd36da370413c2e9e2a062b3252f2f943afece396c4f588c"), looks := false }, kinds := [], alts := [], laidByText := true, laidKinds := [.data], laidTests := true, laidLooks := .later }
def OpSpellsUptoCardSaid : Prop := Claim7.holds Tryd.pinned (.plain (OpenSpec.upto opSpellsSpec)) opSpellsUptoCard
end Rows
end Go.Proofs.YtdkakbddhckbnaaDoor
