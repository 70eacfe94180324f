/-
  NARROWER THAN 'FOR EVERY INPUT', by the rows' own cells (each row's printed sentence says how): ConfigChecks: laid · ConfigEdges: laid · ConfigNames: laid · ConfigAlike: laid · ConfigAlls: laid.
  DERIVED. THE GIVEN ROWS OF THIS SEAT. 5 by the template 'for every input the law returns true; each argument reads behind the call as it read before'; 0 by the template 'total and deterministic' (their statements: YtaoankajpknncaaDoorTotals.lean).
  GIVEN WITH THE SEED: the statements are not yours to turn. If you find one false, say at which input.
  Laid BY PROGRAM, IN A SANDBOX (cutbox-rows.mjs): the forced cells as the released guide's own fill.sh prints them over the translation f81e8eee6c91f0e2… (all of the seat's roots in one cut). By AI agents, Wed Nov 11 2026. No macro, syntax, notation, axiom, sorry.
-/
import Derived.Test.YtaoankajpknncaaDoorChecked
import GoSem.Claim
import GoSem.ClaimJoined
import GoSem.ClaimMapViews
import Derived.JoinedTies
import Derived.KernelRfl
namespace Go.Proofs.YtaoankajpknncaaDoor
/- THE CELL 'sum', in the pinned program and in every row, IS THE sha256 OF THE DUMP (.gsa) THAT YtaoankajpknncaaDoorProg.lean LOADS. Nothing in Lean hashes anything: it is a label: what it is worth is what the hold of that sum in a sandbox is worth. -/
noncomputable def Tryd.pinned : Pinned := { name := "ytaoankajpknncaadoor", sum := "f81e8eee6c91f0e25227f2debba19cfdc47d0af776545aeab30db8efdecbef30", checked := Tryd.checked }
namespace Rows
def none {H : Type} : Left H := { results := [], args := [] }

/- WHAT THE LISTED PACKAGE-LEVEL VARIABLES READ AS WHEN THE CALL BEGINS. Each datum BY PROGRAM (the guide's laid-datum.mjs) off the statement by which the dump's own 'gosem.cut.vars' lays the variable. In a bare row this is a premise. The card (YtaoankajpknncaaDoorCards.lean) ties it to the program's text. -/
def laid_hawthorn_config_engines {H : Type} : DataW H := .agg [.lit (.string [115, 116, 101, 101, 108, 101]), .lit (.string [100, 105, 106, 107, 115, 116, 114, 97]), .lit (.string [121, 117, 97, 115, 97]), .lit (.string [118, 121, 98])]

/-- 'hawthornlaw08.ConfigChecks': WHATEVER THE INPUT: true; the input reads as it did. -/
def configChecksSpec : ChangeSpec := { name := "configChecks", fn := fun _ => fun
  | [d1, d2] => { results := [.lit (.bool true)], args := [d1, d2] }
  | _ => none }
def configChecksRow : OpenClaim := { program := "ytaoankajpknncaadoor", sum := "f81e8eee6c91f0e25227f2debba19cfdc47d0af776545aeab30db8efdecbef30", func := "hawthorn/hawthornlaw08.ConfigChecks", spec := "configChecks", unfollowed := true, recurses := true, named := ["hawthorn/config.engines"], apart := false, laid := [("hawthorn/config.engines", laid_hawthorn_config_engines)] }
def ConfigChecksSaid : Prop := configChecksRow.holds Tryd.pinned (OpenSpec.ofChange configChecksSpec)

/-- ITS FALSE NEIGHBOUR: 'it returns false'. Refute it at one input. -/
def configChecksWrong : ChangeSpec := { name := "configChecks", fn := fun _ => fun
  | [d1, d2] => { results := [.lit (.bool false)], args := [d1, d2] }
  | _ => none }
def ConfigChecksWrongFalsely : Prop := configChecksRow.holds Tryd.pinned (OpenSpec.ofChange configChecksWrong)

/-- 'hawthornlaw08.ConfigEdges': WHATEVER THE INPUT: true; the input reads as it did. -/
def configEdgesSpec : ChangeSpec := { name := "configEdges", fn := fun _ => fun
  | [d1, d2, d3] => { results := [.lit (.bool true)], args := [d1, d2, d3] }
  | _ => none }
def configEdgesRow : OpenClaim := { program := "ytaoankajpknncaadoor", sum := "f81e8eee6c91f0e25227f2debba19cfdc47d0af776545aeab30db8efdecbef30", func := "hawthorn/hawthornlaw08.ConfigEdges", spec := "configEdges", unfollowed := true, recurses := true, named := ["hawthorn/config.engines"], apart := false, laid := [("hawthorn/config.engines", laid_hawthorn_config_engines)] }
def ConfigEdgesSaid : Prop := configEdgesRow.holds Tryd.pinned (OpenSpec.ofChange configEdgesSpec)

/-- ITS FALSE NEIGHBOUR: 'it returns false'. Refute it at one input. -/
def configEdgesWrong : ChangeSpec := { name := "configEdges", fn := fun _ => fun
  | [d1, d2, d3] => { results := [.lit (.bool false)], args := [d1, d2, d3] }
  | _ => none }
def ConfigEdgesWrongFalsely : Prop := configEdgesRow.holds Tryd.pinned (OpenSpec.ofChange configEdgesWrong)

/-- 'hawthornlaw08.ConfigNames': WHATEVER THE INPUT: true; the input reads as it did. -/
def configNamesSpec : ChangeSpec := { name := "configNames", fn := fun _ => fun
  | [d1, d2, d3] => { results := [.lit (.bool true)], args := [d1, d2, d3] }
  | _ => none }
def configNamesRow : OpenClaim := { program := "ytaoankajpknncaadoor", sum := "f81e8eee6c91f0e25227f2debba19cfdc47d0af776545aeab30db8efdecbef30", func := "hawthorn/hawthornlaw08.ConfigNames", spec := "configNames", unfollowed := true, recurses := true, named := ["hawthorn/config.engines"], apart := false, laid := [("hawthorn/config.engines", laid_hawthorn_config_engines)] }
def ConfigNamesSaid : Prop := configNamesRow.holds Tryd.pinned (OpenSpec.ofChange configNamesSpec)

/-- ITS FALSE NEIGHBOUR: 'it returns false'. Refute it at one input. -/
def configNamesWrong : ChangeSpec := { name := "configNames", fn := fun _ => fun
  | [d1, d2, d3] => { results := [.lit (.bool false)], args := [d1, d2, d3] }
  | _ => none }
def ConfigNamesWrongFalsely : Prop := configNamesRow.holds Tryd.pinned (OpenSpec.ofChange configNamesWrong)

/-- 'hawthornlaw08.ConfigAlike': WHATEVER THE INPUT: true; the input reads as it did. -/
def configAlikeSpec : ChangeSpec := { name := "configAlike", fn := fun _ => fun
  | [d1, d2] => { results := [.lit (.bool true)], args := [d1, d2] }
  | _ => none }
def configAlikeRow : OpenClaim := { program := "ytaoankajpknncaadoor", sum := "f81e8eee6c91f0e25227f2debba19cfdc47d0af776545aeab30db8efdecbef30", func := "hawthorn/hawthornlaw08.ConfigAlike", spec := "configAlike", unfollowed := true, recurses := true, named := ["hawthorn/config.engines"], apart := false, laid := [("hawthorn/config.engines", laid_hawthorn_config_engines)] }
def ConfigAlikeSaid : Prop := configAlikeRow.holds Tryd.pinned (OpenSpec.ofChange configAlikeSpec)

/-- ITS FALSE NEIGHBOUR: 'it returns false'. Refute it at one input. -/
def configAlikeWrong : ChangeSpec := { name := "configAlike", fn := fun _ => fun
  | [d1, d2] => { results := [.lit (.bool false)], args := [d1, d2] }
  | _ => none }
def ConfigAlikeWrongFalsely : Prop := configAlikeRow.holds Tryd.pinned (OpenSpec.ofChange configAlikeWrong)

/-- 'hawthornlaw08.ConfigAlls': WHATEVER THE INPUT: true; the input reads as it did. -/
def configAllsSpec : ChangeSpec := { name := "configAlls", fn := fun _ => fun
  | [d1, d2] => { results := [.lit (.bool true)], args := [d1, d2] }
  | _ => none }
def configAllsRow : OpenClaim := { program := "ytaoankajpknncaadoor", sum := "f81e8eee6c91f0e25227f2debba19cfdc47d0af776545aeab30db8efdecbef30", func := "hawthorn/hawthornlaw08.ConfigAlls", spec := "configAlls", unfollowed := true, recurses := true, named := ["hawthorn/config.engines"], apart := false, laid := [("hawthorn/config.engines", laid_hawthorn_config_engines)] }
def ConfigAllsSaid : Prop := configAllsRow.holds Tryd.pinned (OpenSpec.ofChange configAllsSpec)

/-- ITS FALSE NEIGHBOUR: 'it returns false'. Refute it at one input. -/
def configAllsWrong : ChangeSpec := { name := "configAlls", fn := fun _ => fun
  | [d1, d2] => { results := [.lit (.bool false)], args := [d1, d2] }
  | _ => none }
def ConfigAllsWrongFalsely : Prop := configAllsRow.holds Tryd.pinned (OpenSpec.ofChange configAllsWrong)

/- THE SECOND FORM. 'bulk': how many values and letters a reading holds, each counted each time it is reached (what is shared counts as often as it is met; a slice's spare places count too). A statement '..UptoSaid' is the law's where the arguments, and the package variables that the reading takes, are together of bulk at most 1048576: NARROWER than '..Said'. Prove '..Said' where nothing that the law and all that it calls make is longer than what came in: it says more and counts as full. Else prove '..UptoSaid'. A law counts once. -/
mutual
def uptoBulk {H : Type} : DataW H → Nat
  | .lit (.string bytes) => bytes.length + 1
  | .lit _ => 1
  | .nil => 1
  | .ptr d => uptoBulk d + 1
  | .slice elems spare => uptoBulkAll elems + uptoBulkAll spare + 1
  | .agg parts => uptoBulkAll parts + 1
  | .iface _ d => uptoBulk d + 1
  | .map entries => uptoBulkEntries entries + 1
  | .held _ => 1
def uptoBulkAll {H : Type} : List (DataW H) → Nat
  | [] => 0
  | d :: r => uptoBulk d + uptoBulkAll r
def uptoBulkEntries {H : Type} : List (Lit × DataW H) → Nat
  | [] => 0
  | x :: r => uptoBulkEntry x + uptoBulkEntries r
def uptoBulkEntry {H : Type} : Lit × DataW H → Nat
  | (.string bytes, d) => bytes.length + uptoBulk d + 1
  | (_, d) => uptoBulk d + 1
 end
def uptoSmall : (H : Type) → List (DataW H) → Bool := fun _ ds => decide (uptoBulkAll ds ≤ 1048576)
def OpenSpec.upto (s : _root_.Go.ChangeSpec) : _root_.Go.OpenSpec := { _root_.Go.OpenSpec.ofChange s with cond := some uptoSmall }

/-- 'hawthornlaw08.ConfigChecks', WHERE WHAT IT READS IS OF BULK AT MOST 1048576: true; the input reads as it did. -/
def configChecksUptoRow : OpenClaim := { program := "ytaoankajpknncaadoor", sum := "f81e8eee6c91f0e25227f2debba19cfdc47d0af776545aeab30db8efdecbef30", func := "hawthorn/hawthornlaw08.ConfigChecks", spec := "configChecks", unfollowed := true, recurses := true, named := ["hawthorn/config.engines"], apart := false, laid := [("hawthorn/config.engines", laid_hawthorn_config_engines)], narrowed := true }
def ConfigChecksUptoSaid : Prop := configChecksUptoRow.holds Tryd.pinned (OpenSpec.upto configChecksSpec)

/-- 'hawthornlaw08.ConfigEdges', WHERE WHAT IT READS IS OF BULK AT MOST 1048576: true; the input reads as it did. -/
def configEdgesUptoRow : OpenClaim := { program := "ytaoankajpknncaadoor", sum := "f81e8eee6c91f0e25227f2debba19cfdc47d0af776545aeab30db8efdecbef30", func := "hawthorn/hawthornlaw08.ConfigEdges", spec := "configEdges", unfollowed := true, recurses := true, named := ["hawthorn/config.engines"], apart := false, laid := [("hawthorn/config.engines", laid_hawthorn_config_engines)], narrowed := true }
def ConfigEdgesUptoSaid : Prop := configEdgesUptoRow.holds Tryd.pinned (OpenSpec.upto configEdgesSpec)

/-- 'hawthornlaw08.ConfigNames', WHERE WHAT IT READS IS OF BULK AT MOST 1048576: true; the input reads as it did. -/
def configNamesUptoRow : OpenClaim := { program := "ytaoankajpknncaadoor", sum := "f81e8eee6c91f0e25227f2debba19cfdc47d0af776545aeab30db8efdecbef30", func := "hawthorn/hawthornlaw08.ConfigNames", spec := "configNames", unfollowed := true, recurses := true, named := ["hawthorn/config.engines"], apart := false, laid := [("hawthorn/config.engines", laid_hawthorn_config_engines)], narrowed := true }
def ConfigNamesUptoSaid : Prop := configNamesUptoRow.holds Tryd.pinned (OpenSpec.upto configNamesSpec)

/-- 'hawthornlaw08.ConfigAlike', WHERE WHAT IT READS IS OF BULK AT MOST 1048576: true; the input reads as it did. -/
def configAlikeUptoRow : OpenClaim := { program := "ytaoankajpknncaadoor", sum := "f81e8eee6c91f0e25227f2debba19cfdc47d0af776545aeab30db8efdecbef30", func := "hawthorn/hawthornlaw08.ConfigAlike", spec := "configAlike", unfollowed := true, recurses := true, named := ["hawthorn/config.engines"], apart := false, laid := [("hawthorn/config.engines", laid_hawthorn_config_engines)], narrowed := true }
def ConfigAlikeUptoSaid : Prop := configAlikeUptoRow.holds Tryd.pinned (OpenSpec.upto configAlikeSpec)

/-- 'hawthornlaw08.ConfigAlls', WHERE WHAT IT READS IS OF BULK AT MOST 1048576: true; the input reads as it did. -/
def configAllsUptoRow : OpenClaim := { program := "ytaoankajpknncaadoor", sum := "f81e8eee6c91f0e25227f2debba19cfdc47d0af776545aeab30db8efdecbef30", func := "hawthorn/hawthornlaw08.ConfigAlls", spec := "configAlls", unfollowed := true, recurses := true, named := ["hawthorn/config.engines"], apart := false, laid := [("hawthorn/config.engines", laid_hawthorn_config_engines)], narrowed := true }
def ConfigAllsUptoSaid : Prop := configAllsUptoRow.holds Tryd.pinned (OpenSpec.upto configAllsSpec)

end Rows
end Go.Proofs.YtaoankajpknncaaDoor
