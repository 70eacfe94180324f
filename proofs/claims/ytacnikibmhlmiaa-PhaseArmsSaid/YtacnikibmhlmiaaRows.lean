/-
  No cell of these rows narrows 'for every input' (looked for: loops, veiled, ifaces, maps, wideKeys, modest, calm, conditions, laid).
  DERIVED. THE GIVEN ROWS OF THIS SEAT. 6 by the template 'for every input the law returns true; each argument reads behind the call as it read before'; 0 by the template 'total and deterministic' (their statements: YtacnikibmhlmiaaTotals.lean).
  GIVEN WITH THE SEED: the statements are not yours to turn. If you find one false, say at which input.
  Laid BY PROGRAM, IN A SANDBOX (cutbox-rows.mjs): the forced cells as the released guide's own fill.sh prints them over the translation e8ec10e32e4b37fe… (all of the seat's roots in one cut). By AI agents, Wed Nov 11 2026. No macro, syntax, notation, axiom, sorry.
-/
import Derived.Test.YtacnikibmhlmiaaChecked
import GoSem.Claim
import GoSem.ClaimJoined
import GoSem.ClaimMapViews
import Derived.JoinedTies
import Derived.KernelRfl
namespace Go.Proofs.Ytacnikibmhlmiaa
/- THE CELL 'sum', in the pinned program and in every row, IS THE sha256 OF THE DUMP (.gsa) THAT YtacnikibmhlmiaaProg.lean LOADS. Nothing in Lean hashes anything: it is a label: what it is worth is what the hold of that sum in a sandbox is worth. -/
noncomputable def Try.pinned : Pinned := { name := "ytacnikibmhlmiaa", sum := "e8ec10e32e4b37fe9ecab559fa99614d791d1a9dad6dfe98b2c089691f579533", checked := Try.checked }
namespace Rows
def none {H : Type} : Left H := { results := [], args := [] }

/-- 'hawthornlaw17.PhaseRuns': WHATEVER THE INPUT: true; the input reads as it did. -/
def phaseRunsSpec : ChangeSpec := { name := "phaseRuns", fn := fun _ => fun
  | [d] => { results := [.lit (.bool true)], args := [d] }
  | _ => none }
def phaseRunsRow : OpenClaim := { program := "ytacnikibmhlmiaa", sum := "e8ec10e32e4b37fe9ecab559fa99614d791d1a9dad6dfe98b2c089691f579533", func := "hawthorn/hawthornlaw17.PhaseRuns", spec := "phaseRuns", apart := false }
def PhaseRunsSaid : Prop := phaseRunsRow.holds Try.pinned (OpenSpec.ofChange phaseRunsSpec)

/-- ITS FALSE NEIGHBOUR: 'it returns false'. Refute it at one input. -/
def phaseRunsWrong : ChangeSpec := { name := "phaseRuns", fn := fun _ => fun
  | [d] => { results := [.lit (.bool false)], args := [d] }
  | _ => none }
def PhaseRunsWrongFalsely : Prop := phaseRunsRow.holds Try.pinned (OpenSpec.ofChange phaseRunsWrong)

/-- 'hawthornlaw17.PhaseArms': WHATEVER THE INPUT: true; the input reads as it did. -/
def phaseArmsSpec : ChangeSpec := { name := "phaseArms", fn := fun _ => fun
  | [d] => { results := [.lit (.bool true)], args := [d] }
  | _ => none }
def phaseArmsRow : OpenClaim := { program := "ytacnikibmhlmiaa", sum := "e8ec10e32e4b37fe9ecab559fa99614d791d1a9dad6dfe98b2c089691f579533", func := "hawthorn/hawthornlaw17.PhaseArms", spec := "phaseArms", apart := false }
def PhaseArmsSaid : Prop := phaseArmsRow.holds Try.pinned (OpenSpec.ofChange phaseArmsSpec)

/-- ITS FALSE NEIGHBOUR: 'it returns false'. Refute it at one input. -/
def phaseArmsWrong : ChangeSpec := { name := "phaseArms", fn := fun _ => fun
  | [d] => { results := [.lit (.bool false)], args := [d] }
  | _ => none }
def PhaseArmsWrongFalsely : Prop := phaseArmsRow.holds Try.pinned (OpenSpec.ofChange phaseArmsWrong)

/-- 'hawthornlaw17.PhaseRounds': WHATEVER THE INPUT: true; the input reads as it did. -/
def phaseRoundsSpec : ChangeSpec := { name := "phaseRounds", fn := fun _ => fun
  | [d1, d2] => { results := [.lit (.bool true)], args := [d1, d2] }
  | _ => none }
def phaseRoundsRow : OpenClaim := { program := "ytacnikibmhlmiaa", sum := "e8ec10e32e4b37fe9ecab559fa99614d791d1a9dad6dfe98b2c089691f579533", func := "hawthorn/hawthornlaw17.PhaseRounds", spec := "phaseRounds", apart := false }
def PhaseRoundsSaid : Prop := phaseRoundsRow.holds Try.pinned (OpenSpec.ofChange phaseRoundsSpec)

/-- ITS FALSE NEIGHBOUR: 'it returns false'. Refute it at one input. -/
def phaseRoundsWrong : ChangeSpec := { name := "phaseRounds", fn := fun _ => fun
  | [d1, d2] => { results := [.lit (.bool false)], args := [d1, d2] }
  | _ => none }
def PhaseRoundsWrongFalsely : Prop := phaseRoundsRow.holds Try.pinned (OpenSpec.ofChange phaseRoundsWrong)

/-- 'hawthornlaw17.PhaseLeaves': WHATEVER THE INPUT: true; the input reads as it did. -/
def phaseLeavesSpec : ChangeSpec := { name := "phaseLeaves", fn := fun _ => fun
  | [d1, d2, d3] => { results := [.lit (.bool true)], args := [d1, d2, d3] }
  | _ => none }
def phaseLeavesRow : OpenClaim := { program := "ytacnikibmhlmiaa", sum := "e8ec10e32e4b37fe9ecab559fa99614d791d1a9dad6dfe98b2c089691f579533", func := "hawthorn/hawthornlaw17.PhaseLeaves", spec := "phaseLeaves", apart := false }
def PhaseLeavesSaid : Prop := phaseLeavesRow.holds Try.pinned (OpenSpec.ofChange phaseLeavesSpec)

/-- ITS FALSE NEIGHBOUR: 'it returns false'. Refute it at one input. -/
def phaseLeavesWrong : ChangeSpec := { name := "phaseLeaves", fn := fun _ => fun
  | [d1, d2, d3] => { results := [.lit (.bool false)], args := [d1, d2, d3] }
  | _ => none }
def PhaseLeavesWrongFalsely : Prop := phaseLeavesRow.holds Try.pinned (OpenSpec.ofChange phaseLeavesWrong)

/-- 'hawthornlaw17.PhaseCycles': WHATEVER THE INPUT: true; the input reads as it did. -/
def phaseCyclesSpec : ChangeSpec := { name := "phaseCycles", fn := fun _ => fun
  | [d1, d2] => { results := [.lit (.bool true)], args := [d1, d2] }
  | _ => none }
def phaseCyclesRow : OpenClaim := { program := "ytacnikibmhlmiaa", sum := "e8ec10e32e4b37fe9ecab559fa99614d791d1a9dad6dfe98b2c089691f579533", func := "hawthorn/hawthornlaw17.PhaseCycles", spec := "phaseCycles", apart := false }
def PhaseCyclesSaid : Prop := phaseCyclesRow.holds Try.pinned (OpenSpec.ofChange phaseCyclesSpec)

/-- ITS FALSE NEIGHBOUR: 'it returns false'. Refute it at one input. -/
def phaseCyclesWrong : ChangeSpec := { name := "phaseCycles", fn := fun _ => fun
  | [d1, d2] => { results := [.lit (.bool false)], args := [d1, d2] }
  | _ => none }
def PhaseCyclesWrongFalsely : Prop := phaseCyclesRow.holds Try.pinned (OpenSpec.ofChange phaseCyclesWrong)

/-- 'hawthornlaw17.PhaseQuiet': WHATEVER THE INPUT: true; the input reads as it did. -/
def phaseQuietSpec : ChangeSpec := { name := "phaseQuiet", fn := fun _ => fun
  | [d1, d2] => { results := [.lit (.bool true)], args := [d1, d2] }
  | _ => none }
def phaseQuietRow : OpenClaim := { program := "ytacnikibmhlmiaa", sum := "e8ec10e32e4b37fe9ecab559fa99614d791d1a9dad6dfe98b2c089691f579533", func := "hawthorn/hawthornlaw17.PhaseQuiet", spec := "phaseQuiet", apart := false }
def PhaseQuietSaid : Prop := phaseQuietRow.holds Try.pinned (OpenSpec.ofChange phaseQuietSpec)

/-- ITS FALSE NEIGHBOUR: 'it returns false'. Refute it at one input. -/
def phaseQuietWrong : ChangeSpec := { name := "phaseQuiet", fn := fun _ => fun
  | [d1, d2] => { results := [.lit (.bool false)], args := [d1, d2] }
  | _ => none }
def PhaseQuietWrongFalsely : Prop := phaseQuietRow.holds Try.pinned (OpenSpec.ofChange phaseQuietWrong)

/- THE SECOND FORM. 'bulk': how many values and letters a reading holds, each counted each time it is reached (what is shared counts as often as it is met; a slice's spare places count too). A statement '..UptoSaid' is the law's where the arguments, and the package variables that the reading takes, are together of bulk at most 1048576: NARROWER than '..Said'. Prove '..Said' where nothing that the law and all that it calls make is longer than what came in: it says more and counts as full. Else prove '..UptoSaid'. A law counts once. -/
mutual
def uptoBulk {H : Type} : DataW H → Nat
  | .lit (.string bytes) => bytes.length + 1
  | .lit _ => 1
  | .nil => 1
  | .ptr d => uptoBulk d + 1
  | .slice elems spare => uptoBulkAll elems + uptoBulkAll spare + 1
  | .agg parts => uptoBulkAll parts + 1
  | .iface _ d => uptoBulk d + 1
  | .map entries => uptoBulkEntries entries + 1
  | .held _ => 1
def uptoBulkAll {H : Type} : List (DataW H) → Nat
  | [] => 0
  | d :: r => uptoBulk d + uptoBulkAll r
def uptoBulkEntries {H : Type} : List (Lit × DataW H) → Nat
  | [] => 0
  | x :: r => uptoBulkEntry x + uptoBulkEntries r
def uptoBulkEntry {H : Type} : Lit × DataW H → Nat
  | (.string bytes, d) => bytes.length + uptoBulk d + 1
  | (_, d) => uptoBulk d + 1
 end
def uptoSmall : (H : Type) → List (DataW H) → Bool := fun _ ds => decide (uptoBulkAll ds ≤ 1048576)
def OpenSpec.upto (s : _root_.Go.ChangeSpec) : _root_.Go.OpenSpec := { _root_.Go.OpenSpec.ofChange s with cond := some uptoSmall }

/-- 'hawthornlaw17.PhaseRuns', WHERE WHAT IT READS IS OF BULK AT MOST 1048576: true; the input reads as it did. -/
def phaseRunsUptoRow : OpenClaim := { program := "ytacnikibmhlmiaa", sum := "e8ec10e32e4b37fe9ecab559fa99614d791d1a9dad6dfe98b2c089691f579533", func := "hawthorn/hawthornlaw17.PhaseRuns", spec := "phaseRuns", apart := false, narrowed := true }
def PhaseRunsUptoSaid : Prop := phaseRunsUptoRow.holds Try.pinned (OpenSpec.upto phaseRunsSpec)

/-- 'hawthornlaw17.PhaseArms', WHERE WHAT IT READS IS OF BULK AT MOST 1048576: true; the input reads as it did. -/
def phaseArmsUptoRow : OpenClaim := { program := "ytacnikibmhlmiaa", sum := "e8ec10e32e4b37fe9ecab559fa99614d791d1a9dad6dfe98b2c089691f579533", func := "hawthorn/hawthornlaw17.PhaseArms", spec := "phaseArms", apart := false, narrowed := true }
def PhaseArmsUptoSaid : Prop := phaseArmsUptoRow.holds Try.pinned (OpenSpec.upto phaseArmsSpec)

/-- 'hawthornlaw17.PhaseRounds', WHERE WHAT IT READS IS OF BULK AT MOST 1048576: true; the input reads as it did. -/
def phaseRoundsUptoRow : OpenClaim := { program := "ytacnikibmhlmiaa", sum := "e8ec10e32e4b37fe9ecab559fa99614d791d1a9dad6dfe98b2c089691f579533", func := "hawthorn/hawthornlaw17.PhaseRounds", spec := "phaseRounds", apart := false, narrowed := true }
def PhaseRoundsUptoSaid : Prop := phaseRoundsUptoRow.holds Try.pinned (OpenSpec.upto phaseRoundsSpec)

/-- 'hawthornlaw17.PhaseLeaves', WHERE WHAT IT READS IS OF BULK AT MOST 1048576: true; the input reads as it did. -/
def phaseLeavesUptoRow : OpenClaim := { program := "ytacnikibmhlmiaa", sum := "e8ec10e32e4b37fe9ecab559fa99614d791d1a9dad6dfe98b2c089691f579533", func := "hawthorn/hawthornlaw17.PhaseLeaves", spec := "phaseLeaves", apart := false, narrowed := true }
def PhaseLeavesUptoSaid : Prop := phaseLeavesUptoRow.holds Try.pinned (OpenSpec.upto phaseLeavesSpec)

/-- 'hawthornlaw17.PhaseCycles', WHERE WHAT IT READS IS OF BULK AT MOST 1048576: true; the input reads as it did. -/
def phaseCyclesUptoRow : OpenClaim := { program := "ytacnikibmhlmiaa", sum := "e8ec10e32e4b37fe9ecab559fa99614d791d1a9dad6dfe98b2c089691f579533", func := "hawthorn/hawthornlaw17.PhaseCycles", spec := "phaseCycles", apart := false, narrowed := true }
def PhaseCyclesUptoSaid : Prop := phaseCyclesUptoRow.holds Try.pinned (OpenSpec.upto phaseCyclesSpec)

/-- 'hawthornlaw17.PhaseQuiet', WHERE WHAT IT READS IS OF BULK AT MOST 1048576: true; the input reads as it did. -/
def phaseQuietUptoRow : OpenClaim := { program := "ytacnikibmhlmiaa", sum := "e8ec10e32e4b37fe9ecab559fa99614d791d1a9dad6dfe98b2c089691f579533", func := "hawthorn/hawthornlaw17.PhaseQuiet", spec := "phaseQuiet", apart := false, narrowed := true }
def PhaseQuietUptoSaid : Prop := phaseQuietUptoRow.holds Try.pinned (OpenSpec.upto phaseQuietSpec)

end Rows
end Go.Proofs.Ytacnikibmhlmiaa
