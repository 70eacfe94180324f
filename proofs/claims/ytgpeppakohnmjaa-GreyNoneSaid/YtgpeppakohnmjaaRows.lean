/-
  No cell of these rows narrows 'for every input' (looked for: loops, veiled, ifaces, maps, wideKeys, modest, calm, conditions, laid).
  DERIVED. THE GIVEN ROWS OF THIS SEAT. 4 by the template 'for every input the law returns true; each argument reads behind the call as it read before'; 0 by the template 'total and deterministic' (their statements: YtgpeppakohnmjaaTotals.lean).
  GIVEN WITH THE SEED: the statements are not yours to turn. If you find one false, say at which input.
  Laid BY PROGRAM, IN A SANDBOX (cutbox-rows.mjs): the forced cells as the released guide's own fill.sh prints them over the translation afa625d5baa7abb2… (all of the seat's roots in one cut). By AI agents, Wed Nov 11 2026. No macro, syntax, notation, axiom, sorry.
-/
import Derived.Test.YtgpeppakohnmjaaChecked
import GoSem.Claim
import GoSem.ClaimJoined
import GoSem.ClaimMapViews
import Derived.JoinedTies
import Derived.KernelRfl
namespace Go.Proofs.Ytgpeppakohnmjaa
/- THE CELL 'sum', in the pinned program and in every row, IS THE sha256 OF THE DUMP (.gsa) THAT YtgpeppakohnmjaaProg.lean LOADS. Nothing in Lean hashes anything: it is a label: what it is worth is what the hold of that sum in a sandbox is worth. -/
noncomputable def Try.pinned : Pinned := { name := "ytgpeppakohnmjaa", sum := "afa625d5baa7abb26a43d741ee737af46905a9920a55354661f6d0dbd3fcea03", checked := Try.checked }
namespace Rows
def none {H : Type} : Left H := { results := [], args := [] }

/-- 'hawthornlaw10.GreyRuns': WHATEVER THE INPUT: true; the input reads as it did. -/
def greyRunsSpec : ChangeSpec := { name := "greyRuns", fn := fun _ => fun
  | [d1, d2] => { results := [.lit (.bool true)], args := [d1, d2] }
  | _ => none }
def greyRunsRow : OpenClaim := { program := "ytgpeppakohnmjaa", sum := "afa625d5baa7abb26a43d741ee737af46905a9920a55354661f6d0dbd3fcea03", func := "hawthorn/hawthornlaw10.GreyRuns", spec := "greyRuns", apart := false }
def GreyRunsSaid : Prop := greyRunsRow.holds Try.pinned (OpenSpec.ofChange greyRunsSpec)

/-- ITS FALSE NEIGHBOUR: 'it returns false'. Refute it at one input. -/
def greyRunsWrong : ChangeSpec := { name := "greyRuns", fn := fun _ => fun
  | [d1, d2] => { results := [.lit (.bool false)], args := [d1, d2] }
  | _ => none }
def GreyRunsWrongFalsely : Prop := greyRunsRow.holds Try.pinned (OpenSpec.ofChange greyRunsWrong)

/-- 'hawthornlaw10.GreyTurns': WHATEVER THE INPUT: true; the input reads as it did. -/
def greyTurnsSpec : ChangeSpec := { name := "greyTurns", fn := fun _ => fun
  | [d1, d2] => { results := [.lit (.bool true)], args := [d1, d2] }
  | _ => none }
def greyTurnsRow : OpenClaim := { program := "ytgpeppakohnmjaa", sum := "afa625d5baa7abb26a43d741ee737af46905a9920a55354661f6d0dbd3fcea03", func := "hawthorn/hawthornlaw10.GreyTurns", spec := "greyTurns", apart := false }
def GreyTurnsSaid : Prop := greyTurnsRow.holds Try.pinned (OpenSpec.ofChange greyTurnsSpec)

/-- ITS FALSE NEIGHBOUR: 'it returns false'. Refute it at one input. -/
def greyTurnsWrong : ChangeSpec := { name := "greyTurns", fn := fun _ => fun
  | [d1, d2] => { results := [.lit (.bool false)], args := [d1, d2] }
  | _ => none }
def GreyTurnsWrongFalsely : Prop := greyTurnsRow.holds Try.pinned (OpenSpec.ofChange greyTurnsWrong)

/-- 'hawthornlaw10.GreyAgain': WHATEVER THE INPUT: true; the input reads as it did. -/
def greyAgainSpec : ChangeSpec := { name := "greyAgain", fn := fun _ => fun
  | [d1, d2] => { results := [.lit (.bool true)], args := [d1, d2] }
  | _ => none }
def greyAgainRow : OpenClaim := { program := "ytgpeppakohnmjaa", sum := "afa625d5baa7abb26a43d741ee737af46905a9920a55354661f6d0dbd3fcea03", func := "hawthorn/hawthornlaw10.GreyAgain", spec := "greyAgain", apart := false }
def GreyAgainSaid : Prop := greyAgainRow.holds Try.pinned (OpenSpec.ofChange greyAgainSpec)

/-- ITS FALSE NEIGHBOUR: 'it returns false'. Refute it at one input. -/
def greyAgainWrong : ChangeSpec := { name := "greyAgain", fn := fun _ => fun
  | [d1, d2] => { results := [.lit (.bool false)], args := [d1, d2] }
  | _ => none }
def GreyAgainWrongFalsely : Prop := greyAgainRow.holds Try.pinned (OpenSpec.ofChange greyAgainWrong)

/-- 'hawthornlaw10.GreyNone': WHATEVER THE INPUT: true; the input reads as it did. -/
def greyNoneSpec : ChangeSpec := { name := "greyNone", fn := fun _ => fun
  | [d1, d2] => { results := [.lit (.bool true)], args := [d1, d2] }
  | _ => none }
def greyNoneRow : OpenClaim := { program := "ytgpeppakohnmjaa", sum := "afa625d5baa7abb26a43d741ee737af46905a9920a55354661f6d0dbd3fcea03", func := "hawthorn/hawthornlaw10.GreyNone", spec := "greyNone", apart := false }
def GreyNoneSaid : Prop := greyNoneRow.holds Try.pinned (OpenSpec.ofChange greyNoneSpec)

/-- ITS FALSE NEIGHBOUR: 'it returns false'. Refute it at one input. -/
def greyNoneWrong : ChangeSpec := { name := "greyNone", fn := fun _ => fun
  | [d1, d2] => { results := [.lit (.bool false)], args := [d1, d2] }
  | _ => none }
def GreyNoneWrongFalsely : Prop := greyNoneRow.holds Try.pinned (OpenSpec.ofChange greyNoneWrong)

/- THE SECOND FORM. 'bulk': how many values and letters a reading holds, each counted each time it is reached (what is shared counts as often as it is met; a slice's spare places count too). A statement '..UptoSaid' is the law's where the arguments, and the package variables that the reading takes, are together of bulk at most 1048576: NARROWER than '..Said'. Prove '..Said' where nothing that the law and all that it calls make is longer than what came in: it says more and counts as full. Else prove '..UptoSaid'. A law counts once. -/
mutual
def uptoBulk {H : Type} : DataW H → Nat
  | .lit (.string bytes) => bytes.length + 1
  | .lit _ => 1
  | .nil => 1
  | .ptr d => uptoBulk d + 1
  | .slice elems spare => uptoBulkAll elems + uptoBulkAll spare + 1
  | .agg parts => uptoBulkAll parts + 1
  | .iface _ d => uptoBulk d + 1
  | .map entries => uptoBulkEntries entries + 1
  | .held _ => 1
def uptoBulkAll {H : Type} : List (DataW H) → Nat
  | [] => 0
  | d :: r => uptoBulk d + uptoBulkAll r
def uptoBulkEntries {H : Type} : List (Lit × DataW H) → Nat
  | [] => 0
  | x :: r => uptoBulkEntry x + uptoBulkEntries r
def uptoBulkEntry {H : Type} : Lit × DataW H → Nat
  | (.string bytes, d) => bytes.length + uptoBulk d + 1
  | (_, d) => uptoBulk d + 1
 end
def uptoSmall : (H : Type) → List (DataW H) → Bool := fun _ ds => decide (uptoBulkAll ds ≤ 1048576)
def OpenSpec.upto (s : _root_.Go.ChangeSpec) : _root_.Go.OpenSpec := { _root_.Go.OpenSpec.ofChange s with cond := some uptoSmall }

/-- 'hawthornlaw10.GreyRuns', WHERE WHAT IT READS IS OF BULK AT MOST 1048576: true; the input reads as it did. -/
def greyRunsUptoRow : OpenClaim := { program := "ytgpeppakohnmjaa", sum := "afa625d5baa7abb26a43d741ee737af46905a9920a55354661f6d0dbd3fcea03", func := "hawthorn/hawthornlaw10.GreyRuns", spec := "greyRuns", apart := false, narrowed := true }
def GreyRunsUptoSaid : Prop := greyRunsUptoRow.holds Try.pinned (OpenSpec.upto greyRunsSpec)

/-- 'hawthornlaw10.GreyTurns', WHERE WHAT IT READS IS OF BULK AT MOST 1048576: true; the input reads as it did. -/
def greyTurnsUptoRow : OpenClaim := { program := "ytgpeppakohnmjaa", sum := "afa625d5baa7abb26a43d741ee737af46905a9920a55354661f6d0dbd3fcea03", func := "hawthorn/hawthornlaw10.GreyTurns", spec := "greyTurns", apart := false, narrowed := true }
def GreyTurnsUptoSaid : Prop := greyTurnsUptoRow.holds Try.pinned (OpenSpec.upto greyTurnsSpec)

/-- 'hawthornlaw10.GreyAgain', WHERE WHAT IT READS IS OF BULK AT MOST 1048576: true; the input reads as it did. -/
def greyAgainUptoRow : OpenClaim := { program := "ytgpeppakohnmjaa", sum := "afa625d5baa7abb26a43d741ee737af46905a9920a55354661f6d0dbd3fcea03", func := "hawthorn/hawthornlaw10.GreyAgain", spec := "greyAgain", apart := false, narrowed := true }
def GreyAgainUptoSaid : Prop := greyAgainUptoRow.holds Try.pinned (OpenSpec.upto greyAgainSpec)

/-- 'hawthornlaw10.GreyNone', WHERE WHAT IT READS IS OF BULK AT MOST 1048576: true; the input reads as it did. -/
def greyNoneUptoRow : OpenClaim := { program := "ytgpeppakohnmjaa", sum := "afa625d5baa7abb26a43d741ee737af46905a9920a55354661f6d0dbd3fcea03", func := "hawthorn/hawthornlaw10.GreyNone", spec := "greyNone", apart := false, narrowed := true }
def GreyNoneUptoSaid : Prop := greyNoneUptoRow.holds Try.pinned (OpenSpec.upto greyNoneSpec)

end Rows
end Go.Proofs.Ytgpeppakohnmjaa
