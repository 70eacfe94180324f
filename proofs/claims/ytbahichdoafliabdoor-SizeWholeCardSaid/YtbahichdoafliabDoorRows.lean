/-
  NARROWER THAN 'FOR EVERY INPUT', by the rows' own cells (each row's printed sentence says how): SizeClasses: laid · SizeCells: laid · SizeWhole: laid · SizeSteps: laid · SizeInner: laid · SizeNone: laid.
  DERIVED. THE GIVEN ROWS OF THIS SEAT. 6 by the template 'for every input the law returns true; each argument reads behind the call as it read before'; 0 by the template 'total and deterministic' (their statements: YtbahichdoafliabDoorTotals.lean).
  GIVEN WITH THE SEED: the statements are not yours to turn. If you find one false, say at which input.
  Laid BY PROGRAM, IN A SANDBOX (cutbox-rows.mjs): the forced cells as the released guide's own fill.sh prints them over the translation d06dcc7e2c44d3fd… (all of the seat's roots in one cut). By AI agents, Wed Nov 11 2026. No macro, syntax, notation, axiom, sorry.
-/
import Derived.Test.YtbahichdoafliabDoorChecked
import GoSem.Claim
import GoSem.ClaimJoined
import GoSem.ClaimMapViews
import Derived.JoinedTies
import Derived.KernelRfl
namespace Go.Proofs.YtbahichdoafliabDoor
/- THE CELL 'sum', in the pinned program and in every row, IS THE sha256 OF THE DUMP (.gsa) THAT YtbahichdoafliabDoorProg.lean LOADS. Nothing in Lean hashes anything: it is a label: what it is worth is what the hold of that sum in a sandbox is worth. -/
noncomputable def Tryd.pinned : Pinned := { name := "ytbahichdoafliabdoor", sum := "d06dcc7e2c44d3fdcef46850c4aac669b105c0cb3666ac2c18825ffa4398508d", checked := Tryd.checked }
namespace Rows
def none {H : Type} : Left H := { results := [], args := [] }

/- WHAT THE LISTED PACKAGE-LEVEL VARIABLES READ AS WHEN THE CALL BEGINS. Each datum BY PROGRAM (the guide's laid-datum.mjs) off the statement by which the dump's own 'gosem.cut.vars' lays the variable. In a bare row this is a premise. The card (YtbahichdoafliabDoorCards.lean) ties it to the program's text. -/
def laid_hawthorn_size_cellWords {H : Type} : DataW H := .agg [.lit (.int .i64 2), .lit (.int .i64 4), .lit (.int .i64 8)]

/-- 'hawthornlaw02.SizeClasses': WHATEVER THE INPUT: true; the input reads as it did. -/
def sizeClassesSpec : ChangeSpec := { name := "sizeClasses", fn := fun _ => fun
  | [d] => { results := [.lit (.bool true)], args := [d] }
  | _ => none }
def sizeClassesRow : OpenClaim := { program := "ytbahichdoafliabdoor", sum := "d06dcc7e2c44d3fdcef46850c4aac669b105c0cb3666ac2c18825ffa4398508d", func := "hawthorn/hawthornlaw02.SizeClasses", spec := "sizeClasses", named := ["hawthorn/size.cellWords"], apart := false, laid := [("hawthorn/size.cellWords", laid_hawthorn_size_cellWords)] }
def SizeClassesSaid : Prop := sizeClassesRow.holds Tryd.pinned (OpenSpec.ofChange sizeClassesSpec)

/-- ITS FALSE NEIGHBOUR: 'it returns false'. Refute it at one input. -/
def sizeClassesWrong : ChangeSpec := { name := "sizeClasses", fn := fun _ => fun
  | [d] => { results := [.lit (.bool false)], args := [d] }
  | _ => none }
def SizeClassesWrongFalsely : Prop := sizeClassesRow.holds Tryd.pinned (OpenSpec.ofChange sizeClassesWrong)

/-- 'hawthornlaw02.SizeCells': WHATEVER THE INPUT: true; the input reads as it did. -/
def sizeCellsSpec : ChangeSpec := { name := "sizeCells", fn := fun _ => fun
  | [d1, d2, d3] => { results := [.lit (.bool true)], args := [d1, d2, d3] }
  | _ => none }
def sizeCellsRow : OpenClaim := { program := "ytbahichdoafliabdoor", sum := "d06dcc7e2c44d3fdcef46850c4aac669b105c0cb3666ac2c18825ffa4398508d", func := "hawthorn/hawthornlaw02.SizeCells", spec := "sizeCells", named := ["hawthorn/size.cellWords"], apart := false, laid := [("hawthorn/size.cellWords", laid_hawthorn_size_cellWords)] }
def SizeCellsSaid : Prop := sizeCellsRow.holds Tryd.pinned (OpenSpec.ofChange sizeCellsSpec)

/-- ITS FALSE NEIGHBOUR: 'it returns false'. Refute it at one input. -/
def sizeCellsWrong : ChangeSpec := { name := "sizeCells", fn := fun _ => fun
  | [d1, d2, d3] => { results := [.lit (.bool false)], args := [d1, d2, d3] }
  | _ => none }
def SizeCellsWrongFalsely : Prop := sizeCellsRow.holds Tryd.pinned (OpenSpec.ofChange sizeCellsWrong)

/-- 'hawthornlaw02.SizeWhole': WHATEVER THE INPUT: true; the input reads as it did. -/
def sizeWholeSpec : ChangeSpec := { name := "sizeWhole", fn := fun _ => fun
  | [d] => { results := [.lit (.bool true)], args := [d] }
  | _ => none }
def sizeWholeRow : OpenClaim := { program := "ytbahichdoafliabdoor", sum := "d06dcc7e2c44d3fdcef46850c4aac669b105c0cb3666ac2c18825ffa4398508d", func := "hawthorn/hawthornlaw02.SizeWhole", spec := "sizeWhole", named := ["hawthorn/size.cellWords"], apart := false, laid := [("hawthorn/size.cellWords", laid_hawthorn_size_cellWords)] }
def SizeWholeSaid : Prop := sizeWholeRow.holds Tryd.pinned (OpenSpec.ofChange sizeWholeSpec)

/-- ITS FALSE NEIGHBOUR: 'it returns false'. Refute it at one input. -/
def sizeWholeWrong : ChangeSpec := { name := "sizeWhole", fn := fun _ => fun
  | [d] => { results := [.lit (.bool false)], args := [d] }
  | _ => none }
def SizeWholeWrongFalsely : Prop := sizeWholeRow.holds Tryd.pinned (OpenSpec.ofChange sizeWholeWrong)

/-- 'hawthornlaw02.SizeSteps': WHATEVER THE INPUT: true; the input reads as it did. -/
def sizeStepsSpec : ChangeSpec := { name := "sizeSteps", fn := fun _ => fun
  | [d1, d2] => { results := [.lit (.bool true)], args := [d1, d2] }
  | _ => none }
def sizeStepsRow : OpenClaim := { program := "ytbahichdoafliabdoor", sum := "d06dcc7e2c44d3fdcef46850c4aac669b105c0cb3666ac2c18825ffa4398508d", func := "hawthorn/hawthornlaw02.SizeSteps", spec := "sizeSteps", named := ["hawthorn/size.cellWords"], apart := false, laid := [("hawthorn/size.cellWords", laid_hawthorn_size_cellWords)] }
def SizeStepsSaid : Prop := sizeStepsRow.holds Tryd.pinned (OpenSpec.ofChange sizeStepsSpec)

/-- ITS FALSE NEIGHBOUR: 'it returns false'. Refute it at one input. -/
def sizeStepsWrong : ChangeSpec := { name := "sizeSteps", fn := fun _ => fun
  | [d1, d2] => { results := [.lit (.bool false)], args := [d1, d2] }
  | _ => none }
def SizeStepsWrongFalsely : Prop := sizeStepsRow.holds Tryd.pinned (OpenSpec.ofChange sizeStepsWrong)

/-- 'hawthornlaw02.SizeInner': WHATEVER THE INPUT: true; the input reads as it did. -/
def sizeInnerSpec : ChangeSpec := { name := "sizeInner", fn := fun _ => fun
  | [d1, d2, d3] => { results := [.lit (.bool true)], args := [d1, d2, d3] }
  | _ => none }
def sizeInnerRow : OpenClaim := { program := "ytbahichdoafliabdoor", sum := "d06dcc7e2c44d3fdcef46850c4aac669b105c0cb3666ac2c18825ffa4398508d", func := "hawthorn/hawthornlaw02.SizeInner", spec := "sizeInner", named := ["hawthorn/size.cellWords"], apart := false, laid := [("hawthorn/size.cellWords", laid_hawthorn_size_cellWords)] }
def SizeInnerSaid : Prop := sizeInnerRow.holds Tryd.pinned (OpenSpec.ofChange sizeInnerSpec)

/-- ITS FALSE NEIGHBOUR: 'it returns false'. Refute it at one input. -/
def sizeInnerWrong : ChangeSpec := { name := "sizeInner", fn := fun _ => fun
  | [d1, d2, d3] => { results := [.lit (.bool false)], args := [d1, d2, d3] }
  | _ => none }
def SizeInnerWrongFalsely : Prop := sizeInnerRow.holds Tryd.pinned (OpenSpec.ofChange sizeInnerWrong)

/-- 'hawthornlaw02.SizeNone': WHATEVER THE INPUT: true; the input reads as it did. -/
def sizeNoneSpec : ChangeSpec := { name := "sizeNone", fn := fun _ => fun
  | [d1, d2] => { results := [.lit (.bool true)], args := [d1, d2] }
  | _ => none }
def sizeNoneRow : OpenClaim := { program := "ytbahichdoafliabdoor", sum := "d06dcc7e2c44d3fdcef46850c4aac669b105c0cb3666ac2c18825ffa4398508d", func := "hawthorn/hawthornlaw02.SizeNone", spec := "sizeNone", named := ["hawthorn/size.cellWords"], apart := false, laid := [("hawthorn/size.cellWords", laid_hawthorn_size_cellWords)] }
def SizeNoneSaid : Prop := sizeNoneRow.holds Tryd.pinned (OpenSpec.ofChange sizeNoneSpec)

/-- ITS FALSE NEIGHBOUR: 'it returns false'. Refute it at one input. -/
def sizeNoneWrong : ChangeSpec := { name := "sizeNone", fn := fun _ => fun
  | [d1, d2] => { results := [.lit (.bool false)], args := [d1, d2] }
  | _ => none }
def SizeNoneWrongFalsely : Prop := sizeNoneRow.holds Tryd.pinned (OpenSpec.ofChange sizeNoneWrong)

/- THE SECOND FORM. 'bulk': how many values and letters a reading holds, each counted each time it is reached (what is shared counts as often as it is met; a slice's spare places count too). A statement '..UptoSaid' is the law's where the arguments, and the package variables that the reading takes, are together of bulk at most 1048576: NARROWER than '..Said'. Prove '..Said' where nothing that the law and all that it calls make is longer than what came in: it says more and counts as full. Else prove '..UptoSaid'. A law counts once. -/
mutual
def uptoBulk {H : Type} : DataW H → Nat
  | .lit (.string bytes) => bytes.length + 1
  | .lit _ => 1
  | .nil => 1
  | .ptr d => uptoBulk d + 1
  | .slice elems spare => uptoBulkAll elems + uptoBulkAll spare + 1
  | .agg parts => uptoBulkAll parts + 1
  | .iface _ d => uptoBulk d + 1
  | .map entries => uptoBulkEntries entries + 1
  | .held _ => 1
def uptoBulkAll {H : Type} : List (DataW H) → Nat
  | [] => 0
  | d :: r => uptoBulk d + uptoBulkAll r
def uptoBulkEntries {H : Type} : List (Lit × DataW H) → Nat
  | [] => 0
  | x :: r => uptoBulkEntry x + uptoBulkEntries r
def uptoBulkEntry {H : Type} : Lit × DataW H → Nat
  | (.string bytes, d) => bytes.length + uptoBulk d + 1
  | (_, d) => uptoBulk d + 1
 end
def uptoSmall : (H : Type) → List (DataW H) → Bool := fun _ ds => decide (uptoBulkAll ds ≤ 1048576)
def OpenSpec.upto (s : _root_.Go.ChangeSpec) : _root_.Go.OpenSpec := { _root_.Go.OpenSpec.ofChange s with cond := some uptoSmall }

/-- 'hawthornlaw02.SizeClasses', WHERE WHAT IT READS IS OF BULK AT MOST 1048576: true; the input reads as it did. -/
def sizeClassesUptoRow : OpenClaim := { program := "ytbahichdoafliabdoor", sum := "d06dcc7e2c44d3fdcef46850c4aac669b105c0cb3666ac2c18825ffa4398508d", func := "hawthorn/hawthornlaw02.SizeClasses", spec := "sizeClasses", named := ["hawthorn/size.cellWords"], apart := false, laid := [("hawthorn/size.cellWords", laid_hawthorn_size_cellWords)], narrowed := true }
def SizeClassesUptoSaid : Prop := sizeClassesUptoRow.holds Tryd.pinned (OpenSpec.upto sizeClassesSpec)

/-- 'hawthornlaw02.SizeCells', WHERE WHAT IT READS IS OF BULK AT MOST 1048576: true; the input reads as it did. -/
def sizeCellsUptoRow : OpenClaim := { program := "ytbahichdoafliabdoor", sum := "d06dcc7e2c44d3fdcef46850c4aac669b105c0cb3666ac2c18825ffa4398508d", func := "hawthorn/hawthornlaw02.SizeCells", spec := "sizeCells", named := ["hawthorn/size.cellWords"], apart := false, laid := [("hawthorn/size.cellWords", laid_hawthorn_size_cellWords)], narrowed := true }
def SizeCellsUptoSaid : Prop := sizeCellsUptoRow.holds Tryd.pinned (OpenSpec.upto sizeCellsSpec)

/-- 'hawthornlaw02.SizeWhole', WHERE WHAT IT READS IS OF BULK AT MOST 1048576: true; the input reads as it did. -/
def sizeWholeUptoRow : OpenClaim := { program := "ytbahichdoafliabdoor", sum := "d06dcc7e2c44d3fdcef46850c4aac669b105c0cb3666ac2c18825ffa4398508d", func := "hawthorn/hawthornlaw02.SizeWhole", spec := "sizeWhole", named := ["hawthorn/size.cellWords"], apart := false, laid := [("hawthorn/size.cellWords", laid_hawthorn_size_cellWords)], narrowed := true }
def SizeWholeUptoSaid : Prop := sizeWholeUptoRow.holds Tryd.pinned (OpenSpec.upto sizeWholeSpec)

/-- 'hawthornlaw02.SizeSteps', WHERE WHAT IT READS IS OF BULK AT MOST 1048576: true; the input reads as it did. -/
def sizeStepsUptoRow : OpenClaim := { program := "ytbahichdoafliabdoor", sum := "d06dcc7e2c44d3fdcef46850c4aac669b105c0cb3666ac2c18825ffa4398508d", func := "hawthorn/hawthornlaw02.SizeSteps", spec := "sizeSteps", named := ["hawthorn/size.cellWords"], apart := false, laid := [("hawthorn/size.cellWords", laid_hawthorn_size_cellWords)], narrowed := true }
def SizeStepsUptoSaid : Prop := sizeStepsUptoRow.holds Tryd.pinned (OpenSpec.upto sizeStepsSpec)

/-- 'hawthornlaw02.SizeInner', WHERE WHAT IT READS IS OF BULK AT MOST 1048576: true; the input reads as it did. -/
def sizeInnerUptoRow : OpenClaim := { program := "ytbahichdoafliabdoor", sum := "d06dcc7e2c44d3fdcef46850c4aac669b105c0cb3666ac2c18825ffa4398508d", func := "hawthorn/hawthornlaw02.SizeInner", spec := "sizeInner", named := ["hawthorn/size.cellWords"], apart := false, laid := [("hawthorn/size.cellWords", laid_hawthorn_size_cellWords)], narrowed := true }
def SizeInnerUptoSaid : Prop := sizeInnerUptoRow.holds Tryd.pinned (OpenSpec.upto sizeInnerSpec)

/-- 'hawthornlaw02.SizeNone', WHERE WHAT IT READS IS OF BULK AT MOST 1048576: true; the input reads as it did. -/
def sizeNoneUptoRow : OpenClaim := { program := "ytbahichdoafliabdoor", sum := "d06dcc7e2c44d3fdcef46850c4aac669b105c0cb3666ac2c18825ffa4398508d", func := "hawthorn/hawthornlaw02.SizeNone", spec := "sizeNone", named := ["hawthorn/size.cellWords"], apart := false, laid := [("hawthorn/size.cellWords", laid_hawthorn_size_cellWords)], narrowed := true }
def SizeNoneUptoSaid : Prop := sizeNoneUptoRow.holds Tryd.pinned (OpenSpec.upto sizeNoneSpec)

end Rows
end Go.Proofs.YtbahichdoafliabDoor
