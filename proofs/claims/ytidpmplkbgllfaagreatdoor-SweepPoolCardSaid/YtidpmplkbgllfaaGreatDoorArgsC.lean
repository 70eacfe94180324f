/- Slices of calls as arguments, at this seat's numbers. -/
import Derived.Test.YtidpmplkbgllfaaGreatDoorRows
import Derived.Test.YtidpmplkbgllfaaGreatDoorUb
import Derived.ProofKit
import Derived.Deep.SlicePairs
import Derived.Below
namespace Go.Proofs.YtidpmplkbgllfaaGreatDoor
open Go.ChangeShapes Go.WideShapes Go.ChangeAt Go.RowKit Go.Deep

theorem laidOut : laidOutB Tryz.prog = true := by kernel_rfl
theorem cellsIntC : Tryz.prog.cellsOf 3 = 1 := by kernel_rfl

/-- A slice of calls that came in: each of its two numbers. -/
def CallsAt (w : World) (a : Option Addr) (n : Nat) (K N : Nat → Int) : Prop :=
  ∀ k, k < n → ∃ b off, a = some ⟨b, off, none⟩ ∧ b < w.heap.size ∧ w.cell? ⟨b, off + k * 2, none⟩ = some (.int .i64 (K k)) ∧ w.cell? ⟨b, off + k * 2 + 1, none⟩ = some (.int .i64 (N k)) ∧ (Lit.int .i64 (K k)).wf = true ∧ (Lit.int .i64 (N k)).wf = true

def numV (v : Value) : Int := match v with | .int _ n => n | _ => 0

end Go.Proofs.YtidpmplkbgllfaaGreatDoor
