/- SizeCells, as the frame asks for it. -/
import Derived.Test.YtbahichdoafliabDoorSizeE
namespace Go.Proofs.YtbahichdoafliabDoor
open Go Go.RowKit
theorem cells_law2 (c : Int) (_ : (Lit.int .i64 c).wf = true) (k : Int) (_ : (Lit.int .i64 k).wf = true) (o : Int) (wo : (Lit.int .i64 o).wf = true) (w : World) (hT : TableAt w) : Calls Tryd.prog 4 #[.int .i64 c, .int .i64 k, .int .i64 o] w fun e w' => e = .returned (.bool true) ∧ Below w.heap.size w w' :=
  cells_law c k o wo w hT
end Go.Proofs.YtbahichdoafliabDoor
