/- ConfigAlike, whole; at this seat's numbers. -/
import Derived.Test.YtaoankajpknncaaDoorCfL
import Derived.Test.YtaoankajpknncaaDoorCfM
import Derived.Test.YtaoankajpknncaaDoorCfN
namespace Go.Proofs.YtaoankajpknncaaDoor
open Go Go.RowKit
theorem calike_true (a b : Cfg) (w : World) (hT : NamesAt w) : Calls Tryd.prog 6 #[a.val, b.val] w fun e w' => e = .returned (.bool true) ∧ Below w.heap.size w w' := by
  cases e0 : (a.t == b.t)
  · exact calike_0 a b e0 w hT
  cases e1 : (a.r == b.r)
  · exact calike_1 a b e0 e1 w hT
  cases e2 : (a.s == b.s)
  · exact calike_2 a b e0 e1 e2 w hT
  cases e3 : (a.g == b.g)
  · exact calike_3 a b e0 e1 e2 e3 w hT
  cases e4 : (a.f == b.f)
  · exact calike_4 a b e0 e1 e2 e3 e4 w hT
  exact calike_5 a b e0 e1 e2 e3 e4 w hT
end Go.Proofs.YtaoankajpknncaaDoor
