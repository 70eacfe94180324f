/- What the seat's one listed variable gives, at this seat's numbers: the classes' words; and a heap that has it. -/
import Derived.Test.YtidpmplkbgllfaaGreatDoorRows
import Derived.Test.YtidpmplkbgllfaaGreatDoorUb
import Derived.Lib.LaidTab
import Derived.LaidMore
import Derived.MakeChecks
import Derived.ProofKit
namespace Go.Proofs.YtidpmplkbgllfaaGreatDoor
open Go Go.RowKit

theorem own : ownKnob Tryz.prog.godebug = none := by kernel_rfl

abbrev theLaid : List (String × DataW Unit) := [("hawthorn/size.cellWords", Rows.laid_hawthorn_size_cellWords)]

theorem tab_data : (theLaid : List (String × DataW Unit)) = [("hawthorn/size.cellWords", Lib.tabData .i64 [2, 4, 8])] := by kernel_rfl

theorem laid_tab {W : World} (h : laidMetH Tryz.prog theLaid W) : TableAt W := by
  rw [MakeChecks.laidMetH_plain _ _ _ (by kernel_rfl), tab_data] at h
  have ht := Lib.tabIs_of_head (g := 0) (t := 126) (e := 3) (n := 3) (by kernel_rfl) (by kernel_rfl) Tryz.underlying126 Tryz.underlying3 (by kernel_rfl) (by kernel_rfl) h
  unfold Lib.TabIs World.var? at ht
  rw [show Tryz.prog.globalNamed "hawthorn/size.cellWords" = some 0 by kernel_rfl] at ht
  simp only [Option.bind_some] at ht
  split at ht
  · rename_i cs T fr hh
    cases ht
    exact ⟨T, fr, hh⟩
  · cases ht

/-- The door's own heap meets the condition. -/
theorem door_met (os : Os) (args : Array Value) : laidMetH Tryz.prog theLaid ((World.doorLaid Tryz.prog 400 os).forCall (fun _ _ => 0) ⟨#[], args, []⟩).memory :=
  laidMetH_of_parts3 (fuel := 8) (laidMet_of_run' 8 (by kernel_rfl) (by kernel_rfl)) (by kernel_rfl) (by kernel_rfl)
end Go.Proofs.YtidpmplkbgllfaaGreatDoor
