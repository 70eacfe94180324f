/- fit; Made; at this seat's numbers. -/
import Derived.Test.YtaoankajpknncaaDoorCfG
namespace Go.Proofs.YtaoankajpknncaaDoor
open Go Go.RowKit
set_option linter.unusedSimpArgs false
set_option linter.unusedVariables false
attribute [local go_sem] Oper.semAt_some

def fitC : Cfg := ⟨0, false, 1, 1, 1, 0, 0, 0, 1, 0, 1⟩
def zeroC : Cfg := ⟨0, false, 0, 0, 0, 0, 0, 0, 0, 0, 0⟩
theorem fit_len : (allC fitC 8).length = 7 := by decide
set_option maxRecDepth 100000 in
set_option maxHeartbeats 4000000 in
theorem cfit_true (w : World) (hT : NamesAt w) : Calls Tryd.prog 8 #[] w fun e w' => e = .returned (.bool true) ∧ Below w.heap.size w w' := by
  have hB := (Below.refl w.heap.size w).alloc (Nat.le_refl _) (.cells fitC.arr 23)
  have hb := Blk.new w fitC.arr 23
  have c1 : Calls Tryd.prog 10 #[.agg #[.int .i64 0, .bool false, .int .i64 1, .int .i64 1, .int .i64 1, .int .i64 0, .int .i64 0, .int .i64 0, .int .i64 1, .int .i64 0, .int .i64 1]] (w.alloc (.cells #[.int .i64 0, .bool false, .int .i64 1, .int .i64 1, .int .i64 1, .int .i64 0, .int .i64 0, .int .i64 0, .int .i64 1, .int .i64 0, .int .i64 1] 23)) _ := check_any fitC _
  have HH := Lib.hid (And.intro hB hb)
  clear hB hb
  go_enter Tryd.func8, Tryd.ntmps8
  go_wp2_with fail
  refine c1.mono ?_
  rintro e1 w1 ⟨rfl, hB1⟩
  obtain ⟨hB, hb⟩ := HH.out
  have hB1' := hB.trans (hB1.mono hB.size)
  have hb1 := hb.turn (Turn.ofBelow hB1) (fun h => absurd hb.lt (Nat.not_lt.2 h))
  clear HH c1 hB hb hB1
  rw [show chkV fitC.may = 0 by decide]
  have c2 : Calls Tryd.prog 10 #[.agg #[.int .i64 0, .bool false, .int .i64 0, .int .i64 0, .int .i64 0, .int .i64 0, .int .i64 0, .int .i64 0, .int .i64 0, .int .i64 0, .int .i64 0]] w1 _ := check_any zeroC w1
  go_wp2_with fail
  refine c2.mono ?_
  rintro e1 w2 ⟨rfl, hB2⟩
  rw [show chkV zeroC.may = 11 by decide]
  have hb2 := hb1.turn (Turn.ofBelow hB2) (fun h => absurd hb1.lt (Nat.not_lt.2 h))
  have hB2' := hB1'.trans (hB2.mono hB1'.size)
  clear c2 hb1 hB1' hB2
  have c3 : Calls Tryd.prog 14 #[.agg #[.int .i64 0, .bool false, .int .i64 1, .int .i64 1, .int .i64 1, .int .i64 0, .int .i64 0, .int .i64 0, .int .i64 1, .int .i64 0, .int .i64 1]] w2 _ := all_any fitC w2
  have f0 := hb2.cell 0
  have f1 := hb2.cell 1
  have f2 := hb2.cell 2
  have f3 := hb2.cell 3
  have f4 := hb2.cell 4
  have f5 := hb2.cell 5
  have f6 := hb2.cell 6
  have f7 := hb2.cell 7
  have f8 := hb2.cell 8
  have f9 := hb2.cell 9
  have f10 := hb2.cell 10
  simp only [List.getElem?_toArray, List.getElem?_cons_succ, List.getElem?_cons_zero, fitC] at f0 f1 f2 f3 f4 f5 f6 f7 f8 f9 f10
  clear hb2
  go_wp2_with fail
  refine c3.mono ?_
  rintro e1 w3 ⟨v, rfl, hr, _, hB3⟩
  have hl := hr.lenRun
  rw [fit_len] at hl
  have hB3' := hB2'.trans (hB3.mono hB2'.size)
  have cN := name_any 2 w3 (hT.below hB3')
  clear hr c3 hB2' hB3 f0 f1 f2 f3 f4 f5 f6 f7 f8 f9 f10
  go_wp2_with fail
  refine cN.mono ?_
  rintro e1 w4 ⟨rfl, rfl⟩
  rw [show nameOf 2 = nm2 by decide]
  clear cN hl
  go_wp2_with fail
  go_ret
  exact ⟨rfl, hB3'⟩
end Go.Proofs.YtaoankajpknncaaDoor
