/- fit; at this seat's numbers. -/
import Derived.Test.YtdkakbddhckbnaaDoorOpE
namespace Go.Proofs.YtdkakbddhckbnaaDoor
open Go Go.RowKit
set_option linter.unusedSimpArgs false
set_option linter.unusedVariables false
attribute [local go_sem] Oper.semAt_some

theorem regsOf_fit : regsOf ⟨0, 0, 2, 1, 0, 2⟩ = [1, 2] := by decide
set_option maxRecDepth 100000 in
set_option maxHeartbeats 4000000 in
theorem ofit_true (w : World) (hT : TabOp w) : Calls Tryd.prog 8 #[] w fun e w' => e = .returned (.bool true) ∧ Below w.heap.size w w' := by
  have cR : Calls Tryd.prog 16 #[.agg #[.int .i64 0, .int .i64 0, .int .i64 2, .int .i64 1, .int .i64 0, .int .i64 2]] w _ := regs_any ⟨0, 0, 2, 1, 0, 2⟩ w hT
  have HT := Lib.hid hT
  clear hT
  go_enter Tryd.func8, Tryd.ntmps8
  go_wp2_with fail
  refine cR.mono ?_
  rintro e w1 ⟨v, rfl, hr, -, hB1⟩
  rw [regsOf_fit] at hr
  obtain ⟨a0, cap, rfl, hrow⟩ := hr.form
  obtain ⟨g, rfl, h0⟩ := hrow 0 1 rfl
  obtain ⟨g', e', h1⟩ := hrow 1 2 rfl
  cases e'
  have cN := name_any 3 w1 (HT.out.below hB1)
  rw [show (opOf 3).nm = nm3 by decide] at cN
  have HB := Lib.hid hB1
  clear hr hrow cR hB1 HT
  go_wp2_with fail
  refine cN.mono ?_
  rintro e w2 ⟨rfl, hB2⟩
  have hB3 := HB.out.trans (hB2.mono HB.out.size)
  have c12 := known_any 12 w2
  have c13 := known_any 13 w2
  rw [show inR 12 13 = true by decide] at c12
  rw [show inR 13 13 = false by decide] at c13
  clear HB cN hB2 h0 h1
  have HB := Lib.hid hB3
  clear hB3
  go_wp2_with fail
  refine c12.mono ?_
  rintro e w3 ⟨rfl, rfl⟩
  clear c12
  go_wp2_with fail
  refine c13.mono ?_
  rintro e w3 ⟨rfl, rfl⟩
  clear c13
  go_wp2_with fail
  go_ret
  exact ⟨rfl, HB.out⟩
end Go.Proofs.YtdkakbddhckbnaaDoor
