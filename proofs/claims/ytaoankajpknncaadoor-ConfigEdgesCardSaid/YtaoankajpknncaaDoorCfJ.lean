/- ConfigChecks, walked; at this seat's numbers. -/
import Derived.Test.YtaoankajpknncaaDoorCfB
import Derived.Test.YtaoankajpknncaaDoorCfH
import Derived.Test.YtaoankajpknncaaDoorCfI
namespace Go.Proofs.YtaoankajpknncaaDoor
open Go Go.RowKit
set_option linter.unusedSimpArgs false
set_option linter.unusedVariables false
attribute [local go_sem] Oper.semAt_some

/-- What is below a call, seen from further back. -/
theorem Below.on {B : Nat} {w w1 w2 : World} (h : Below B w w1) (hB : B ≤ w.heap.size) (h2 : Below w1.heap.size w1 w2) : Below B w w2 :=
  h.trans (h2.mono (Nat.le_trans hB h.size))

set_option maxRecDepth 100000 in
set_option maxHeartbeats 4000000 in
theorem checks_true (c : Cfg) (a0 a1 a2 a3 a4 a5 : Nat) (hl : a0 ≤ 255 ∧ a1 ≤ 255 ∧ a2 ≤ 255 ∧ a3 ≤ 255 ∧ a4 ≤ 255 ∧ a5 ≤ 255) (w : World) (hT : NamesAt w) :
    Calls Tryd.prog 3 #[c.val, .agg #[.int .u8 (a0 : Int), .int .u8 (a1 : Int), .int .u8 (a2 : Int), .int .u8 (a3 : Int), .int .u8 (a4 : Int), .int .u8 (a5 : Int)]] w fun e w' => e = .returned (.bool true) ∧ Below w.heap.size w w' := by
  have hB := ((Below.refl w.heap.size w).alloc (Nat.le_refl _) (.cells c.arr 23)).alloc (by simp) (.cells #[.int .u8 (a0 : Int), .int .u8 (a1 : Int), .int .u8 (a2 : Int), .int .u8 (a3 : Int), .int .u8 (a4 : Int), .int .u8 (a5 : Int)] 24)
  have hb := (Blk.new w c.arr 23).alloc (.cells #[.int .u8 (a0 : Int), .int .u8 (a1 : Int), .int .u8 (a2 : Int), .int .u8 (a3 : Int), .int .u8 (a4 : Int), .int .u8 (a5 : Int)] 24)
  have hl6 := Blk.new (w.alloc (.cells c.arr 23)) #[.int .u8 (a0 : Int), .int .u8 (a1 : Int), .int .u8 (a2 : Int), .int .u8 (a3 : Int), .int .u8 (a4 : Int), .int .u8 (a5 : Int)] 24
  rw [World.size_alloc] at hl6
  have c0 := cfit_true ((w.alloc (.cells c.arr 23)).alloc (.cells #[.int .u8 (a0 : Int), .int .u8 (a1 : Int), .int .u8 (a2 : Int), .int .u8 (a3 : Int), .int .u8 (a4 : Int), .int .u8 (a5 : Int)] 24)) (hT.below hB)
  have HH := Lib.hid (And.intro hB (And.intro hb hl6))
  clear hB hb hl6 hT
  go_enter Tryd.func3, Tryd.ntmps3
  go_wp2_with fail
  refine c0.mono ?_
  rintro e1 w1 ⟨rfl, hB1⟩
  obtain ⟨hB, hb, hl6⟩ := HH.out
  have hB1' := Below.on hB (Nat.le_refl _) hB1
  have hb1 := hb.turn (Turn.ofBelow hB1) (fun h => absurd hb.lt (Nat.not_lt.2 h))
  have hl1 := hl6.turn (Turn.ofBelow hB1) (fun h => absurd hl6.lt (Nat.not_lt.2 h))
  clear HH c0 hB hb hl6 hB1
  have f0 := hb1.cell 0
  have f1 := hb1.cell 1
  have f2 := hb1.cell 2
  have f3 := hb1.cell 3
  have f4 := hb1.cell 4
  have f5 := hb1.cell 5
  have f6 := hb1.cell 6
  have f7 := hb1.cell 7
  have f8 := hb1.cell 8
  have f9 := hb1.cell 9
  have f10 := hb1.cell 10
  simp only [List.getElem?_toArray, List.getElem?_cons_succ, List.getElem?_cons_zero] at f0 f1 f2 f3 f4 f5 f6 f7 f8 f9 f10
  have cM := may_any c w1
  have HH := Lib.hid (And.intro hB1' (And.intro hb1 hl1))
  clear hB1' hb1 hl1
  go_wp2_with fail
  refine cM.mono ?_
  rintro e1 w2 ⟨rfl, hB2⟩
  obtain ⟨hB, hb, hl6⟩ := HH.out
  have hB2' := Below.on hB (Nat.le_refl _) hB2
  have hb2 := hb.turn (Turn.ofBelow hB2) (fun h => absurd hb.lt (Nat.not_lt.2 h))
  have hl2 := hl6.turn (Turn.ofBelow hB2) (fun h => absurd hl6.lt (Nat.not_lt.2 h))
  clear HH cM hB hb hl6 hB2 f0 f1 f2 f3 f4 f5 f6 f7 f8 f9 f10
  have cC := check_any c w2
  have f0 := hb2.cell 0
  have f1 := hb2.cell 1
  have f2 := hb2.cell 2
  have f3 := hb2.cell 3
  have f4 := hb2.cell 4
  have f5 := hb2.cell 5
  have f6 := hb2.cell 6
  have f7 := hb2.cell 7
  have f8 := hb2.cell 8
  have f9 := hb2.cell 9
  have f10 := hb2.cell 10
  simp only [List.getElem?_toArray, List.getElem?_cons_succ, List.getElem?_cons_zero] at f0 f1 f2 f3 f4 f5 f6 f7 f8 f9 f10
  have HH := Lib.hid (And.intro hB2' (And.intro hb2 hl2))
  clear hB2' hb2 hl2
  cases hq : c.may
  · rw [hq, show chkV false = 11 from rfl] at cC
    clear hq
    go_wp2_with fail
    refine cC.mono ?_
    rintro e1 w3 ⟨rfl, hB3⟩
    obtain ⟨hB, hb, hl6⟩ := HH.out
    have hB3' := Below.on hB (Nat.le_refl _) hB3
    have hl3 := hl6.turn (Turn.ofBelow hB3) (fun h => absurd hl6.lt (Nat.not_lt.2 h))
    clear HH cC hB hb hl6 hB3 f0 f1 f2 f3 f4 f5 f6 f7 f8 f9 f10
    have g0 := hl3.cell 0
    have g1 := hl3.cell 1
    have g2 := hl3.cell 2
    have g3 := hl3.cell 3
    have g4 := hl3.cell 4
    have g5 := hl3.cell 5
    simp only [List.getElem?_toArray, List.getElem?_cons_succ, List.getElem?_cons_zero] at g0 g1 g2 g3 g4 g5
    have cA := made_any a0 a1 a2 a3 a4 a5 hl w3
    have HH := Lib.hid (And.intro hB3' hl3)
    clear hB3' hl3
    go_wp2_with fail
    refine cA.mono ?_
    rintro e1 w4 ⟨m, rfl, hm, hB4⟩
    obtain ⟨hB, hl6⟩ := HH.out
    have hB4' := Below.on hB (Nat.le_refl _) hB4
    have hl4 := hl6.turn (Turn.ofBelow hB4) (fun h => absurd hl6.lt (Nat.not_lt.2 h))
    clear HH cA hB hl6 hB4 g0 g1 g2 g3 g4 g5
    have cC := check_any m w4
    rw [hm, show chkV true = 0 from rfl] at cC
    have HH := Lib.hid (And.intro hB4' hl4)
    clear hB4' hl4 hm
    go_wp2_with fail
    refine cC.mono ?_
    rintro e1 w5 ⟨rfl, hB5⟩
    obtain ⟨hB, hl6⟩ := HH.out
    have hB5' := Below.on hB (Nat.le_refl _) hB5
    have hl5 := hl6.turn (Turn.ofBelow hB5) (fun h => absurd hl6.lt (Nat.not_lt.2 h))
    clear HH cC hB hl6 hB5
    have g0 := hl5.cell 0
    have g1 := hl5.cell 1
    have g2 := hl5.cell 2
    have g3 := hl5.cell 3
    have g4 := hl5.cell 4
    have g5 := hl5.cell 5
    simp only [List.getElem?_toArray, List.getElem?_cons_succ, List.getElem?_cons_zero] at g0 g1 g2 g3 g4 g5
    have cA := made_any a0 a1 a2 a3 a4 a5 hl w5
    have HH := Lib.hid hB5'
    clear hB5' hl5
    go_wp2_with fail
    refine cA.mono ?_
    rintro e1 w6 ⟨m2, rfl, hm, hB6⟩
    have hB6' := Below.on HH.out (Nat.le_refl _) hB6
    clear HH cA hB6 g0 g1 g2 g3 g4 g5
    have cM := may_any m2 w6
    rw [hm] at cM
    have HH := Lib.hid hB6'
    clear hB6' hm
    go_wp2_with fail
    refine cM.mono ?_
    rintro e1 w7 ⟨rfl, hB7⟩
    have hB7' := Below.on HH.out (Nat.le_refl _) hB7
    clear HH cM hB7
    have HH := Lib.hid hB7'
    clear hB7'
    go_wp2_with fail
    go_ret
    exact ⟨rfl, HH.out⟩
  · rw [hq, show chkV true = 0 from rfl] at cC
    clear hq
    go_wp2_with fail
    refine cC.mono ?_
    rintro e1 w3 ⟨rfl, hB3⟩
    obtain ⟨hB, hb, hl6⟩ := HH.out
    have hB3' := Below.on hB (Nat.le_refl _) hB3
    have hl3 := hl6.turn (Turn.ofBelow hB3) (fun h => absurd hl6.lt (Nat.not_lt.2 h))
    clear HH cC hB hb hl6 hB3 f0 f1 f2 f3 f4 f5 f6 f7 f8 f9 f10
    have g0 := hl3.cell 0
    have g1 := hl3.cell 1
    have g2 := hl3.cell 2
    have g3 := hl3.cell 3
    have g4 := hl3.cell 4
    have g5 := hl3.cell 5
    simp only [List.getElem?_toArray, List.getElem?_cons_succ, List.getElem?_cons_zero] at g0 g1 g2 g3 g4 g5
    have cA := made_any a0 a1 a2 a3 a4 a5 hl w3
    have HH := Lib.hid (And.intro hB3' hl3)
    clear hB3' hl3
    go_wp2_with fail
    refine cA.mono ?_
    rintro e1 w4 ⟨m, rfl, hm, hB4⟩
    obtain ⟨hB, hl6⟩ := HH.out
    have hB4' := Below.on hB (Nat.le_refl _) hB4
    have hl4 := hl6.turn (Turn.ofBelow hB4) (fun h => absurd hl6.lt (Nat.not_lt.2 h))
    clear HH cA hB hl6 hB4 g0 g1 g2 g3 g4 g5
    have cC := check_any m w4
    rw [hm, show chkV true = 0 from rfl] at cC
    have HH := Lib.hid (And.intro hB4' hl4)
    clear hB4' hl4 hm
    go_wp2_with fail
    refine cC.mono ?_
    rintro e1 w5 ⟨rfl, hB5⟩
    obtain ⟨hB, hl6⟩ := HH.out
    have hB5' := Below.on hB (Nat.le_refl _) hB5
    have hl5 := hl6.turn (Turn.ofBelow hB5) (fun h => absurd hl6.lt (Nat.not_lt.2 h))
    clear HH cC hB hl6 hB5
    have g0 := hl5.cell 0
    have g1 := hl5.cell 1
    have g2 := hl5.cell 2
    have g3 := hl5.cell 3
    have g4 := hl5.cell 4
    have g5 := hl5.cell 5
    simp only [List.getElem?_toArray, List.getElem?_cons_succ, List.getElem?_cons_zero] at g0 g1 g2 g3 g4 g5
    have cA := made_any a0 a1 a2 a3 a4 a5 hl w5
    have HH := Lib.hid hB5'
    clear hB5' hl5
    go_wp2_with fail
    refine cA.mono ?_
    rintro e1 w6 ⟨m2, rfl, hm, hB6⟩
    have hB6' := Below.on HH.out (Nat.le_refl _) hB6
    clear HH cA hB6 g0 g1 g2 g3 g4 g5
    have cM := may_any m2 w6
    rw [hm] at cM
    have HH := Lib.hid hB6'
    clear hB6' hm
    go_wp2_with fail
    refine cM.mono ?_
    rintro e1 w7 ⟨rfl, hB7⟩
    have hB7' := Below.on HH.out (Nat.le_refl _) hB7
    clear HH cM hB7
    have HH := Lib.hid hB7'
    clear hB7'
    go_wp2_with fail
    go_ret
    exact ⟨rfl, HH.out⟩
end Go.Proofs.YtaoankajpknncaaDoor
