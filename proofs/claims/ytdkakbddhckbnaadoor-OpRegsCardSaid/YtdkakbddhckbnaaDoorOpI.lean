/- OpLimits, walked; at this seat's numbers. -/
import Derived.Test.YtdkakbddhckbnaaDoorOpF
import Derived.Test.YtdkakbddhckbnaaDoorOpG
import Derived.Test.YtdkakbddhckbnaaDoorCfI
namespace Go.Proofs.YtdkakbddhckbnaaDoor
open Go Go.RowKit
set_option linter.unusedSimpArgs false
set_option linter.unusedVariables false
attribute [local go_sem] Oper.semAt_some

theorem may_r {m : Cfg} (h : m.may = true) : 1 ≤ m.r ∧ m.r ≤ 8 := by
  simp only [Cfg.may, Bool.and_eq_true, inB_iff] at h
  omega
/-- Check of an item, its answer known. -/
def ChkIs (m : Cfg) (x : It) (r : Int) : Prop := ∀ W, TabOp W → Calls Tryd.prog 10 #[m.val, .agg #[.int .i64 x.k, .int .i64 x.t, .int .i64 x.o, .int .i64 x.a, .int .i64 x.b, .int .i64 x.c]] W fun e w' => e = .returned (.int .i64 r) ∧ Below W.heap.size W w'
theorem chkIs {m : Cfg} {x : It} {r : Int} (h : chk m x = r) : ChkIs m x r := fun W hT => h ▸ check_any m x W hT

set_option maxRecDepth 100000 in
set_option maxHeartbeats 8000000 in
theorem limits_true (a0 a1 a2 a3 a4 a5 : Nat) (hl : a0 ≤ 255 ∧ a1 ≤ 255 ∧ a2 ≤ 255 ∧ a3 ≤ 255 ∧ a4 ≤ 255 ∧ a5 ≤ 255) (n : Int) (w : World) (hT : TabOp w) :
    Calls Tryd.prog 6 #[.agg #[.int .u8 (a0 : Int), .int .u8 (a1 : Int), .int .u8 (a2 : Int), .int .u8 (a3 : Int), .int .u8 (a4 : Int), .int .u8 (a5 : Int)], .int .i64 n] w fun e w' => e = .returned (.bool true) ∧ Below w.heap.size w w' := by
  have hB := below_new w (.cells #[.int .u8 (a0 : Int), .int .u8 (a1 : Int), .int .u8 (a2 : Int), .int .u8 (a3 : Int), .int .u8 (a4 : Int), .int .u8 (a5 : Int)] 22)
  have hl6 := Blk.new w #[.int .u8 (a0 : Int), .int .u8 (a1 : Int), .int .u8 (a2 : Int), .int .u8 (a3 : Int), .int .u8 (a4 : Int), .int .u8 (a5 : Int)] 22
  have c0 := ofit_true _ (hT.below hB)
  have HH := Lib.hid (And.intro hB (And.intro hl6 hT))
  clear hB hl6 hT
  go_enter Tryd.func6, Tryd.ntmps6
  go_wp2_with fail
  refine c0.mono ?_
  rintro e1 w1 ⟨rfl, hB1⟩
  obtain ⟨hB, hl6, hT⟩ := HH.out
  have hB1' := Below.on hB (Nat.le_refl _) hB1
  have hl1 := hl6.on hB1
  clear HH c0 hB hl6 hB1
  have g0 := hl1.cell 0
  have g1 := hl1.cell 1
  have g2 := hl1.cell 2
  have g3 := hl1.cell 3
  have g4 := hl1.cell 4
  have g5 := hl1.cell 5
  simp only [List.getElem?_toArray, List.getElem?_cons_succ, List.getElem?_cons_zero] at g0 g1 g2 g3 g4 g5
  have cM := made_any a0 a1 a2 a3 a4 a5 hl w1
  have HH := Lib.hid (And.intro hB1' hT)
  clear hB1' hl1 hT
  go_wp2_with fail
  refine cM.mono ?_
  rintro e1 w2 ⟨m, rfl, hm, hB2⟩
  obtain ⟨hr1, hr2⟩ := may_r hm
  obtain ⟨hB, hT⟩ := HH.out
  have hB2' := Below.on hB (Nat.le_refl _) hB2
  have hm2 := Blk.new w2 m.arr 27
  have hB3 := hB2'.alloc hB2'.size (.cells m.arr 27)
  clear HH cM hB hB2 hB2' g0 g1 g2 g3 g4 g5
  have c4 : ChkIs m ⟨0, 0, 2, 0, n, 0⟩ 0 := chkIs (by rw [chk_2, inR_iff.2 ⟨by omega, by omega⟩]; rfl)
  have c5 : ChkIs m ⟨0, 0, 1, 0, 0, n⟩ 0 := chkIs (by rw [chk_1, inR_iff.2 ⟨by omega, by omega⟩]; rfl)
  have hin : inR 0 m.r = true := inR_iff.2 ⟨by omega, by omega⟩
  by_cases h6 : n < 0
  · skip
    have d1 : ChkIs m ⟨0, 0, 0, 0, n, 0⟩ 6 := chkIs (by rw [chk_0, hin, decide_eq_true h6]; rfl)
    have d2 : ChkIs m ⟨0, 0, 11, 0, n, 0⟩ 5 := chkIs (by rw [chk_11, hin, inR_not.2 (.inl h6)]; rfl)
    have d3 : ChkIs m ⟨0, 0, 12, 0, n, 0⟩ 5 := chkIs (by rw [chk_12, hin, inR_not.2 (.inl h6)]; rfl)
    have d4 := c4
    have d5 := c5
    have cK := d1 _ (hT.below hB3)
    clear d1 c4 c5 hin hm hr1 hr2
    have f0 := hm2.cell 0
    have f1 := hm2.cell 1
    have f2 := hm2.cell 2
    have f3 := hm2.cell 3
    have f4 := hm2.cell 4
    have f5 := hm2.cell 5
    have f6 := hm2.cell 6
    have f7 := hm2.cell 7
    have f8 := hm2.cell 8
    have f9 := hm2.cell 9
    have f10 := hm2.cell 10
    simp only [List.getElem?_toArray, List.getElem?_cons_succ, List.getElem?_cons_zero] at f0 f1 f2 f3 f4 f5 f6 f7 f8 f9 f10
    have HH := Lib.hid (And.intro hB3 (And.intro hm2 hT))
    clear hB3 hm2 hT
    go_wp2_with fail
    refine cK.mono ?_
    rintro e1 w4 ⟨rfl, hB1⟩
    obtain ⟨hB, hm2, hT⟩ := HH.out
    have hB2 := Below.on hB (Nat.le_refl _) hB1
    have hm3 := hm2.on hB1
    clear HH cK hB hm2 hB1 f0 f1 f2 f3 f4 f5 f6 f7 f8 f9 f10
    have f0 := hm3.cell 0
    have f1 := hm3.cell 1
    have f2 := hm3.cell 2
    have f3 := hm3.cell 3
    have f4 := hm3.cell 4
    have f5 := hm3.cell 5
    have f6 := hm3.cell 6
    have f7 := hm3.cell 7
    have f8 := hm3.cell 8
    have f9 := hm3.cell 9
    have f10 := hm3.cell 10
    simp only [List.getElem?_toArray, List.getElem?_cons_succ, List.getElem?_cons_zero] at f0 f1 f2 f3 f4 f5 f6 f7 f8 f9 f10
    have cK := d2 w4 (hT.below hB2)
    clear d2
    have HH := Lib.hid (And.intro hB2 (And.intro hm3 hT))
    clear hB2 hm3 hT
    go_wp2_with fail
    refine cK.mono ?_
    rintro e1 w5 ⟨rfl, hB1⟩
    obtain ⟨hB, hm2, hT⟩ := HH.out
    have hB2 := Below.on hB (Nat.le_refl _) hB1
    have hm3 := hm2.on hB1
    clear HH cK hB hm2 hB1 f0 f1 f2 f3 f4 f5 f6 f7 f8 f9 f10
    have f0 := hm3.cell 0
    have f1 := hm3.cell 1
    have f2 := hm3.cell 2
    have f3 := hm3.cell 3
    have f4 := hm3.cell 4
    have f5 := hm3.cell 5
    have f6 := hm3.cell 6
    have f7 := hm3.cell 7
    have f8 := hm3.cell 8
    have f9 := hm3.cell 9
    have f10 := hm3.cell 10
    simp only [List.getElem?_toArray, List.getElem?_cons_succ, List.getElem?_cons_zero] at f0 f1 f2 f3 f4 f5 f6 f7 f8 f9 f10
    have cK := d3 w5 (hT.below hB2)
    clear d3
    have HH := Lib.hid (And.intro hB2 (And.intro hm3 hT))
    clear hB2 hm3 hT
    go_wp2_with fail
    refine cK.mono ?_
    rintro e1 w6 ⟨rfl, hB1⟩
    obtain ⟨hB, hm2, hT⟩ := HH.out
    have hB2 := Below.on hB (Nat.le_refl _) hB1
    have hm3 := hm2.on hB1
    clear HH cK hB hm2 hB1 f0 f1 f2 f3 f4 f5 f6 f7 f8 f9 f10
    have f0 := hm3.cell 0
    have f1 := hm3.cell 1
    have f2 := hm3.cell 2
    have f3 := hm3.cell 3
    have f4 := hm3.cell 4
    have f5 := hm3.cell 5
    have f6 := hm3.cell 6
    have f7 := hm3.cell 7
    have f8 := hm3.cell 8
    have f9 := hm3.cell 9
    have f10 := hm3.cell 10
    simp only [List.getElem?_toArray, List.getElem?_cons_succ, List.getElem?_cons_zero] at f0 f1 f2 f3 f4 f5 f6 f7 f8 f9 f10
    have cK := d4 w6 (hT.below hB2)
    clear d4
    have HH := Lib.hid (And.intro hB2 (And.intro hm3 hT))
    clear hB2 hm3 hT
    go_wp2_with fail
    refine cK.mono ?_
    rintro e1 w7 ⟨rfl, hB1⟩
    obtain ⟨hB, hm2, hT⟩ := HH.out
    have hB2 := Below.on hB (Nat.le_refl _) hB1
    have hm3 := hm2.on hB1
    clear HH cK hB hm2 hB1 f0 f1 f2 f3 f4 f5 f6 f7 f8 f9 f10
    have f0 := hm3.cell 0
    have f1 := hm3.cell 1
    have f2 := hm3.cell 2
    have f3 := hm3.cell 3
    have f4 := hm3.cell 4
    have f5 := hm3.cell 5
    have f6 := hm3.cell 6
    have f7 := hm3.cell 7
    have f8 := hm3.cell 8
    have f9 := hm3.cell 9
    have f10 := hm3.cell 10
    simp only [List.getElem?_toArray, List.getElem?_cons_succ, List.getElem?_cons_zero] at f0 f1 f2 f3 f4 f5 f6 f7 f8 f9 f10
    have cK := d5 w7 (hT.below hB2)
    clear d5
    have HH := Lib.hid (And.intro hB2 (And.intro hm3 hT))
    clear hB2 hm3 hT
    go_wp2_with fail
    refine cK.mono ?_
    rintro e1 w8 ⟨rfl, hB1⟩
    obtain ⟨hB, hm2, hT⟩ := HH.out
    have hB2 := Below.on hB (Nat.le_refl _) hB1
    clear HH cK hB hm2 hB1 hT f0 f1 f2 f3 f4 f5 f6 f7 f8 f9 f10
    have HB := Lib.hid hB2
    clear hB2
    go_wp2_with fail
    go_ret
    exact ⟨rfl, HB.out⟩
  · by_cases h7 : m.f < n
    · by_cases h8 : m.g ≤ n
      · skip
        have d1 : ChkIs m ⟨0, 0, 0, 0, n, 0⟩ 7 := chkIs (by rw [chk_0, hin, decide_eq_false h6, decide_eq_true h7]; rfl)
        have d2 : ChkIs m ⟨0, 0, 11, 0, n, 0⟩ 5 := chkIs (by rw [chk_11, hin, inR_not.2 (.inr h8)]; rfl)
        have d3 : ChkIs m ⟨0, 0, 12, 0, n, 0⟩ 5 := chkIs (by rw [chk_12, hin, inR_not.2 (.inr h8)]; rfl)
        have d4 := c4
        have d5 := c5
        have cK := d1 _ (hT.below hB3)
        clear d1 c4 c5 hin hm hr1 hr2
        have f0 := hm2.cell 0
        have f1 := hm2.cell 1
        have f2 := hm2.cell 2
        have f3 := hm2.cell 3
        have f4 := hm2.cell 4
        have f5 := hm2.cell 5
        have f6 := hm2.cell 6
        have f7 := hm2.cell 7
        have f8 := hm2.cell 8
        have f9 := hm2.cell 9
        have f10 := hm2.cell 10
        simp only [List.getElem?_toArray, List.getElem?_cons_succ, List.getElem?_cons_zero] at f0 f1 f2 f3 f4 f5 f6 f7 f8 f9 f10
        have HH := Lib.hid (And.intro hB3 (And.intro hm2 hT))
        clear hB3 hm2 hT
        go_wp2_with fail
        refine cK.mono ?_
        rintro e1 w4 ⟨rfl, hB1⟩
        obtain ⟨hB, hm2, hT⟩ := HH.out
        have hB2 := Below.on hB (Nat.le_refl _) hB1
        have hm3 := hm2.on hB1
        clear HH cK hB hm2 hB1 f0 f1 f2 f3 f4 f5 f6 f7 f8 f9 f10
        have f0 := hm3.cell 0
        have f1 := hm3.cell 1
        have f2 := hm3.cell 2
        have f3 := hm3.cell 3
        have f4 := hm3.cell 4
        have f5 := hm3.cell 5
        have f6 := hm3.cell 6
        have f7 := hm3.cell 7
        have f8 := hm3.cell 8
        have f9 := hm3.cell 9
        have f10 := hm3.cell 10
        simp only [List.getElem?_toArray, List.getElem?_cons_succ, List.getElem?_cons_zero] at f0 f1 f2 f3 f4 f5 f6 f7 f8 f9 f10
        have cK := d2 w4 (hT.below hB2)
        clear d2
        have HH := Lib.hid (And.intro hB2 (And.intro hm3 hT))
        clear hB2 hm3 hT
        go_wp2_with fail
        refine cK.mono ?_
        rintro e1 w5 ⟨rfl, hB1⟩
        obtain ⟨hB, hm2, hT⟩ := HH.out
        have hB2 := Below.on hB (Nat.le_refl _) hB1
        have hm3 := hm2.on hB1
        clear HH cK hB hm2 hB1 f0 f1 f2 f3 f4 f5 f6 f7 f8 f9 f10
        have f0 := hm3.cell 0
        have f1 := hm3.cell 1
        have f2 := hm3.cell 2
        have f3 := hm3.cell 3
        have f4 := hm3.cell 4
        have f5 := hm3.cell 5
        have f6 := hm3.cell 6
        have f7 := hm3.cell 7
        have f8 := hm3.cell 8
        have f9 := hm3.cell 9
        have f10 := hm3.cell 10
        simp only [List.getElem?_toArray, List.getElem?_cons_succ, List.getElem?_cons_zero] at f0 f1 f2 f3 f4 f5 f6 f7 f8 f9 f10
        have cK := d3 w5 (hT.below hB2)
        clear d3
        have HH := Lib.hid (And.intro hB2 (And.intro hm3 hT))
        clear hB2 hm3 hT
        go_wp2_with fail
        refine cK.mono ?_
        rintro e1 w6 ⟨rfl, hB1⟩
        obtain ⟨hB, hm2, hT⟩ := HH.out
        have hB2 := Below.on hB (Nat.le_refl _) hB1
        have hm3 := hm2.on hB1
        clear HH cK hB hm2 hB1 f0 f1 f2 f3 f4 f5 f6 f7 f8 f9 f10
        have f0 := hm3.cell 0
        have f1 := hm3.cell 1
        have f2 := hm3.cell 2
        have f3 := hm3.cell 3
        have f4 := hm3.cell 4
        have f5 := hm3.cell 5
        have f6 := hm3.cell 6
        have f7 := hm3.cell 7
        have f8 := hm3.cell 8
        have f9 := hm3.cell 9
        have f10 := hm3.cell 10
        simp only [List.getElem?_toArray, List.getElem?_cons_succ, List.getElem?_cons_zero] at f0 f1 f2 f3 f4 f5 f6 f7 f8 f9 f10
        have cK := d4 w6 (hT.below hB2)
        clear d4
        have HH := Lib.hid (And.intro hB2 (And.intro hm3 hT))
        clear hB2 hm3 hT
        go_wp2_with fail
        refine cK.mono ?_
        rintro e1 w7 ⟨rfl, hB1⟩
        obtain ⟨hB, hm2, hT⟩ := HH.out
        have hB2 := Below.on hB (Nat.le_refl _) hB1
        have hm3 := hm2.on hB1
        clear HH cK hB hm2 hB1 f0 f1 f2 f3 f4 f5 f6 f7 f8 f9 f10
        have f0 := hm3.cell 0
        have f1 := hm3.cell 1
        have f2 := hm3.cell 2
        have f3 := hm3.cell 3
        have f4 := hm3.cell 4
        have f5 := hm3.cell 5
        have f6 := hm3.cell 6
        have f7 := hm3.cell 7
        have f8 := hm3.cell 8
        have f9 := hm3.cell 9
        have f10 := hm3.cell 10
        simp only [List.getElem?_toArray, List.getElem?_cons_succ, List.getElem?_cons_zero] at f0 f1 f2 f3 f4 f5 f6 f7 f8 f9 f10
        have cK := d5 w7 (hT.below hB2)
        clear d5
        have HH := Lib.hid (And.intro hB2 (And.intro hm3 hT))
        clear hB2 hm3 hT
        go_wp2_with fail
        refine cK.mono ?_
        rintro e1 w8 ⟨rfl, hB1⟩
        obtain ⟨hB, hm2, hT⟩ := HH.out
        have hB2 := Below.on hB (Nat.le_refl _) hB1
        clear HH cK hB hm2 hB1 hT f0 f1 f2 f3 f4 f5 f6 f7 f8 f9 f10
        have HB := Lib.hid hB2
        clear hB2
        go_wp2_with fail
        go_ret
        exact ⟨rfl, HB.out⟩
      · skip
        have d1 : ChkIs m ⟨0, 0, 0, 0, n, 0⟩ 7 := chkIs (by rw [chk_0, hin, decide_eq_false h6, decide_eq_true h7]; rfl)
        have d2 : ChkIs m ⟨0, 0, 11, 0, n, 0⟩ 0 := chkIs (by rw [chk_11, hin, inR_iff.2 ⟨by omega, by omega⟩]; rfl)
        have d3 : ChkIs m ⟨0, 0, 12, 0, n, 0⟩ 0 := chkIs (by rw [chk_12, hin, inR_iff.2 ⟨by omega, by omega⟩]; rfl)
        have d4 := c4
        have d5 := c5
        have cK := d1 _ (hT.below hB3)
        clear d1 c4 c5 hin hm hr1 hr2
        have f0 := hm2.cell 0
        have f1 := hm2.cell 1
        have f2 := hm2.cell 2
        have f3 := hm2.cell 3
        have f4 := hm2.cell 4
        have f5 := hm2.cell 5
        have f6 := hm2.cell 6
        have f7 := hm2.cell 7
        have f8 := hm2.cell 8
        have f9 := hm2.cell 9
        have f10 := hm2.cell 10
        simp only [List.getElem?_toArray, List.getElem?_cons_succ, List.getElem?_cons_zero] at f0 f1 f2 f3 f4 f5 f6 f7 f8 f9 f10
        have HH := Lib.hid (And.intro hB3 (And.intro hm2 hT))
        clear hB3 hm2 hT
        go_wp2_with fail
        refine cK.mono ?_
        rintro e1 w4 ⟨rfl, hB1⟩
        obtain ⟨hB, hm2, hT⟩ := HH.out
        have hB2 := Below.on hB (Nat.le_refl _) hB1
        have hm3 := hm2.on hB1
        clear HH cK hB hm2 hB1 f0 f1 f2 f3 f4 f5 f6 f7 f8 f9 f10
        have f0 := hm3.cell 0
        have f1 := hm3.cell 1
        have f2 := hm3.cell 2
        have f3 := hm3.cell 3
        have f4 := hm3.cell 4
        have f5 := hm3.cell 5
        have f6 := hm3.cell 6
        have f7 := hm3.cell 7
        have f8 := hm3.cell 8
        have f9 := hm3.cell 9
        have f10 := hm3.cell 10
        simp only [List.getElem?_toArray, List.getElem?_cons_succ, List.getElem?_cons_zero] at f0 f1 f2 f3 f4 f5 f6 f7 f8 f9 f10
        have cK := d2 w4 (hT.below hB2)
        clear d2
        have HH := Lib.hid (And.intro hB2 (And.intro hm3 hT))
        clear hB2 hm3 hT
        go_wp2_with fail
        refine cK.mono ?_
        rintro e1 w5 ⟨rfl, hB1⟩
        obtain ⟨hB, hm2, hT⟩ := HH.out
        have hB2 := Below.on hB (Nat.le_refl _) hB1
        have hm3 := hm2.on hB1
        clear HH cK hB hm2 hB1 f0 f1 f2 f3 f4 f5 f6 f7 f8 f9 f10
        have f0 := hm3.cell 0
        have f1 := hm3.cell 1
        have f2 := hm3.cell 2
        have f3 := hm3.cell 3
        have f4 := hm3.cell 4
        have f5 := hm3.cell 5
        have f6 := hm3.cell 6
        have f7 := hm3.cell 7
        have f8 := hm3.cell 8
        have f9 := hm3.cell 9
        have f10 := hm3.cell 10
        simp only [List.getElem?_toArray, List.getElem?_cons_succ, List.getElem?_cons_zero] at f0 f1 f2 f3 f4 f5 f6 f7 f8 f9 f10
        have cK := d3 w5 (hT.below hB2)
        clear d3
        have HH := Lib.hid (And.intro hB2 (And.intro hm3 hT))
        clear hB2 hm3 hT
        go_wp2_with fail
        refine cK.mono ?_
        rintro e1 w6 ⟨rfl, hB1⟩
        obtain ⟨hB, hm2, hT⟩ := HH.out
        have hB2 := Below.on hB (Nat.le_refl _) hB1
        have hm3 := hm2.on hB1
        clear HH cK hB hm2 hB1 f0 f1 f2 f3 f4 f5 f6 f7 f8 f9 f10
        have f0 := hm3.cell 0
        have f1 := hm3.cell 1
        have f2 := hm3.cell 2
        have f3 := hm3.cell 3
        have f4 := hm3.cell 4
        have f5 := hm3.cell 5
        have f6 := hm3.cell 6
        have f7 := hm3.cell 7
        have f8 := hm3.cell 8
        have f9 := hm3.cell 9
        have f10 := hm3.cell 10
        simp only [List.getElem?_toArray, List.getElem?_cons_succ, List.getElem?_cons_zero] at f0 f1 f2 f3 f4 f5 f6 f7 f8 f9 f10
        have cK := d4 w6 (hT.below hB2)
        clear d4
        have HH := Lib.hid (And.intro hB2 (And.intro hm3 hT))
        clear hB2 hm3 hT
        go_wp2_with fail
        refine cK.mono ?_
        rintro e1 w7 ⟨rfl, hB1⟩
        obtain ⟨hB, hm2, hT⟩ := HH.out
        have hB2 := Below.on hB (Nat.le_refl _) hB1
        have hm3 := hm2.on hB1
        clear HH cK hB hm2 hB1 f0 f1 f2 f3 f4 f5 f6 f7 f8 f9 f10
        have f0 := hm3.cell 0
        have f1 := hm3.cell 1
        have f2 := hm3.cell 2
        have f3 := hm3.cell 3
        have f4 := hm3.cell 4
        have f5 := hm3.cell 5
        have f6 := hm3.cell 6
        have f7 := hm3.cell 7
        have f8 := hm3.cell 8
        have f9 := hm3.cell 9
        have f10 := hm3.cell 10
        simp only [List.getElem?_toArray, List.getElem?_cons_succ, List.getElem?_cons_zero] at f0 f1 f2 f3 f4 f5 f6 f7 f8 f9 f10
        have cK := d5 w7 (hT.below hB2)
        clear d5
        have HH := Lib.hid (And.intro hB2 (And.intro hm3 hT))
        clear hB2 hm3 hT
        go_wp2_with fail
        refine cK.mono ?_
        rintro e1 w8 ⟨rfl, hB1⟩
        obtain ⟨hB, hm2, hT⟩ := HH.out
        have hB2 := Below.on hB (Nat.le_refl _) hB1
        clear HH cK hB hm2 hB1 hT f0 f1 f2 f3 f4 f5 f6 f7 f8 f9 f10
        have HB := Lib.hid hB2
        clear hB2
        go_wp2_with fail
        go_ret
        exact ⟨rfl, HB.out⟩
    · by_cases h8 : m.g ≤ n
      · skip
        have d1 : ChkIs m ⟨0, 0, 0, 0, n, 0⟩ 0 := chkIs (by rw [chk_0, hin, decide_eq_false h6, decide_eq_false h7]; rfl)
        have d2 : ChkIs m ⟨0, 0, 11, 0, n, 0⟩ 5 := chkIs (by rw [chk_11, hin, inR_not.2 (.inr h8)]; rfl)
        have d3 : ChkIs m ⟨0, 0, 12, 0, n, 0⟩ 5 := chkIs (by rw [chk_12, hin, inR_not.2 (.inr h8)]; rfl)
        have d4 := c4
        have d5 := c5
        have cK := d1 _ (hT.below hB3)
        clear d1 c4 c5 hin hm hr1 hr2
        have f0 := hm2.cell 0
        have f1 := hm2.cell 1
        have f2 := hm2.cell 2
        have f3 := hm2.cell 3
        have f4 := hm2.cell 4
        have f5 := hm2.cell 5
        have f6 := hm2.cell 6
        have f7 := hm2.cell 7
        have f8 := hm2.cell 8
        have f9 := hm2.cell 9
        have f10 := hm2.cell 10
        simp only [List.getElem?_toArray, List.getElem?_cons_succ, List.getElem?_cons_zero] at f0 f1 f2 f3 f4 f5 f6 f7 f8 f9 f10
        have HH := Lib.hid (And.intro hB3 (And.intro hm2 hT))
        clear hB3 hm2 hT
        go_wp2_with fail
        refine cK.mono ?_
        rintro e1 w4 ⟨rfl, hB1⟩
        obtain ⟨hB, hm2, hT⟩ := HH.out
        have hB2 := Below.on hB (Nat.le_refl _) hB1
        have hm3 := hm2.on hB1
        clear HH cK hB hm2 hB1 f0 f1 f2 f3 f4 f5 f6 f7 f8 f9 f10
        have f0 := hm3.cell 0
        have f1 := hm3.cell 1
        have f2 := hm3.cell 2
        have f3 := hm3.cell 3
        have f4 := hm3.cell 4
        have f5 := hm3.cell 5
        have f6 := hm3.cell 6
        have f7 := hm3.cell 7
        have f8 := hm3.cell 8
        have f9 := hm3.cell 9
        have f10 := hm3.cell 10
        simp only [List.getElem?_toArray, List.getElem?_cons_succ, List.getElem?_cons_zero] at f0 f1 f2 f3 f4 f5 f6 f7 f8 f9 f10
        have cK := d2 w4 (hT.below hB2)
        clear d2
        have HH := Lib.hid (And.intro hB2 (And.intro hm3 hT))
        clear hB2 hm3 hT
        go_wp2_with fail
        refine cK.mono ?_
        rintro e1 w5 ⟨rfl, hB1⟩
        obtain ⟨hB, hm2, hT⟩ := HH.out
        have hB2 := Below.on hB (Nat.le_refl _) hB1
        have hm3 := hm2.on hB1
        clear HH cK hB hm2 hB1 f0 f1 f2 f3 f4 f5 f6 f7 f8 f9 f10
        have f0 := hm3.cell 0
        have f1 := hm3.cell 1
        have f2 := hm3.cell 2
        have f3 := hm3.cell 3
        have f4 := hm3.cell 4
        have f5 := hm3.cell 5
        have f6 := hm3.cell 6
        have f7 := hm3.cell 7
        have f8 := hm3.cell 8
        have f9 := hm3.cell 9
        have f10 := hm3.cell 10
        simp only [List.getElem?_toArray, List.getElem?_cons_succ, List.getElem?_cons_zero] at f0 f1 f2 f3 f4 f5 f6 f7 f8 f9 f10
        have cK := d3 w5 (hT.below hB2)
        clear d3
        have HH := Lib.hid (And.intro hB2 (And.intro hm3 hT))
        clear hB2 hm3 hT
        go_wp2_with fail
        refine cK.mono ?_
        rintro e1 w6 ⟨rfl, hB1⟩
        obtain ⟨hB, hm2, hT⟩ := HH.out
        have hB2 := Below.on hB (Nat.le_refl _) hB1
        have hm3 := hm2.on hB1
        clear HH cK hB hm2 hB1 f0 f1 f2 f3 f4 f5 f6 f7 f8 f9 f10
        have f0 := hm3.cell 0
        have f1 := hm3.cell 1
        have f2 := hm3.cell 2
        have f3 := hm3.cell 3
        have f4 := hm3.cell 4
        have f5 := hm3.cell 5
        have f6 := hm3.cell 6
        have f7 := hm3.cell 7
        have f8 := hm3.cell 8
        have f9 := hm3.cell 9
        have f10 := hm3.cell 10
        simp only [List.getElem?_toArray, List.getElem?_cons_succ, List.getElem?_cons_zero] at f0 f1 f2 f3 f4 f5 f6 f7 f8 f9 f10
        have cK := d4 w6 (hT.below hB2)
        clear d4
        have HH := Lib.hid (And.intro hB2 (And.intro hm3 hT))
        clear hB2 hm3 hT
        go_wp2_with fail
        refine cK.mono ?_
        rintro e1 w7 ⟨rfl, hB1⟩
        obtain ⟨hB, hm2, hT⟩ := HH.out
        have hB2 := Below.on hB (Nat.le_refl _) hB1
        have hm3 := hm2.on hB1
        clear HH cK hB hm2 hB1 f0 f1 f2 f3 f4 f5 f6 f7 f8 f9 f10
        have f0 := hm3.cell 0
        have f1 := hm3.cell 1
        have f2 := hm3.cell 2
        have f3 := hm3.cell 3
        have f4 := hm3.cell 4
        have f5 := hm3.cell 5
        have f6 := hm3.cell 6
        have f7 := hm3.cell 7
        have f8 := hm3.cell 8
        have f9 := hm3.cell 9
        have f10 := hm3.cell 10
        simp only [List.getElem?_toArray, List.getElem?_cons_succ, List.getElem?_cons_zero] at f0 f1 f2 f3 f4 f5 f6 f7 f8 f9 f10
        have cK := d5 w7 (hT.below hB2)
        clear d5
        have HH := Lib.hid (And.intro hB2 (And.intro hm3 hT))
        clear hB2 hm3 hT
        go_wp2_with fail
        refine cK.mono ?_
        rintro e1 w8 ⟨rfl, hB1⟩
        obtain ⟨hB, hm2, hT⟩ := HH.out
        have hB2 := Below.on hB (Nat.le_refl _) hB1
        clear HH cK hB hm2 hB1 hT f0 f1 f2 f3 f4 f5 f6 f7 f8 f9 f10
        have HB := Lib.hid hB2
        clear hB2
        go_wp2_with fail
        go_ret
        exact ⟨rfl, HB.out⟩
      · skip
        have d1 : ChkIs m ⟨0, 0, 0, 0, n, 0⟩ 0 := chkIs (by rw [chk_0, hin, decide_eq_false h6, decide_eq_false h7]; rfl)
        have d2 : ChkIs m ⟨0, 0, 11, 0, n, 0⟩ 0 := chkIs (by rw [chk_11, hin, inR_iff.2 ⟨by omega, by omega⟩]; rfl)
        have d3 : ChkIs m ⟨0, 0, 12, 0, n, 0⟩ 0 := chkIs (by rw [chk_12, hin, inR_iff.2 ⟨by omega, by omega⟩]; rfl)
        have d4 := c4
        have d5 := c5
        have cK := d1 _ (hT.below hB3)
        clear d1 c4 c5 hin hm hr1 hr2
        have f0 := hm2.cell 0
        have f1 := hm2.cell 1
        have f2 := hm2.cell 2
        have f3 := hm2.cell 3
        have f4 := hm2.cell 4
        have f5 := hm2.cell 5
        have f6 := hm2.cell 6
        have f7 := hm2.cell 7
        have f8 := hm2.cell 8
        have f9 := hm2.cell 9
        have f10 := hm2.cell 10
        simp only [List.getElem?_toArray, List.getElem?_cons_succ, List.getElem?_cons_zero] at f0 f1 f2 f3 f4 f5 f6 f7 f8 f9 f10
        have HH := Lib.hid (And.intro hB3 (And.intro hm2 hT))
        clear hB3 hm2 hT
        go_wp2_with fail
        refine cK.mono ?_
        rintro e1 w4 ⟨rfl, hB1⟩
        obtain ⟨hB, hm2, hT⟩ := HH.out
        have hB2 := Below.on hB (Nat.le_refl _) hB1
        have hm3 := hm2.on hB1
        clear HH cK hB hm2 hB1 f0 f1 f2 f3 f4 f5 f6 f7 f8 f9 f10
        have f0 := hm3.cell 0
        have f1 := hm3.cell 1
        have f2 := hm3.cell 2
        have f3 := hm3.cell 3
        have f4 := hm3.cell 4
        have f5 := hm3.cell 5
        have f6 := hm3.cell 6
        have f7 := hm3.cell 7
        have f8 := hm3.cell 8
        have f9 := hm3.cell 9
        have f10 := hm3.cell 10
        simp only [List.getElem?_toArray, List.getElem?_cons_succ, List.getElem?_cons_zero] at f0 f1 f2 f3 f4 f5 f6 f7 f8 f9 f10
        have cK := d2 w4 (hT.below hB2)
        clear d2
        have HH := Lib.hid (And.intro hB2 (And.intro hm3 hT))
        clear hB2 hm3 hT
        go_wp2_with fail
        refine cK.mono ?_
        rintro e1 w5 ⟨rfl, hB1⟩
        obtain ⟨hB, hm2, hT⟩ := HH.out
        have hB2 := Below.on hB (Nat.le_refl _) hB1
        have hm3 := hm2.on hB1
        clear HH cK hB hm2 hB1 f0 f1 f2 f3 f4 f5 f6 f7 f8 f9 f10
        have f0 := hm3.cell 0
        have f1 := hm3.cell 1
        have f2 := hm3.cell 2
        have f3 := hm3.cell 3
        have f4 := hm3.cell 4
        have f5 := hm3.cell 5
        have f6 := hm3.cell 6
        have f7 := hm3.cell 7
        have f8 := hm3.cell 8
        have f9 := hm3.cell 9
        have f10 := hm3.cell 10
        simp only [List.getElem?_toArray, List.getElem?_cons_succ, List.getElem?_cons_zero] at f0 f1 f2 f3 f4 f5 f6 f7 f8 f9 f10
        have cK := d3 w5 (hT.below hB2)
        clear d3
        have HH := Lib.hid (And.intro hB2 (And.intro hm3 hT))
        clear hB2 hm3 hT
        go_wp2_with fail
        refine cK.mono ?_
        rintro e1 w6 ⟨rfl, hB1⟩
        obtain ⟨hB, hm2, hT⟩ := HH.out
        have hB2 := Below.on hB (Nat.le_refl _) hB1
        have hm3 := hm2.on hB1
        clear HH cK hB hm2 hB1 f0 f1 f2 f3 f4 f5 f6 f7 f8 f9 f10
        have f0 := hm3.cell 0
        have f1 := hm3.cell 1
        have f2 := hm3.cell 2
        have f3 := hm3.cell 3
        have f4 := hm3.cell 4
        have f5 := hm3.cell 5
        have f6 := hm3.cell 6
        have f7 := hm3.cell 7
        have f8 := hm3.cell 8
        have f9 := hm3.cell 9
        have f10 := hm3.cell 10
        simp only [List.getElem?_toArray, List.getElem?_cons_succ, List.getElem?_cons_zero] at f0 f1 f2 f3 f4 f5 f6 f7 f8 f9 f10
        have cK := d4 w6 (hT.below hB2)
        clear d4
        have HH := Lib.hid (And.intro hB2 (And.intro hm3 hT))
        clear hB2 hm3 hT
        go_wp2_with fail
        refine cK.mono ?_
        rintro e1 w7 ⟨rfl, hB1⟩
        obtain ⟨hB, hm2, hT⟩ := HH.out
        have hB2 := Below.on hB (Nat.le_refl _) hB1
        have hm3 := hm2.on hB1
        clear HH cK hB hm2 hB1 f0 f1 f2 f3 f4 f5 f6 f7 f8 f9 f10
        have f0 := hm3.cell 0
        have f1 := hm3.cell 1
        have f2 := hm3.cell 2
        have f3 := hm3.cell 3
        have f4 := hm3.cell 4
        have f5 := hm3.cell 5
        have f6 := hm3.cell 6
        have f7 := hm3.cell 7
        have f8 := hm3.cell 8
        have f9 := hm3.cell 9
        have f10 := hm3.cell 10
        simp only [List.getElem?_toArray, List.getElem?_cons_succ, List.getElem?_cons_zero] at f0 f1 f2 f3 f4 f5 f6 f7 f8 f9 f10
        have cK := d5 w7 (hT.below hB2)
        clear d5
        have HH := Lib.hid (And.intro hB2 (And.intro hm3 hT))
        clear hB2 hm3 hT
        go_wp2_with fail
        refine cK.mono ?_
        rintro e1 w8 ⟨rfl, hB1⟩
        obtain ⟨hB, hm2, hT⟩ := HH.out
        have hB2 := Below.on hB (Nat.le_refl _) hB1
        clear HH cK hB hm2 hB1 hT f0 f1 f2 f3 f4 f5 f6 f7 f8 f9 f10
        have HB := Lib.hid hB2
        clear hB2
        go_wp2_with fail
        go_ret
        exact ⟨rfl, HB.out⟩
end Go.Proofs.YtdkakbddhckbnaaDoor
