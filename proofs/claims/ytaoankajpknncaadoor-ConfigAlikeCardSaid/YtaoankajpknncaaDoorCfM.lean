/- ConfigAlike, walked; at this seat's numbers. -/
import Derived.Test.YtaoankajpknncaaDoorCfK
import Derived.Test.YtaoankajpknncaaDoorCfJ
namespace Go.Proofs.YtaoankajpknncaaDoor
open Go Go.RowKit
set_option linter.unusedSimpArgs false
set_option linter.unusedVariables false
attribute [local go_sem] Oper.semAt_some

set_option maxRecDepth 100000 in
set_option maxHeartbeats 8000000 in
theorem calike_2 (a b : Cfg) (e0 : (a.t == b.t) = true) (e1 : (a.r == b.r) = true) (e2 : (a.s == b.s) = false) (w : World) (hT : NamesAt w) : Calls Tryd.prog 6 #[a.val, b.val] w fun e w' => e = .returned (.bool true) ∧ Below w.heap.size w w' := by
  have hB := ((Below.refl w.heap.size w).alloc (Nat.le_refl _) (.cells a.arr 23)).alloc (by simp) (.cells b.arr 23)
  have hba := (Blk.new w a.arr 23).alloc (.cells b.arr 23)
  have hbb := Blk.new (w.alloc (.cells a.arr 23)) b.arr 23
  rw [World.size_alloc] at hbb
  have c0 := cfit_true ((w.alloc (.cells a.arr 23)).alloc (.cells b.arr 23)) (hT.below hB)
  have HH := Lib.hid (And.intro hB (And.intro hba hbb))
  clear hB hba hbb hT
  go_enter Tryd.func6, Tryd.ntmps6
  go_wp2_with fail
  refine c0.mono ?_
  rintro e1 w1 ⟨rfl, hB1⟩
  obtain ⟨hB, hb, hl6⟩ := HH.out
  have hB1' := Below.on hB (Nat.le_refl _) hB1
  have hb1 := hb.turn (Turn.ofBelow hB1) (fun h => absurd hb.lt (Nat.not_lt.2 h))
  have hl1 := hl6.turn (Turn.ofBelow hB1) (fun h => absurd hl6.lt (Nat.not_lt.2 h))
  clear HH c0 hB hb hl6 hB1
  have f0 := hb1.cell 0
  have f1 := hb1.cell 1
  have f2 := hb1.cell 2
  have f3 := hb1.cell 3
  have f4 := hb1.cell 4
  have f5 := hb1.cell 5
  have f6 := hb1.cell 6
  have f7 := hb1.cell 7
  have f8 := hb1.cell 8
  have f9 := hb1.cell 9
  have f10 := hb1.cell 10
  have g0 := hl1.cell 0
  have g1 := hl1.cell 1
  have g2 := hl1.cell 2
  have g3 := hl1.cell 3
  have g4 := hl1.cell 4
  have g5 := hl1.cell 5
  have g6 := hl1.cell 6
  have g7 := hl1.cell 7
  have g8 := hl1.cell 8
  have g9 := hl1.cell 9
  have g10 := hl1.cell 10
  simp only [List.getElem?_toArray, List.getElem?_cons_succ, List.getElem?_cons_zero] at f0 f1 f2 f3 f4 f5 f6 f7 f8 f9 f10 g0 g1 g2 g3 g4 g5 g6 g7 g8 g9 g10
  have hB2 := hB1'.alloc hB1'.size (.cells b.arr 23)
  have hb2 := hb1.alloc (.cells b.arr 23)
  have hl2 := hl1.alloc (.cells b.arr 23)
  have hc2 := Blk.new w1 b.arr 23
  have hlt1 := hb1.lt
  have hlt2 := hl1.lt
  have HH := Lib.hid (And.intro hB2 (And.intro hb2 (And.intro hl2 (And.intro hc2 (And.intro hlt1 (And.intro hlt2 hB1'.size))))))
  clear hB1' hb1 hl1 hB2 hb2 hl2 hc2 hlt1 hlt2
  · have hw : alikeB a b = false := by simp [alikeB, e0, e1, e2]
    have HW := Lib.hid hw
    clear hw
    go_wp2_with fail
    obtain ⟨hB2, hb2, hl2, hc2, hlt1, hlt2, hsz⟩ := HH.out
    clear HH f0 f1 f2 f3 f4 f5 f6 f7 f8 f9 f10 g0 g1 g2 g3 g4 g5 g6 g7 g8 g9 g10 e0 e1 e2
    generalize hV : w1.alloc (.cells b.arr 23) = V at *
    clear hV
    generalize w1.heap.size = bc at *
    have d3 := hb2.cell 3
    have d4 := hb2.cell 4
    have d5 := hb2.cell 5
    have d6 := hb2.cell 6
    have d7 := hb2.cell 7
    have x3 := hc2.cell 3
    have x4 := hc2.cell 4
    have x5 := hc2.cell 5
    have x6 := hc2.cell 6
    have x7 := hc2.cell 7
    have y3 := hc2.free 3
    have y4 := hc2.free 4
    have y5 := hc2.free 5
    have y6 := hc2.free 6
    have y7 := hc2.free 7
    simp only [List.getElem?_toArray, List.getElem?_cons_succ, List.getElem?_cons_zero] at d3 d4 d5 d6 d7 x3 x4 x5 x6 x7
    have hne1 : ¬ w.heap.size = bc := by omega
    have hne2 : ¬ bc = w.heap.size := by omega
    have hne3 : ¬ w.heap.size + 1 = bc := by omega
    have hlk := Blk.is (((((hc2.setAt 3 (.int .i64 a.t)).setAt 4 (.int .i64 a.r)).setAt 5 (.int .i64 a.s)).setAt 6 (.int .i64 a.g)).setAt 7 (.int .i64 a.f)).drew (cs' := (a.like b).arr) (by simp [Cfg.like])
    have hT : Turn (fun k => k = bc) V ((((((V.setCell ⟨bc, 3, none⟩ (.int .i64 a.t)).setCell ⟨bc, 4, none⟩ (.int .i64 a.r)).setCell ⟨bc, 5, none⟩ (.int .i64 a.s)).setCell ⟨bc, 6, none⟩ (.int .i64 a.g)).setCell ⟨bc, 7, none⟩ (.int .i64 a.f)).drew) := ((((((Turn.refl (fun k => k = bc) V).set _ _ (.inr rfl)).set _ _ (.inr rfl)).set _ _ (.inr rfl)).set _ _ (.inr rfl)).set _ _ (.inr rfl)).drew
    have hb3 := hb2.turn hT hne1
    have hl3 := hl2.turn hT hne3
    have hB3 := hB2.trans (hT.below w.heap.size hB2.size (fun k hk e => by omega))
    have HH := Lib.hid (And.intro hB3 (And.intro hb3 (And.intro hl3 hlk)))
    clear hB2 hb2 hl2 hc2 hlk hT hb3 hl3 hB3
    go_region
    obtain ⟨hB3, hb3, hl3, hlk⟩ := HH.out
    clear HH d3 d4 d5 d6 d7 x3 x4 x5 x6 x7 y3 y4 y5 y6 y7 hne1 hne2 hne3
    generalize ((((((V.setCell ⟨bc, 3, none⟩ (.int .i64 a.t)).setCell ⟨bc, 4, none⟩ (.int .i64 a.r)).setCell ⟨bc, 5, none⟩ (.int .i64 a.s)).setCell ⟨bc, 6, none⟩ (.int .i64 a.g)).setCell ⟨bc, 7, none⟩ (.int .i64 a.f)).drew) = W3 at *
    have cA : Calls Tryd.prog 15 #[a.val, b.val] W3 _ := alike_any a b W3
    rw [HW.out] at cA
    have f0 := hb3.cell 0
    have f1 := hb3.cell 1
    have f2 := hb3.cell 2
    have f3 := hb3.cell 3
    have f4 := hb3.cell 4
    have f5 := hb3.cell 5
    have f6 := hb3.cell 6
    have f7 := hb3.cell 7
    have f8 := hb3.cell 8
    have f9 := hb3.cell 9
    have f10 := hb3.cell 10
    have g0 := hl3.cell 0
    have g1 := hl3.cell 1
    have g2 := hl3.cell 2
    have g3 := hl3.cell 3
    have g4 := hl3.cell 4
    have g5 := hl3.cell 5
    have g6 := hl3.cell 6
    have g7 := hl3.cell 7
    have g8 := hl3.cell 8
    have g9 := hl3.cell 9
    have g10 := hl3.cell 10
    simp only [List.getElem?_toArray, List.getElem?_cons_succ, List.getElem?_cons_zero] at f0 f1 f2 f3 f4 f5 f6 f7 f8 f9 f10 g0 g1 g2 g3 g4 g5 g6 g7 g8 g9 g10
    have HH := Lib.hid (And.intro hB3 (And.intro hb3 (And.intro hl3 hlk)))
    clear hB3 hb3 hl3 hlk
    go_wp2_with fail
    refine cA.mono ?_
    rintro e1 w4 ⟨rfl, hB⟩
    obtain ⟨hB3, hb3, hl3, hlk⟩ := HH.out
    have hB4 := Below.on hB3 (Nat.le_refl _) hB
    have hb4 := hb3.turn (Turn.ofBelow hB) (fun h => absurd hb3.lt (Nat.not_lt.2 h))
    have hl4 := hl3.turn (Turn.ofBelow hB) (fun h => absurd hl3.lt (Nat.not_lt.2 h))
    have hk4 := hlk.turn (Turn.ofBelow hB) (fun h => absurd hlk.lt (Nat.not_lt.2 h))
    clear HH cA hB3 hb3 hl3 hlk hB f0 f1 f2 f3 f4 f5 f6 f7 f8 f9 f10 g0 g1 g2 g3 g4 g5 g6 g7 g8 g9 g10
    have cA : Calls Tryd.prog 15 #[b.val, a.val] w4 _ := alike_any b a w4
    rw [alikeB_comm, HW.out] at cA
    have f0 := hb4.cell 0
    have f1 := hb4.cell 1
    have f2 := hb4.cell 2
    have f3 := hb4.cell 3
    have f4 := hb4.cell 4
    have f5 := hb4.cell 5
    have f6 := hb4.cell 6
    have f7 := hb4.cell 7
    have f8 := hb4.cell 8
    have f9 := hb4.cell 9
    have f10 := hb4.cell 10
    have g0 := hl4.cell 0
    have g1 := hl4.cell 1
    have g2 := hl4.cell 2
    have g3 := hl4.cell 3
    have g4 := hl4.cell 4
    have g5 := hl4.cell 5
    have g6 := hl4.cell 6
    have g7 := hl4.cell 7
    have g8 := hl4.cell 8
    have g9 := hl4.cell 9
    have g10 := hl4.cell 10
    simp only [List.getElem?_toArray, List.getElem?_cons_succ, List.getElem?_cons_zero] at f0 f1 f2 f3 f4 f5 f6 f7 f8 f9 f10 g0 g1 g2 g3 g4 g5 g6 g7 g8 g9 g10
    have HH := Lib.hid (And.intro hB4 (And.intro hb4 hk4))
    clear hB4 hb4 hl4 hk4
    go_wp2_with fail
    refine cA.mono ?_
    rintro e1 w5 ⟨rfl, hB⟩
    obtain ⟨hB4, hb4, hk4⟩ := HH.out
    have hB5 := Below.on hB4 (Nat.le_refl _) hB
    have hb5 := hb4.turn (Turn.ofBelow hB) (fun h => absurd hb4.lt (Nat.not_lt.2 h))
    have hk5 := hk4.turn (Turn.ofBelow hB) (fun h => absurd hk4.lt (Nat.not_lt.2 h))
    clear HH cA hB4 hb4 hk4 hB f0 f1 f2 f3 f4 f5 f6 f7 f8 f9 f10 g0 g1 g2 g3 g4 g5 g6 g7 g8 g9 g10
    have cA : Calls Tryd.prog 15 #[a.val, .agg #[.int .i64 b.e, .bool b.k, .int .i64 b.p, .int .i64 a.t, .int .i64 a.r, .int .i64 a.s, .int .i64 a.g, .int .i64 a.f, .int .i64 b.m, .int .i64 b.l, .int .i64 b.b]] w5 _ := alike_any a (a.like b) w5
    rw [like_like] at cA
    have f0 := hb5.cell 0
    have f1 := hb5.cell 1
    have f2 := hb5.cell 2
    have f3 := hb5.cell 3
    have f4 := hb5.cell 4
    have f5 := hb5.cell 5
    have f6 := hb5.cell 6
    have f7 := hb5.cell 7
    have f8 := hb5.cell 8
    have f9 := hb5.cell 9
    have f10 := hb5.cell 10
    have g0 := hk5.cell 0
    have g1 := hk5.cell 1
    have g2 := hk5.cell 2
    have g3 := hk5.cell 3
    have g4 := hk5.cell 4
    have g5 := hk5.cell 5
    have g6 := hk5.cell 6
    have g7 := hk5.cell 7
    have g8 := hk5.cell 8
    have g9 := hk5.cell 9
    have g10 := hk5.cell 10
    simp only [List.getElem?_toArray, List.getElem?_cons_succ, List.getElem?_cons_zero, Cfg.like] at f0 f1 f2 f3 f4 f5 f6 f7 f8 f9 f10 g0 g1 g2 g3 g4 g5 g6 g7 g8 g9 g10
    have HH := Lib.hid hB5
    clear hB5 hb5 hk5
    go_wp2_with fail
    refine cA.mono ?_
    rintro e1 w6 ⟨rfl, hB⟩
    have hB6 := Below.on HH.out (Nat.le_refl _) hB
    have HB := Lib.hid hB6
    clear HH cA hB hB6 f0 f1 f2 f3 f4 f5 f6 f7 f8 f9 f10 g0 g1 g2 g3 g4 g5 g6 g7 g8 g9 g10
    go_wp2_with fail
    go_ret
    exact ⟨rfl, HB.out⟩

set_option maxRecDepth 100000 in
set_option maxHeartbeats 8000000 in
theorem calike_3 (a b : Cfg) (e0 : (a.t == b.t) = true) (e1 : (a.r == b.r) = true) (e2 : (a.s == b.s) = true) (e3 : (a.g == b.g) = false) (w : World) (hT : NamesAt w) : Calls Tryd.prog 6 #[a.val, b.val] w fun e w' => e = .returned (.bool true) ∧ Below w.heap.size w w' := by
  have hB := ((Below.refl w.heap.size w).alloc (Nat.le_refl _) (.cells a.arr 23)).alloc (by simp) (.cells b.arr 23)
  have hba := (Blk.new w a.arr 23).alloc (.cells b.arr 23)
  have hbb := Blk.new (w.alloc (.cells a.arr 23)) b.arr 23
  rw [World.size_alloc] at hbb
  have c0 := cfit_true ((w.alloc (.cells a.arr 23)).alloc (.cells b.arr 23)) (hT.below hB)
  have HH := Lib.hid (And.intro hB (And.intro hba hbb))
  clear hB hba hbb hT
  go_enter Tryd.func6, Tryd.ntmps6
  go_wp2_with fail
  refine c0.mono ?_
  rintro e1 w1 ⟨rfl, hB1⟩
  obtain ⟨hB, hb, hl6⟩ := HH.out
  have hB1' := Below.on hB (Nat.le_refl _) hB1
  have hb1 := hb.turn (Turn.ofBelow hB1) (fun h => absurd hb.lt (Nat.not_lt.2 h))
  have hl1 := hl6.turn (Turn.ofBelow hB1) (fun h => absurd hl6.lt (Nat.not_lt.2 h))
  clear HH c0 hB hb hl6 hB1
  have f0 := hb1.cell 0
  have f1 := hb1.cell 1
  have f2 := hb1.cell 2
  have f3 := hb1.cell 3
  have f4 := hb1.cell 4
  have f5 := hb1.cell 5
  have f6 := hb1.cell 6
  have f7 := hb1.cell 7
  have f8 := hb1.cell 8
  have f9 := hb1.cell 9
  have f10 := hb1.cell 10
  have g0 := hl1.cell 0
  have g1 := hl1.cell 1
  have g2 := hl1.cell 2
  have g3 := hl1.cell 3
  have g4 := hl1.cell 4
  have g5 := hl1.cell 5
  have g6 := hl1.cell 6
  have g7 := hl1.cell 7
  have g8 := hl1.cell 8
  have g9 := hl1.cell 9
  have g10 := hl1.cell 10
  simp only [List.getElem?_toArray, List.getElem?_cons_succ, List.getElem?_cons_zero] at f0 f1 f2 f3 f4 f5 f6 f7 f8 f9 f10 g0 g1 g2 g3 g4 g5 g6 g7 g8 g9 g10
  have hB2 := hB1'.alloc hB1'.size (.cells b.arr 23)
  have hb2 := hb1.alloc (.cells b.arr 23)
  have hl2 := hl1.alloc (.cells b.arr 23)
  have hc2 := Blk.new w1 b.arr 23
  have hlt1 := hb1.lt
  have hlt2 := hl1.lt
  have HH := Lib.hid (And.intro hB2 (And.intro hb2 (And.intro hl2 (And.intro hc2 (And.intro hlt1 (And.intro hlt2 hB1'.size))))))
  clear hB1' hb1 hl1 hB2 hb2 hl2 hc2 hlt1 hlt2
  · have hw : alikeB a b = false := by simp [alikeB, e0, e1, e2, e3]
    have HW := Lib.hid hw
    clear hw
    go_wp2_with fail
    obtain ⟨hB2, hb2, hl2, hc2, hlt1, hlt2, hsz⟩ := HH.out
    clear HH f0 f1 f2 f3 f4 f5 f6 f7 f8 f9 f10 g0 g1 g2 g3 g4 g5 g6 g7 g8 g9 g10 e0 e1 e2 e3
    generalize hV : w1.alloc (.cells b.arr 23) = V at *
    clear hV
    generalize w1.heap.size = bc at *
    have d3 := hb2.cell 3
    have d4 := hb2.cell 4
    have d5 := hb2.cell 5
    have d6 := hb2.cell 6
    have d7 := hb2.cell 7
    have x3 := hc2.cell 3
    have x4 := hc2.cell 4
    have x5 := hc2.cell 5
    have x6 := hc2.cell 6
    have x7 := hc2.cell 7
    have y3 := hc2.free 3
    have y4 := hc2.free 4
    have y5 := hc2.free 5
    have y6 := hc2.free 6
    have y7 := hc2.free 7
    simp only [List.getElem?_toArray, List.getElem?_cons_succ, List.getElem?_cons_zero] at d3 d4 d5 d6 d7 x3 x4 x5 x6 x7
    have hne1 : ¬ w.heap.size = bc := by omega
    have hne2 : ¬ bc = w.heap.size := by omega
    have hne3 : ¬ w.heap.size + 1 = bc := by omega
    have hlk := Blk.is (((((hc2.setAt 3 (.int .i64 a.t)).setAt 4 (.int .i64 a.r)).setAt 5 (.int .i64 a.s)).setAt 6 (.int .i64 a.g)).setAt 7 (.int .i64 a.f)).drew (cs' := (a.like b).arr) (by simp [Cfg.like])
    have hT : Turn (fun k => k = bc) V ((((((V.setCell ⟨bc, 3, none⟩ (.int .i64 a.t)).setCell ⟨bc, 4, none⟩ (.int .i64 a.r)).setCell ⟨bc, 5, none⟩ (.int .i64 a.s)).setCell ⟨bc, 6, none⟩ (.int .i64 a.g)).setCell ⟨bc, 7, none⟩ (.int .i64 a.f)).drew) := ((((((Turn.refl (fun k => k = bc) V).set _ _ (.inr rfl)).set _ _ (.inr rfl)).set _ _ (.inr rfl)).set _ _ (.inr rfl)).set _ _ (.inr rfl)).drew
    have hb3 := hb2.turn hT hne1
    have hl3 := hl2.turn hT hne3
    have hB3 := hB2.trans (hT.below w.heap.size hB2.size (fun k hk e => by omega))
    have HH := Lib.hid (And.intro hB3 (And.intro hb3 (And.intro hl3 hlk)))
    clear hB2 hb2 hl2 hc2 hlk hT hb3 hl3 hB3
    go_region
    obtain ⟨hB3, hb3, hl3, hlk⟩ := HH.out
    clear HH d3 d4 d5 d6 d7 x3 x4 x5 x6 x7 y3 y4 y5 y6 y7 hne1 hne2 hne3
    generalize ((((((V.setCell ⟨bc, 3, none⟩ (.int .i64 a.t)).setCell ⟨bc, 4, none⟩ (.int .i64 a.r)).setCell ⟨bc, 5, none⟩ (.int .i64 a.s)).setCell ⟨bc, 6, none⟩ (.int .i64 a.g)).setCell ⟨bc, 7, none⟩ (.int .i64 a.f)).drew) = W3 at *
    have cA : Calls Tryd.prog 15 #[a.val, b.val] W3 _ := alike_any a b W3
    rw [HW.out] at cA
    have f0 := hb3.cell 0
    have f1 := hb3.cell 1
    have f2 := hb3.cell 2
    have f3 := hb3.cell 3
    have f4 := hb3.cell 4
    have f5 := hb3.cell 5
    have f6 := hb3.cell 6
    have f7 := hb3.cell 7
    have f8 := hb3.cell 8
    have f9 := hb3.cell 9
    have f10 := hb3.cell 10
    have g0 := hl3.cell 0
    have g1 := hl3.cell 1
    have g2 := hl3.cell 2
    have g3 := hl3.cell 3
    have g4 := hl3.cell 4
    have g5 := hl3.cell 5
    have g6 := hl3.cell 6
    have g7 := hl3.cell 7
    have g8 := hl3.cell 8
    have g9 := hl3.cell 9
    have g10 := hl3.cell 10
    simp only [List.getElem?_toArray, List.getElem?_cons_succ, List.getElem?_cons_zero] at f0 f1 f2 f3 f4 f5 f6 f7 f8 f9 f10 g0 g1 g2 g3 g4 g5 g6 g7 g8 g9 g10
    have HH := Lib.hid (And.intro hB3 (And.intro hb3 (And.intro hl3 hlk)))
    clear hB3 hb3 hl3 hlk
    go_wp2_with fail
    refine cA.mono ?_
    rintro e1 w4 ⟨rfl, hB⟩
    obtain ⟨hB3, hb3, hl3, hlk⟩ := HH.out
    have hB4 := Below.on hB3 (Nat.le_refl _) hB
    have hb4 := hb3.turn (Turn.ofBelow hB) (fun h => absurd hb3.lt (Nat.not_lt.2 h))
    have hl4 := hl3.turn (Turn.ofBelow hB) (fun h => absurd hl3.lt (Nat.not_lt.2 h))
    have hk4 := hlk.turn (Turn.ofBelow hB) (fun h => absurd hlk.lt (Nat.not_lt.2 h))
    clear HH cA hB3 hb3 hl3 hlk hB f0 f1 f2 f3 f4 f5 f6 f7 f8 f9 f10 g0 g1 g2 g3 g4 g5 g6 g7 g8 g9 g10
    have cA : Calls Tryd.prog 15 #[b.val, a.val] w4 _ := alike_any b a w4
    rw [alikeB_comm, HW.out] at cA
    have f0 := hb4.cell 0
    have f1 := hb4.cell 1
    have f2 := hb4.cell 2
    have f3 := hb4.cell 3
    have f4 := hb4.cell 4
    have f5 := hb4.cell 5
    have f6 := hb4.cell 6
    have f7 := hb4.cell 7
    have f8 := hb4.cell 8
    have f9 := hb4.cell 9
    have f10 := hb4.cell 10
    have g0 := hl4.cell 0
    have g1 := hl4.cell 1
    have g2 := hl4.cell 2
    have g3 := hl4.cell 3
    have g4 := hl4.cell 4
    have g5 := hl4.cell 5
    have g6 := hl4.cell 6
    have g7 := hl4.cell 7
    have g8 := hl4.cell 8
    have g9 := hl4.cell 9
    have g10 := hl4.cell 10
    simp only [List.getElem?_toArray, List.getElem?_cons_succ, List.getElem?_cons_zero] at f0 f1 f2 f3 f4 f5 f6 f7 f8 f9 f10 g0 g1 g2 g3 g4 g5 g6 g7 g8 g9 g10
    have HH := Lib.hid (And.intro hB4 (And.intro hb4 hk4))
    clear hB4 hb4 hl4 hk4
    go_wp2_with fail
    refine cA.mono ?_
    rintro e1 w5 ⟨rfl, hB⟩
    obtain ⟨hB4, hb4, hk4⟩ := HH.out
    have hB5 := Below.on hB4 (Nat.le_refl _) hB
    have hb5 := hb4.turn (Turn.ofBelow hB) (fun h => absurd hb4.lt (Nat.not_lt.2 h))
    have hk5 := hk4.turn (Turn.ofBelow hB) (fun h => absurd hk4.lt (Nat.not_lt.2 h))
    clear HH cA hB4 hb4 hk4 hB f0 f1 f2 f3 f4 f5 f6 f7 f8 f9 f10 g0 g1 g2 g3 g4 g5 g6 g7 g8 g9 g10
    have cA : Calls Tryd.prog 15 #[a.val, .agg #[.int .i64 b.e, .bool b.k, .int .i64 b.p, .int .i64 a.t, .int .i64 a.r, .int .i64 a.s, .int .i64 a.g, .int .i64 a.f, .int .i64 b.m, .int .i64 b.l, .int .i64 b.b]] w5 _ := alike_any a (a.like b) w5
    rw [like_like] at cA
    have f0 := hb5.cell 0
    have f1 := hb5.cell 1
    have f2 := hb5.cell 2
    have f3 := hb5.cell 3
    have f4 := hb5.cell 4
    have f5 := hb5.cell 5
    have f6 := hb5.cell 6
    have f7 := hb5.cell 7
    have f8 := hb5.cell 8
    have f9 := hb5.cell 9
    have f10 := hb5.cell 10
    have g0 := hk5.cell 0
    have g1 := hk5.cell 1
    have g2 := hk5.cell 2
    have g3 := hk5.cell 3
    have g4 := hk5.cell 4
    have g5 := hk5.cell 5
    have g6 := hk5.cell 6
    have g7 := hk5.cell 7
    have g8 := hk5.cell 8
    have g9 := hk5.cell 9
    have g10 := hk5.cell 10
    simp only [List.getElem?_toArray, List.getElem?_cons_succ, List.getElem?_cons_zero, Cfg.like] at f0 f1 f2 f3 f4 f5 f6 f7 f8 f9 f10 g0 g1 g2 g3 g4 g5 g6 g7 g8 g9 g10
    have HH := Lib.hid hB5
    clear hB5 hb5 hk5
    go_wp2_with fail
    refine cA.mono ?_
    rintro e1 w6 ⟨rfl, hB⟩
    have hB6 := Below.on HH.out (Nat.le_refl _) hB
    have HB := Lib.hid hB6
    clear HH cA hB hB6 f0 f1 f2 f3 f4 f5 f6 f7 f8 f9 f10 g0 g1 g2 g3 g4 g5 g6 g7 g8 g9 g10
    go_wp2_with fail
    go_ret
    exact ⟨rfl, HB.out⟩
end Go.Proofs.YtaoankajpknncaaDoor
