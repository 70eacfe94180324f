/- OpChecks, walked; at this seat's numbers. -/
import Derived.Test.YtdkakbddhckbnaaDoorOpF
import Derived.Test.YtdkakbddhckbnaaDoorOpG
import Derived.Test.YtdkakbddhckbnaaDoorCfI
import Derived.Deep.RegionHeld3
namespace Go.Proofs.YtdkakbddhckbnaaDoor
open Go Go.RowKit
set_option linter.unusedSimpArgs false
set_option linter.unusedVariables false
attribute [local go_sem] Oper.semAt_some

theorem cfg_cells {W : World} {b : Nat} {m : Cfg} (h : Blk W b m.arr 27) : W.cell? ⟨b, 0, none⟩ = some (.int .i64 m.e) ∧ W.cell? ⟨b, 1, none⟩ = some (.bool m.k) ∧ W.cell? ⟨b, 2, none⟩ = some (.int .i64 m.p) ∧ W.cell? ⟨b, 3, none⟩ = some (.int .i64 m.t) ∧ W.cell? ⟨b, 4, none⟩ = some (.int .i64 m.r) ∧ W.cell? ⟨b, 5, none⟩ = some (.int .i64 m.s) ∧ W.cell? ⟨b, 6, none⟩ = some (.int .i64 m.g) ∧ W.cell? ⟨b, 7, none⟩ = some (.int .i64 m.f) ∧ W.cell? ⟨b, 8, none⟩ = some (.int .i64 m.m) ∧ W.cell? ⟨b, 9, none⟩ = some (.int .i64 m.l) ∧ W.cell? ⟨b, 10, none⟩ = some (.int .i64 m.b) :=
  ⟨h.cell 0, h.cell 1, h.cell 2, h.cell 3, h.cell 4, h.cell 5, h.cell 6, h.cell 7, h.cell 8, h.cell 9, h.cell 10⟩
theorem item_cells {W : World} {b : Nat} {x : It} (h : Blk W b x.arr 24) : W.cell? ⟨b, 0, none⟩ = some (.int .i64 x.k) ∧ W.cell? ⟨b, 1, none⟩ = some (.int .i64 x.t) ∧ W.cell? ⟨b, 2, none⟩ = some (.int .i64 x.o) ∧ W.cell? ⟨b, 3, none⟩ = some (.int .i64 x.a) ∧ W.cell? ⟨b, 4, none⟩ = some (.int .i64 x.b) ∧ W.cell? ⟨b, 5, none⟩ = some (.int .i64 x.c) :=
  ⟨h.cell 0, h.cell 1, h.cell 2, h.cell 3, h.cell 4, h.cell 5⟩

theorem cell_keep {V W : World} {b d : Nat} {m : Cfg} {x : It} (h : Blk V b m.arr 27) (h2 : Blk V d x.arr 24) (hB : Below V.heap.size V W) : W.cell? ⟨b, 0, none⟩ = some (.int .i64 m.e) ∧ W.cell? ⟨b, 1, none⟩ = some (.bool m.k) ∧ W.cell? ⟨b, 2, none⟩ = some (.int .i64 m.p) ∧ W.cell? ⟨b, 3, none⟩ = some (.int .i64 m.t) ∧ W.cell? ⟨b, 4, none⟩ = some (.int .i64 m.r) ∧ W.cell? ⟨b, 5, none⟩ = some (.int .i64 m.s) ∧ W.cell? ⟨b, 6, none⟩ = some (.int .i64 m.g) ∧ W.cell? ⟨b, 7, none⟩ = some (.int .i64 m.f) ∧ W.cell? ⟨b, 8, none⟩ = some (.int .i64 m.m) ∧ W.cell? ⟨b, 9, none⟩ = some (.int .i64 m.l) ∧ W.cell? ⟨b, 10, none⟩ = some (.int .i64 m.b) ∧ W.cell? ⟨d, 0, none⟩ = some (.int .i64 x.k) ∧ W.cell? ⟨d, 1, none⟩ = some (.int .i64 x.t) ∧ W.cell? ⟨d, 2, none⟩ = some (.int .i64 x.o) ∧ W.cell? ⟨d, 3, none⟩ = some (.int .i64 x.a) ∧ W.cell? ⟨d, 4, none⟩ = some (.int .i64 x.b) ∧ W.cell? ⟨d, 5, none⟩ = some (.int .i64 x.c) := by
  obtain ⟨c0, c1, c2, c3, c4, c5, c6, c7, c8, c9, c10⟩ := cfg_cells (h.on hB)
  obtain ⟨d0, d1, d2, d3, d4, d5⟩ := item_cells (h2.on hB)
  exact ⟨c0, c1, c2, c3, c4, c5, c6, c7, c8, c9, c10, d0, d1, d2, d3, d4, d5⟩

set_option maxRecDepth 100000 in
set_option maxHeartbeats 8000000 in
theorem checks_true (a0 a1 a2 a3 a4 a5 : Nat) (hl : a0 ≤ 255 ∧ a1 ≤ 255 ∧ a2 ≤ 255 ∧ a3 ≤ 255 ∧ a4 ≤ 255 ∧ a5 ≤ 255) (x : It) (w : World) (hT : TabOp w) :
    Calls Tryd.prog 3 #[.agg #[.int .u8 (a0 : Int), .int .u8 (a1 : Int), .int .u8 (a2 : Int), .int .u8 (a3 : Int), .int .u8 (a4 : Int), .int .u8 (a5 : Int)], x.val] w fun e w' => e = .returned (.bool true) ∧ Below w.heap.size w w' := by
  have hB := (below_new w (.cells #[.int .u8 (a0 : Int), .int .u8 (a1 : Int), .int .u8 (a2 : Int), .int .u8 (a3 : Int), .int .u8 (a4 : Int), .int .u8 (a5 : Int)] 22)).alloc (by simp) (.cells x.arr 24)
  have hl6 := (Blk.new w #[.int .u8 (a0 : Int), .int .u8 (a1 : Int), .int .u8 (a2 : Int), .int .u8 (a3 : Int), .int .u8 (a4 : Int), .int .u8 (a5 : Int)] 22).alloc (.cells x.arr 24)
  have hx := Blk.new (w.alloc (.cells #[.int .u8 (a0 : Int), .int .u8 (a1 : Int), .int .u8 (a2 : Int), .int .u8 (a3 : Int), .int .u8 (a4 : Int), .int .u8 (a5 : Int)] 22)) x.arr 24
  rw [World.size_alloc] at hx
  have c0 := ofit_true _ (hT.below hB)
  have HH := Lib.hid (And.intro hB (And.intro hl6 (And.intro hx hT)))
  clear hB hl6 hx hT
  go_enter Tryd.func3, Tryd.ntmps3
  go_wp2_with fail
  refine c0.mono ?_
  rintro e1 w1 ⟨rfl, hB1⟩
  obtain ⟨hB, hl6, hx, hT⟩ := HH.out
  have hB1' := Below.on hB (Nat.le_refl _) hB1
  have hl1 := hl6.on hB1
  have hx1 := hx.on hB1
  clear HH c0 hB hl6 hx hB1
  have g0 := hl1.cell 0
  have g1 := hl1.cell 1
  have g2 := hl1.cell 2
  have g3 := hl1.cell 3
  have g4 := hl1.cell 4
  have g5 := hl1.cell 5
  simp only [List.getElem?_toArray, List.getElem?_cons_succ, List.getElem?_cons_zero] at g0 g1 g2 g3 g4 g5
  have cM := made_any a0 a1 a2 a3 a4 a5 hl w1
  have HH := Lib.hid (And.intro hB1' (And.intro hx1 hT))
  clear hB1' hl1 hx1 hT
  go_wp2_with fail
  refine cM.mono ?_
  rintro e1 w2 ⟨m, rfl, hm, hB2⟩
  obtain ⟨hB, hx, hT⟩ := HH.out
  have hB2' := Below.on hB (Nat.le_refl _) hB2
  have hx2 := (hx.on hB2).alloc (.cells m.arr 27)
  have hm2 := Blk.new w2 m.arr 27
  have hB3 := hB2'.alloc hB2'.size (.cells m.arr 27)
  clear HH cM hB hx hB2 hB2' g0 g1 g2 g3 g4 g5
  have HH := Lib.hid (And.intro hB3 (And.intro hx2 (And.intro hm2 hT)))
  clear hB3 hx2 hm2 hT
  go_wp2_with fail
  obtain ⟨hB3, hx2, hm2, hT⟩ := HH.out
  clear HH
  generalize hV : w2.alloc (.cells m.arr 27) = V at *
  clear hV
  generalize w2.heap.size = bc at *

  have hS : V.cell? ⟨bc, 0, none⟩ = some (.int .i64 m.e) ∧ V.cell? ⟨bc, 1, none⟩ = some (.bool m.k) ∧ V.cell? ⟨bc, 2, none⟩ = some (.int .i64 m.p) ∧ V.cell? ⟨bc, 3, none⟩ = some (.int .i64 m.t) ∧ V.cell? ⟨bc, 4, none⟩ = some (.int .i64 m.r) ∧ V.cell? ⟨bc, 5, none⟩ = some (.int .i64 m.s) ∧ V.cell? ⟨bc, 6, none⟩ = some (.int .i64 m.g) ∧ V.cell? ⟨bc, 7, none⟩ = some (.int .i64 m.f) ∧ V.cell? ⟨bc, 8, none⟩ = some (.int .i64 m.m) ∧ V.cell? ⟨bc, 9, none⟩ = some (.int .i64 m.l) ∧ V.cell? ⟨bc, 10, none⟩ = some (.int .i64 m.b) ∧ V.cell? ⟨w.heap.size + 1, 0, none⟩ = some (.int .i64 x.k) ∧ V.cell? ⟨w.heap.size + 1, 1, none⟩ = some (.int .i64 x.t) ∧ V.cell? ⟨w.heap.size + 1, 2, none⟩ = some (.int .i64 x.o) ∧ V.cell? ⟨w.heap.size + 1, 3, none⟩ = some (.int .i64 x.a) ∧ V.cell? ⟨w.heap.size + 1, 4, none⟩ = some (.int .i64 x.b) ∧ V.cell? ⟨w.heap.size + 1, 5, none⟩ = some (.int .i64 x.c) := by
    obtain ⟨c0, c1, c2, c3, c4, c5, c6, c7, c8, c9, c10⟩ := cfg_cells hm2
    obtain ⟨d0, d1, d2, d3, d4, d5⟩ := item_cells hx2
    exact ⟨c0, c1, c2, c3, c4, c5, c6, c7, c8, c9, c10, d0, d1, d2, d3, d4, d5⟩
  have hTV := hT.below hB3
  have cK := check_any m x V.drew hTV
  have HH := Lib.hid (And.intro hB3 (And.intro hx2 (And.intro hm2 hTV)))
  clear hB3 hx2 hm2 hTV hT hm
  generalize hch : chk m x = r at *
  go_region_held3 (fun W' => W'.cell? ⟨bc, 0, none⟩ = some (.int .i64 m.e) ∧ W'.cell? ⟨bc, 1, none⟩ = some (.bool m.k) ∧ W'.cell? ⟨bc, 2, none⟩ = some (.int .i64 m.p) ∧ W'.cell? ⟨bc, 3, none⟩ = some (.int .i64 m.t) ∧ W'.cell? ⟨bc, 4, none⟩ = some (.int .i64 m.r) ∧ W'.cell? ⟨bc, 5, none⟩ = some (.int .i64 m.s) ∧ W'.cell? ⟨bc, 6, none⟩ = some (.int .i64 m.g) ∧ W'.cell? ⟨bc, 7, none⟩ = some (.int .i64 m.f) ∧ W'.cell? ⟨bc, 8, none⟩ = some (.int .i64 m.m) ∧ W'.cell? ⟨bc, 9, none⟩ = some (.int .i64 m.l) ∧ W'.cell? ⟨bc, 10, none⟩ = some (.int .i64 m.b) ∧ W'.cell? ⟨w.heap.size + 1, 0, none⟩ = some (.int .i64 x.k) ∧ W'.cell? ⟨w.heap.size + 1, 1, none⟩ = some (.int .i64 x.t) ∧ W'.cell? ⟨w.heap.size + 1, 2, none⟩ = some (.int .i64 x.o) ∧ W'.cell? ⟨w.heap.size + 1, 3, none⟩ = some (.int .i64 x.a) ∧ W'.cell? ⟨w.heap.size + 1, 4, none⟩ = some (.int .i64 x.b) ∧ W'.cell? ⟨w.heap.size + 1, 5, none⟩ = some (.int .i64 x.c)) (first | exact hS | exact hS3 | exact hS4)
    (first
      | (go_at_call 10; refine cK.mono ?_; rintro e' w3 ⟨rfl, hB3a⟩; have hB3b : Below V.heap.size V w3 := ((Below.refl _ V).drew).trans hB3a; have hS3 : w3.cell? ⟨bc, 0, none⟩ = some (.int .i64 m.e) ∧ w3.cell? ⟨bc, 1, none⟩ = some (.bool m.k) ∧ w3.cell? ⟨bc, 2, none⟩ = some (.int .i64 m.p) ∧ w3.cell? ⟨bc, 3, none⟩ = some (.int .i64 m.t) ∧ w3.cell? ⟨bc, 4, none⟩ = some (.int .i64 m.r) ∧ w3.cell? ⟨bc, 5, none⟩ = some (.int .i64 m.s) ∧ w3.cell? ⟨bc, 6, none⟩ = some (.int .i64 m.g) ∧ w3.cell? ⟨bc, 7, none⟩ = some (.int .i64 m.f) ∧ w3.cell? ⟨bc, 8, none⟩ = some (.int .i64 m.m) ∧ w3.cell? ⟨bc, 9, none⟩ = some (.int .i64 m.l) ∧ w3.cell? ⟨bc, 10, none⟩ = some (.int .i64 m.b) ∧ w3.cell? ⟨w.heap.size + 1, 0, none⟩ = some (.int .i64 x.k) ∧ w3.cell? ⟨w.heap.size + 1, 1, none⟩ = some (.int .i64 x.t) ∧ w3.cell? ⟨w.heap.size + 1, 2, none⟩ = some (.int .i64 x.o) ∧ w3.cell? ⟨w.heap.size + 1, 3, none⟩ = some (.int .i64 x.a) ∧ w3.cell? ⟨w.heap.size + 1, 4, none⟩ = some (.int .i64 x.b) ∧ w3.cell? ⟨w.heap.size + 1, 5, none⟩ = some (.int .i64 x.c) := (cell_keep HH.out.2.2.1 HH.out.2.1 hB3b); have cL := lcheck_any m x w3)
      | (go_at_call 11; refine cL.mono ?_; rintro e' w4 ⟨rfl, hB4a⟩; have hB4b : Below V.heap.size V w4 := Below.on hB3b (Nat.le_refl _) hB4a; have hS4 : w4.cell? ⟨bc, 0, none⟩ = some (.int .i64 m.e) ∧ w4.cell? ⟨bc, 1, none⟩ = some (.bool m.k) ∧ w4.cell? ⟨bc, 2, none⟩ = some (.int .i64 m.p) ∧ w4.cell? ⟨bc, 3, none⟩ = some (.int .i64 m.t) ∧ w4.cell? ⟨bc, 4, none⟩ = some (.int .i64 m.r) ∧ w4.cell? ⟨bc, 5, none⟩ = some (.int .i64 m.s) ∧ w4.cell? ⟨bc, 6, none⟩ = some (.int .i64 m.g) ∧ w4.cell? ⟨bc, 7, none⟩ = some (.int .i64 m.f) ∧ w4.cell? ⟨bc, 8, none⟩ = some (.int .i64 m.m) ∧ w4.cell? ⟨bc, 9, none⟩ = some (.int .i64 m.l) ∧ w4.cell? ⟨bc, 10, none⟩ = some (.int .i64 m.b) ∧ w4.cell? ⟨w.heap.size + 1, 0, none⟩ = some (.int .i64 x.k) ∧ w4.cell? ⟨w.heap.size + 1, 1, none⟩ = some (.int .i64 x.t) ∧ w4.cell? ⟨w.heap.size + 1, 2, none⟩ = some (.int .i64 x.o) ∧ w4.cell? ⟨w.heap.size + 1, 3, none⟩ = some (.int .i64 x.a) ∧ w4.cell? ⟨w.heap.size + 1, 4, none⟩ = some (.int .i64 x.b) ∧ w4.cell? ⟨w.heap.size + 1, 5, none⟩ = some (.int .i64 x.c) := (cell_keep HH.out.2.2.1 HH.out.2.1 hB4b)))
  go_wp2_with fail
  trace_state
  go_ret
  exact ⟨rfl, Below.on HH.out.1 (Nat.le_refl _) hB4b⟩
end Go.Proofs.YtdkakbddhckbnaaDoor
