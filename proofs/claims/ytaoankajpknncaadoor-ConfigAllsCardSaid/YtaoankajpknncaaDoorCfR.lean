/- ConfigAlls, walked; at this seat's numbers. -/
import Derived.Test.YtaoankajpknncaaDoorCfS
namespace Go.Proofs.YtaoankajpknncaaDoor
open Go Go.RowKit
set_option linter.unusedSimpArgs false
set_option linter.unusedVariables false
attribute [local go_sem] Oper.semAt_some

theorem allC_len7 (m : Cfg) (hm : m.may = true) : (allC m 8).length = 7 := by
  have hr : m.rest = true := by
    rw [Cfg.may_rest] at hm
    simp only [Bool.and_eq_true] at hm
    exact hm.2.1
  have h : ∀ (e : Int) (k : Bool), (m.at e k).may = (inB e 0 3 && (!decide (e = 2) || k)) := fun e k => by
    rw [Cfg.may_rest, Cfg.at_rest, hr]
    rfl
  simp only [allC, h]
  rfl
theorem self_mem (c : Cfg) : c ∈ allC c 8 ↔ c.may = true := by
  rw [allC_mem]
  constructor
  · rintro ⟨i, _, _, h⟩
    exact h
  · intro h
    have hb := (Cfg.may_nums c).1 h
    have he := inB_iff.1 (hb.1 0 (by decide))
    have h0 : 0 ≤ c.e ∧ c.e ≤ 3 := he
    obtain ⟨n, hn⟩ := Int.eq_ofNat_of_zero_le h0.1
    cases hk : c.k
    · refine ⟨2 * n, by omega, ?_, h⟩
      rw [show 2 * n / 2 = n by omega, show (2 * n % 2 == 1) = false by rw [show 2 * n % 2 = 0 by omega]; rfl]
      have : c.at c.e c.k = c := c.at_self
      rw [hn, hk] at this
      exact this.symm
    · refine ⟨2 * n + 1, by omega, ?_, h⟩
      rw [show (2 * n + 1) / 2 = n by omega, show ((2 * n + 1) % 2 == 1) = true by rw [show (2 * n + 1) % 2 = 1 by omega]; rfl]
      have : c.at c.e c.k = c := c.at_self
      rw [hn, hk] at this
      exact this.symm
theorem allC_elem {m d : Cfg} {q : Nat} (h : (allC m 8)[q]? = some d) : allC d 8 = allC m 8 := by
  have := (allC_mem m 8 d).1 (List.mem_of_getElem? h)
  obtain ⟨i, _, rfl, _⟩ := this
  exact allC_at _ _ _ _
def inTake (m : Cfg) (L : List Cfg) (q : Nat) : Bool := decide (m ∈ L.take q)
theorem inTake_succ {m d : Cfg} {L : List Cfg} {q : Nat} (h : L[q]? = some d) : inTake m L (q + 1) = (inTake m L q || decide (d = m)) := by
  unfold inTake
  rw [List.take_add_one, h, Bool.eq_iff_iff]
  simp only [Option.toList_some, List.mem_append, List.mem_singleton, decide_eq_true_iff, Bool.or_eq_true]
  constructor
  · rintro (h | h)
    · exact .inl h
    · exact .inr h.symm
  · rintro (h | h)
    · exact .inl h
    · exact .inr h.symm
theorem inTake_all (m : Cfg) (L : List Cfg) : inTake m L L.length = decide (m ∈ L) := by unfold inTake; rw [List.take_length]
theorem below_newS (w : World) (o : Obj) : Below w.heap.size w (w.alloc o) := (Below.refl _ _).alloc (Nat.le_refl _) o

structure AlI (m c : Cfg) (w : World) (a0 : Option Addr) (bx bc : Nat) (wr : World) : Prop where
  bm : Blk wr bx m.arr 23
  box : Blk wr bc c.arr 23
  row : RowAt wr a0 (allC m 8)
  below : Below w.heap.size w wr
theorem AlI.on {m c : Cfg} {w : World} {a0 : Option Addr} {bx bc : Nat} {wr w' : World} (h : AlI m c w a0 bx bc wr) (hB : Below wr.heap.size wr w') : AlI m c w a0 bx bc w' :=
  ⟨h.bm.on hB, h.box.on hB, h.row.on hB, Below.on h.below (Nat.le_refl _) hB⟩
structure IsI (c : Cfg) (w : World) (a0 : Option Addr) (bc : Nat) (wr : World) : Prop where
  box : Blk wr bc c.arr 23
  row : RowAt wr a0 (allC c 8)
  below : Below w.heap.size w wr
theorem IsI.on {c : Cfg} {w : World} {a0 : Option Addr} {bc : Nat} {wr w' : World} (h : IsI c w a0 bc wr) (hB : Below wr.heap.size wr w') : IsI c w a0 bc w' :=
  ⟨h.box.on hB, h.row.on hB, Below.on h.below (Nat.le_refl _) hB⟩
def gid (p : Prop) : Prop := p

set_option maxRecDepth 100000 in
set_option maxHeartbeats 8000000 in
theorem alls_true (a0 a1 a2 a3 a4 a5 : Nat) (hl : a0 ≤ 255 ∧ a1 ≤ 255 ∧ a2 ≤ 255 ∧ a3 ≤ 255 ∧ a4 ≤ 255 ∧ a5 ≤ 255) (c : Cfg) (w : World) (hT : NamesAt w) :
    Calls Tryd.prog 7 #[.agg #[.int .u8 (a0 : Int), .int .u8 (a1 : Int), .int .u8 (a2 : Int), .int .u8 (a3 : Int), .int .u8 (a4 : Int), .int .u8 (a5 : Int)], c.val] w fun e w' => e = .returned (.bool true) ∧ Below w.heap.size w w' := by
  have hB := ((Below.refl w.heap.size w).alloc (Nat.le_refl _) (.cells #[.int .u8 (a0 : Int), .int .u8 (a1 : Int), .int .u8 (a2 : Int), .int .u8 (a3 : Int), .int .u8 (a4 : Int), .int .u8 (a5 : Int)] 24)).alloc (by simp) (.cells c.arr 23)
  have hl6 := (Blk.new w #[.int .u8 (a0 : Int), .int .u8 (a1 : Int), .int .u8 (a2 : Int), .int .u8 (a3 : Int), .int .u8 (a4 : Int), .int .u8 (a5 : Int)] 24).alloc (.cells c.arr 23)
  have hb := Blk.new (w.alloc (.cells #[.int .u8 (a0 : Int), .int .u8 (a1 : Int), .int .u8 (a2 : Int), .int .u8 (a3 : Int), .int .u8 (a4 : Int), .int .u8 (a5 : Int)] 24)) c.arr 23
  rw [World.size_alloc] at hb
  have c0 := cfit_true ((w.alloc (.cells #[.int .u8 (a0 : Int), .int .u8 (a1 : Int), .int .u8 (a2 : Int), .int .u8 (a3 : Int), .int .u8 (a4 : Int), .int .u8 (a5 : Int)] 24)).alloc (.cells c.arr 23)) (hT.below hB)
  have HH := Lib.hid (And.intro hB (And.intro hl6 hb))
  clear hB hl6 hb hT
  go_enter Tryd.func7, Tryd.ntmps7
  go_wp2_with fail
  refine c0.mono ?_
  rintro e1 w1 ⟨rfl, hB1⟩
  obtain ⟨hB, hl6, hb⟩ := HH.out
  have hB1' := Below.on hB (Nat.le_refl _) hB1
  have hl1 := hl6.on hB1
  have hb1 := hb.on hB1
  clear HH c0 hB hl6 hb hB1
  have g0 := hl1.cell 0
  have g1 := hl1.cell 1
  have g2 := hl1.cell 2
  have g3 := hl1.cell 3
  have g4 := hl1.cell 4
  have g5 := hl1.cell 5
  simp only [List.getElem?_toArray, List.getElem?_cons_succ, List.getElem?_cons_zero] at g0 g1 g2 g3 g4 g5
  have cA := made_any a0 a1 a2 a3 a4 a5 hl w1
  have HH := Lib.hid (And.intro hB1' hb1)
  clear hB1' hl1 hb1
  go_wp2_with fail
  refine cA.mono ?_
  rintro e1 w2 ⟨m, rfl, hm, hB2⟩
  obtain ⟨hB, hb⟩ := HH.out
  have hB2' := Below.on hB (Nat.le_refl _) hB2
  have hb2 := hb.on hB2
  clear HH cA hB hb hB2 g0 g1 g2 g3 g4 g5
  have hbx := Blk.new w2 m.arr 23
  have hB3 := hB2'.alloc hB2'.size (.cells m.arr 23)
  have hb3 := hb2.alloc (.cells m.arr 23)
  have cL := all_any m (w2.alloc (.cells m.arr 23))
  have HM := Lib.hid hm
  have HH := Lib.hid (And.intro hbx (And.intro hB3 hb3))
  clear hbx hB3 hb3 hB2' hb2 hm
  go_wp2_with fail
  refine cL.mono ?_
  rintro e1 w4 ⟨v, rfl, hr, _, hB4⟩
  obtain ⟨z0, cap, rfl, hrw⟩ := hr.form
  obtain ⟨hbx, hB3, hb3⟩ := HH.out
  have hI0 : AlI m c w z0 w2.heap.size (w.heap.size + 1) w4 := ⟨hbx.on hB4, hb3.on hB4, hrw, Below.on hB3 (Nat.le_refl _) hB4⟩
  have hl7 := allC_len7 m HM.out
  clear HH cL hr hbx hB3 hb3 hB4 hrw
  rw [hl7] at ⊢
  have HL := Lib.hid hl7
  clear hl7
  go_wp2_with fail
  generalize w2.heap.size = bx at *
  generalize w.heap.size + 1 = bc at *
  go_loopw [7, 23] (fun v7 v23 wr => ∃ q : Nat, q ≤ 7 ∧ v7 = .bool (inTake m (allC m 8) q) ∧ v23 = .int .i64 (q : Int) ∧ AlI m c w z0 bx bc wr) (fun _ v23 _ => 7 - (intOf v23).toNat)
  case atStart => exact ⟨0, by decide, rfl, rfl, hI0⟩
  case round =>
    clear hI0
    obtain ⟨q, hq, rfl, rfl, hI⟩ := hrel
    by_cases hlt : q < 7
    · have hltI : (q : Int) < 7 := by omega
      obtain ⟨d, hd⟩ : ∃ d, (allC m 8)[q]? = some d := ⟨_, List.getElem?_eq_getElem (by have := HL.out; omega)⟩
      obtain ⟨g, rfl, hg, hc⟩ := hI.row q d hd
      have f0 := hc 0 (by decide)
      have f1 := hc 1 (by decide)
      have f2 := hc 2 (by decide)
      have f3 := hc 3 (by decide)
      have f4 := hc 4 (by decide)
      have f5 := hc 5 (by decide)
      have f6 := hc 6 (by decide)
      have f7 := hc 7 (by decide)
      have f8 := hc 8 (by decide)
      have f9 := hc 9 (by decide)
      have f10 := hc 10 (by decide)
      simp only [Cfg.cells, List.getElem?_cons_succ, List.getElem?_cons_zero, Nat.add_zero] at f0 f1 f2 f3 f4 f5 f6 f7 f8 f9 f10
      have hnew := below_newS wr (.cells d.arr 23)
      have hI1 := hI.on hnew
      have hby := Blk.new wr d.arr 23
      have x0 := hI1.bm.cell 0
      have x1 := hI1.bm.cell 1
      have x2 := hI1.bm.cell 2
      have x3 := hI1.bm.cell 3
      have x4 := hI1.bm.cell 4
      have x5 := hI1.bm.cell 5
      have x6 := hI1.bm.cell 6
      have x7 := hI1.bm.cell 7
      have x8 := hI1.bm.cell 8
      have x9 := hI1.bm.cell 9
      have x10 := hI1.bm.cell 10
      have y0 := hby.cell 0
      have y1 := hby.cell 1
      have y2 := hby.cell 2
      have y3 := hby.cell 3
      have y4 := hby.cell 4
      have y5 := hby.cell 5
      have y6 := hby.cell 6
      have y7 := hby.cell 7
      have y8 := hby.cell 8
      have y9 := hby.cell 9
      have y10 := hby.cell 10
      simp only [List.getElem?_toArray, List.getElem?_cons_succ, List.getElem?_cons_zero] at x0 x1 x2 x3 x4 x5 x6 x7 x8 x9 x10 y0 y1 y2 y3 y4 y5 y6 y7 y8 y9 y10
      have hE : ∀ W, (binOp .eql 23 d.val m.val).run Tryd.prog W = .ok (.bool (decide (d = m))) W := eql_cfg d m
      have hS := inTake_succ (m := m) hd
      have cL := all_any d (wr.alloc (.cells d.arr 23))
      rw [allC_elem hd] at cL
      have HH := Lib.hid (And.intro hS (And.intro hI1 hd))
      clear hI hI1 hS hd hc hby hnew
      generalize hfq : inTake m (allC m 8) q = fq at *
      generalize hdm : decide (d = m) = dm at *
      cases fq
      · clear hfq hdm
        go_wp2_with fail
        refine cL.mono ?_
        rintro e1 w5 ⟨v, rfl, hr, _, hB5⟩
        obtain ⟨z1, cap1, rfl, hrw⟩ := hr.form
        obtain ⟨hS, hI1, hd⟩ := HH.out
        have hI2 := hI1.on hB5
        rw [HL.out]
        clear HH cL hr hB5 hI1 hE f0 f1 f2 f3 f4 f5 f6 f7 f8 f9 f10 x0 x1 x2 x3 x4 x5 x6 x7 x8 x9 x10 y0 y1 y2 y3 y4 y5 y6 y7 y8 y9 y10
        have HS := Lib.hid hS
        clear hS
        go_wp2_with fail
        go_loopw [42] (fun v42 wx => ∃ j : Nat, j ≤ 7 ∧ v42 = .int .i64 (j : Int) ∧ AlI m c w (some ⟨g, 0, none⟩) bx bc wx ∧ RowAt wx z1 (allC m 8)) (fun v42 _ => 7 - (intOf v42).toNat)
        case atStart => exact ⟨0, by decide, rfl, hI2, hrw⟩
        case round =>
          clear hI2 hrw
          obtain ⟨j, hj, rfl, hI, hrw⟩ := hrel
          by_cases hjl : j < 7
          · have hjI : (j : Int) < 7 := by omega
            have hj0 : (0 : Int) ≤ (j : Int) := by omega
            obtain ⟨x, hx⟩ : ∃ x, (allC m 8)[j]? = some x := ⟨_, List.getElem?_eq_getElem (by have := HL.out; omega)⟩
            obtain ⟨g2, e2, _, hc⟩ := hI.row j x hx
            cases e2
            obtain ⟨g1, rfl, _, hc1⟩ := hrw j x hx
            have f0 := hc 0 (by decide)
            have f1 := hc 1 (by decide)
            have f2 := hc 2 (by decide)
            have f3 := hc 3 (by decide)
            have f4 := hc 4 (by decide)
            have f5 := hc 5 (by decide)
            have f6 := hc 6 (by decide)
            have f7 := hc 7 (by decide)
            have f8 := hc 8 (by decide)
            have f9 := hc 9 (by decide)
            have f10 := hc 10 (by decide)
            have y0 := hc1 0 (by decide)
            have y1 := hc1 1 (by decide)
            have y2 := hc1 2 (by decide)
            have y3 := hc1 3 (by decide)
            have y4 := hc1 4 (by decide)
            have y5 := hc1 5 (by decide)
            have y6 := hc1 6 (by decide)
            have y7 := hc1 7 (by decide)
            have y8 := hc1 8 (by decide)
            have y9 := hc1 9 (by decide)
            have y10 := hc1 10 (by decide)
            simp only [Cfg.cells, List.getElem?_cons_succ, List.getElem?_cons_zero, Nat.add_zero] at f0 f1 f2 f3 f4 f5 f6 f7 f8 f9 f10 y0 y1 y2 y3 y4 y5 y6 y7 y8 y9 y10
            have hne : ∀ W, (binOp .neq 23 x.val x.val).run Tryd.prog W = .ok (.bool false) W := fun W => by
              have := neq_cfg x x W
              rw [decide_eq_true rfl] at this
              exact this
            have hDr := (Below.refl wr.heap.size wr).drew
            have HH2 := Lib.hid (And.intro (hI.on hDr) (hrw.on hDr))
            clear hI hrw hc hc1 hx hDr
            go_wp2_with fail
            go_region
            clear hne f0 f1 f2 f3 f4 f5 f6 f7 f8 f9 f10 y0 y1 y2 y3 y4 y5 y6 y7 y8 y9 y10
            go_wp2_with fail
            go_roundw
            case rel => exact ⟨j + 1, by omega, by go_num, HH2.out⟩
            case measure => simp [intOf]; omega
          · obtain rfl : j = 7 := by omega
            have hN : ¬ ((7 : Nat) : Int) < 7 := by omega
            have HH2 := Lib.hid hI
            clear hI hrw hj hjl
            go_wp2_with fail
            go_roundw
            case rel => exact ⟨q + 1, by omega, by rw [HS.out]; rfl, by go_num, HH2.out⟩
            case measure => simp [intOf]; omega
      · clear hfq hdm
        go_wp2_with fail
        refine cL.mono ?_
        rintro e1 w5 ⟨v, rfl, hr, _, hB5⟩
        obtain ⟨z1, cap1, rfl, hrw⟩ := hr.form
        obtain ⟨hS, hI1, hd⟩ := HH.out
        have hI2 := hI1.on hB5
        rw [HL.out]
        clear HH cL hr hB5 hI1 hE f0 f1 f2 f3 f4 f5 f6 f7 f8 f9 f10 x0 x1 x2 x3 x4 x5 x6 x7 x8 x9 x10 y0 y1 y2 y3 y4 y5 y6 y7 y8 y9 y10
        have HS := Lib.hid hS
        clear hS
        go_wp2_with fail
        go_loopw [42] (fun v42 wx => ∃ j : Nat, j ≤ 7 ∧ v42 = .int .i64 (j : Int) ∧ AlI m c w (some ⟨g, 0, none⟩) bx bc wx ∧ RowAt wx z1 (allC m 8)) (fun v42 _ => 7 - (intOf v42).toNat)
        case atStart => exact ⟨0, by decide, rfl, hI2, hrw⟩
        case round =>
          clear hI2 hrw
          obtain ⟨j, hj, rfl, hI, hrw⟩ := hrel
          by_cases hjl : j < 7
          · have hjI : (j : Int) < 7 := by omega
            have hj0 : (0 : Int) ≤ (j : Int) := by omega
            obtain ⟨x, hx⟩ : ∃ x, (allC m 8)[j]? = some x := ⟨_, List.getElem?_eq_getElem (by have := HL.out; omega)⟩
            obtain ⟨g2, e2, _, hc⟩ := hI.row j x hx
            cases e2
            obtain ⟨g1, rfl, _, hc1⟩ := hrw j x hx
            have f0 := hc 0 (by decide)
            have f1 := hc 1 (by decide)
            have f2 := hc 2 (by decide)
            have f3 := hc 3 (by decide)
            have f4 := hc 4 (by decide)
            have f5 := hc 5 (by decide)
            have f6 := hc 6 (by decide)
            have f7 := hc 7 (by decide)
            have f8 := hc 8 (by decide)
            have f9 := hc 9 (by decide)
            have f10 := hc 10 (by decide)
            have y0 := hc1 0 (by decide)
            have y1 := hc1 1 (by decide)
            have y2 := hc1 2 (by decide)
            have y3 := hc1 3 (by decide)
            have y4 := hc1 4 (by decide)
            have y5 := hc1 5 (by decide)
            have y6 := hc1 6 (by decide)
            have y7 := hc1 7 (by decide)
            have y8 := hc1 8 (by decide)
            have y9 := hc1 9 (by decide)
            have y10 := hc1 10 (by decide)
            simp only [Cfg.cells, List.getElem?_cons_succ, List.getElem?_cons_zero, Nat.add_zero] at f0 f1 f2 f3 f4 f5 f6 f7 f8 f9 f10 y0 y1 y2 y3 y4 y5 y6 y7 y8 y9 y10
            have hne : ∀ W, (binOp .neq 23 x.val x.val).run Tryd.prog W = .ok (.bool false) W := fun W => by
              have := neq_cfg x x W
              rw [decide_eq_true rfl] at this
              exact this
            have hDr := (Below.refl wr.heap.size wr).drew
            have HH2 := Lib.hid (And.intro (hI.on hDr) (hrw.on hDr))
            clear hI hrw hc hc1 hx hDr
            go_wp2_with fail
            go_region
            clear hne f0 f1 f2 f3 f4 f5 f6 f7 f8 f9 f10 y0 y1 y2 y3 y4 y5 y6 y7 y8 y9 y10
            go_wp2_with fail
            go_roundw
            case rel => exact ⟨j + 1, by omega, by go_num, HH2.out⟩
            case measure => simp [intOf]; omega
          · obtain rfl : j = 7 := by omega
            have hN : ¬ ((7 : Nat) : Int) < 7 := by omega
            have HH2 := Lib.hid hI
            clear hI hrw hj hjl
            go_wp2_with fail
            go_roundw
            case rel => exact ⟨q + 1, by omega, by rw [HS.out]; rfl, by go_num, HH2.out⟩
            case measure => simp [intOf]; omega
    · obtain rfl : q = 7 := by omega
      have hN : ¬ ((7 : Nat) : Int) < 7 := by omega
      have hin : inTake m (allC m 8) 7 = true := by
        have h := inTake_all m (allC m 8)
        rw [HL.out] at h
        rw [h]
        exact decide_eq_true ((self_mem m).2 HM.out)
      rw [hin]
      have cL := all_any c wr
      have f0 := hI.box.cell 0
      have f1 := hI.box.cell 1
      have f2 := hI.box.cell 2
      have f3 := hI.box.cell 3
      have f4 := hI.box.cell 4
      have f5 := hI.box.cell 5
      have f6 := hI.box.cell 6
      have f7 := hI.box.cell 7
      have f8 := hI.box.cell 8
      have f9 := hI.box.cell 9
      have f10 := hI.box.cell 10
      simp only [List.getElem?_toArray, List.getElem?_cons_succ, List.getElem?_cons_zero] at f0 f1 f2 f3 f4 f5 f6 f7 f8 f9 f10
      have HH := Lib.hid hI
      clear hI hin hlt hq
      go_wp2_with fail
      refine cL.mono ?_
      rintro e1 w5 ⟨v, rfl, hr, _, hB5⟩
      obtain ⟨z1, cap1, rfl, hrw⟩ := hr.form
      have hI := HH.out
      have hJ0 : IsI c w z1 bc w5 := ⟨hI.box.on hB5, hrw, Below.on hI.below (Nat.le_refl _) hB5⟩
      obtain ⟨len, hlen⟩ : ∃ len : Nat, len = (allC c 8).length := ⟨_, rfl⟩
      have hL8 := allC_le c 8
      rw [← hlen] at hL8 ⊢
      have HLC := Lib.hid hlen
      clear HH cL hr hB5 hrw hI hlen f0 f1 f2 f3 f4 f5 f6 f7 f8 f9 f10
      go_wp2_with fail
      go_loopw [12, 59] (fun v12 v59 wr => ∃ q : Nat, q ≤ len ∧ v12 = .bool (inTake c (allC c 8) q) ∧ v59 = .int .i64 (q : Int) ∧ IsI c w z1 bc wr) (fun _ v59 _ => len - (intOf v59).toNat)
      case atStart => exact ⟨0, Nat.zero_le _, rfl, rfl, hJ0⟩
      case round =>
        clear hJ0
        obtain ⟨q, hq, rfl, rfl, hI⟩ := hrel
        by_cases hlt : q < len
        · have hltI : (q : Int) < (len : Int) := by omega
          obtain ⟨d, hd⟩ : ∃ d, (allC c 8)[q]? = some d := ⟨_, List.getElem?_eq_getElem (by have := HLC.out; omega)⟩
          obtain ⟨g, rfl, hg, hc⟩ := hI.row q d hd
          have f0 := hc 0 (by decide)
          have f1 := hc 1 (by decide)
          have f2 := hc 2 (by decide)
          have f3 := hc 3 (by decide)
          have f4 := hc 4 (by decide)
          have f5 := hc 5 (by decide)
          have f6 := hc 6 (by decide)
          have f7 := hc 7 (by decide)
          have f8 := hc 8 (by decide)
          have f9 := hc 9 (by decide)
          have f10 := hc 10 (by decide)
          simp only [Cfg.cells, List.getElem?_cons_succ, List.getElem?_cons_zero, Nat.add_zero] at f0 f1 f2 f3 f4 f5 f6 f7 f8 f9 f10
          have hnew := below_newS wr (.cells d.arr 23)
          have hI1 := hI.on hnew
          have hby := Blk.new wr d.arr 23
          have x0 := hI1.box.cell 0
          have x1 := hI1.box.cell 1
          have x2 := hI1.box.cell 2
          have x3 := hI1.box.cell 3
          have x4 := hI1.box.cell 4
          have x5 := hI1.box.cell 5
          have x6 := hI1.box.cell 6
          have x7 := hI1.box.cell 7
          have x8 := hI1.box.cell 8
          have x9 := hI1.box.cell 9
          have x10 := hI1.box.cell 10
          have y0 := hby.cell 0
          have y1 := hby.cell 1
          have y2 := hby.cell 2
          have y3 := hby.cell 3
          have y4 := hby.cell 4
          have y5 := hby.cell 5
          have y6 := hby.cell 6
          have y7 := hby.cell 7
          have y8 := hby.cell 8
          have y9 := hby.cell 9
          have y10 := hby.cell 10
          simp only [List.getElem?_toArray, List.getElem?_cons_succ, List.getElem?_cons_zero] at x0 x1 x2 x3 x4 x5 x6 x7 x8 x9 x10 y0 y1 y2 y3 y4 y5 y6 y7 y8 y9 y10
          have hE : ∀ W, (binOp .eql 23 d.val c.val).run Tryd.prog W = .ok (.bool (decide (d = c))) W := eql_cfg d c
          have hS := inTake_succ (m := c) hd
          have HH := Lib.hid (And.intro hS hI1)
          clear hI hI1 hS hd hc hby hnew
          generalize hfq : inTake c (allC c 8) q = fq at *
          generalize hdm : decide (d = c) = dm at *
          cases fq
          · clear hfq hdm
            go_wp2_with fail
            go_roundw
            case rel => exact ⟨q + 1, by omega, by rw [HH.out.1]; rfl, by go_num, HH.out.2⟩
            case measure => simp [intOf]; omega
          · clear hfq hdm
            go_wp2_with fail
            go_roundw
            case rel => exact ⟨q + 1, by omega, by rw [HH.out.1]; rfl, by go_num, HH.out.2⟩
            case measure => simp [intOf]; omega
        · obtain rfl : q = len := by omega
          have hN : ¬ (q : Int) < (q : Int) := by omega
          have hin : inTake c (allC c 8) q = c.may := by
            have h := inTake_all c (allC c 8)
            rw [← HLC.out] at h
            rw [h, Bool.eq_iff_iff, decide_eq_true_iff]
            exact self_mem c
          rw [hin]
          have cM := may_any c wr
          generalize c.may = cm at *
          have hcm : (cm == cm) = true := by simp
          have f0 := hI.box.cell 0
          have f1 := hI.box.cell 1
          have f2 := hI.box.cell 2
          have f3 := hI.box.cell 3
          have f4 := hI.box.cell 4
          have f5 := hI.box.cell 5
          have f6 := hI.box.cell 6
          have f7 := hI.box.cell 7
          have f8 := hI.box.cell 8
          have f9 := hI.box.cell 9
          have f10 := hI.box.cell 10
          simp only [List.getElem?_toArray, List.getElem?_cons_succ, List.getElem?_cons_zero] at f0 f1 f2 f3 f4 f5 f6 f7 f8 f9 f10
          have HB := Lib.hid hI.below
          clear hI hin hlt hq hL8
          go_wp2_with fail
          refine cM.mono ?_
          rintro e1 w7 ⟨rfl, hB7⟩
          have HB2 := Lib.hid (Below.on HB.out (Nat.le_refl _) hB7)
          clear cM HB hB7 f0 f1 f2 f3 f4 f5 f6 f7 f8 f9 f10
          go_wp2_with fail
          go_ret
          exact ⟨rfl, HB2.out⟩
end Go.Proofs.YtaoankajpknncaaDoor
