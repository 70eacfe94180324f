/- OpRegs, walked; at this seat's numbers. -/
import Derived.Test.YtdkakbddhckbnaaDoorOpI
namespace Go.Proofs.YtdkakbddhckbnaaDoor
open Go Go.RowKit
set_option linter.unusedSimpArgs false
set_option linter.unusedVariables false
attribute [local go_sem] Oper.semAt_some

/-- The boxes of OpRegs: an item, three bytes, a configuration. -/
structure RegB (x : It) (b0 b1 b2 : Nat) (m : Cfg) (w : World) (bc : Nat) (W : World) : Prop where
  xb : Blk W (w.heap.size + 1) x.arr 24
  tb : Blk W (w.heap.size + 2) #[.int .u8 (b0 : Int), .int .u8 (b1 : Int), .int .u8 (b2 : Int)] 41
  cb : Blk W bc m.arr 27
  below : Below w.heap.size w W
  tab : TabOp W
theorem RegB.on {x : It} {b0 b1 b2 : Nat} {m : Cfg} {w : World} {bc : Nat} {W W' : World} (h : RegB x b0 b1 b2 m w bc W) (hB : Below W.heap.size W W') : RegB x b0 b1 b2 m w bc W' :=
  ⟨h.xb.on hB, h.tb.on hB, h.cb.on hB, Below.on h.below (Nat.le_refl _) hB, h.tab.below hB⟩
theorem regsOf_no {x : It} (h : inR x.o 13 = false) : regsOf x = [] := by
  unfold regsOf
  rw [opOf_no h]
  rfl
theorem chk_four (m : Cfg) (x : It) (h : inR x.o 13 = true) : (chk m x == 4) = !((regsOf x).all fun r => inR r m.r) := by
  unfold chk
  rw [h]
  generalize ((regsOf x).all fun r => inR r m.r) = q
  cases q
  · rfl
  · generalize (opOf x.o).g = g
    generalize (opOf x.o).s = s
    generalize inR x.b m.g = i
    generalize decide (x.b < 0) = l
    generalize decide (m.f < x.b) = t
    cases g <;> cases s <;> cases i <;> cases l <;> cases t <;> rfl
theorem chk_one (m : Cfg) (x : It) (h : inR x.o 13 = true) : (chk m x == 1) = false := by
  unfold chk
  rw [h]
  generalize ((regsOf x).all fun r => inR r m.r) = q
  generalize (opOf x.o).g = g
  generalize (opOf x.o).s = s
  generalize inR x.b m.g = i
  generalize decide (x.b < 0) = l
  generalize decide (m.f < x.b) = t
  cases q <;> cases g <;> cases s <;> cases i <;> cases l <;> cases t <;> rfl
theorem regsOf_in (x : It) (n : Int) (ha : inR x.a n = true) (hb : inR x.b n = true) (hc : inR x.c n = true) : ((regsOf x).all fun r => inR r n) = true := by
  unfold regsOf
  cases (opOf x.o).a <;> cases (opOf x.o).b <;> cases (opOf x.o).c <;> simp [ha, hb, hc]
theorem all_next {l : List Int} {p : Nat} {r : Int} {f : Int → Bool} {q1 q2 : Bool} (h : (l.take p).all f = q1) (hr : l[p]? = some r) (hf : f r = q2) : (l.take (p + 1)).all f = (q1 && q2) := by
  rw [List.take_add_one, hr, List.all_append, h]
  simp [hf]

set_option maxRecDepth 100000 in
set_option maxHeartbeats 8000000 in
theorem oregs_true (a0 a1 a2 a3 a4 a5 : Nat) (hl : a0 ≤ 255 ∧ a1 ≤ 255 ∧ a2 ≤ 255 ∧ a3 ≤ 255 ∧ a4 ≤ 255 ∧ a5 ≤ 255) (x : It) (b0 b1 b2 : Nat) (hbb : b0 ≤ 255 ∧ b1 ≤ 255 ∧ b2 ≤ 255) (w : World) (hT : TabOp w) :
    Calls Tryd.prog 5 #[.agg #[.int .u8 (a0 : Int), .int .u8 (a1 : Int), .int .u8 (a2 : Int), .int .u8 (a3 : Int), .int .u8 (a4 : Int), .int .u8 (a5 : Int)], x.val, .agg #[.int .u8 (b0 : Int), .int .u8 (b1 : Int), .int .u8 (b2 : Int)]] w fun e w' => e = .returned (.bool true) ∧ Below w.heap.size w w' := by
  have hB := ((below_new w (.cells #[.int .u8 (a0 : Int), .int .u8 (a1 : Int), .int .u8 (a2 : Int), .int .u8 (a3 : Int), .int .u8 (a4 : Int), .int .u8 (a5 : Int)] 22)).alloc (by simp) (.cells x.arr 24)).alloc (by simp; omega) (.cells #[.int .u8 (b0 : Int), .int .u8 (b1 : Int), .int .u8 (b2 : Int)] 41)
  have hl6 := ((Blk.new w #[.int .u8 (a0 : Int), .int .u8 (a1 : Int), .int .u8 (a2 : Int), .int .u8 (a3 : Int), .int .u8 (a4 : Int), .int .u8 (a5 : Int)] 22).alloc (.cells x.arr 24)).alloc (.cells #[.int .u8 (b0 : Int), .int .u8 (b1 : Int), .int .u8 (b2 : Int)] 41)
  have hx := (Blk.new (w.alloc (.cells #[.int .u8 (a0 : Int), .int .u8 (a1 : Int), .int .u8 (a2 : Int), .int .u8 (a3 : Int), .int .u8 (a4 : Int), .int .u8 (a5 : Int)] 22)) x.arr 24).alloc (.cells #[.int .u8 (b0 : Int), .int .u8 (b1 : Int), .int .u8 (b2 : Int)] 41)
  rw [World.size_alloc] at hx
  have h3 := Blk.new ((w.alloc (.cells #[.int .u8 (a0 : Int), .int .u8 (a1 : Int), .int .u8 (a2 : Int), .int .u8 (a3 : Int), .int .u8 (a4 : Int), .int .u8 (a5 : Int)] 22)).alloc (.cells x.arr 24)) #[.int .u8 (b0 : Int), .int .u8 (b1 : Int), .int .u8 (b2 : Int)] 41
  rw [World.size_alloc, World.size_alloc] at h3
  have c0 := ofit_true _ (hT.below hB)
  have HT0 := Lib.hid hT
  have HH := Lib.hid (And.intro hB (And.intro hl6 (And.intro hx (And.intro h3 hT))))
  clear hB hl6 hx h3 hT
  go_enter Tryd.func5, Tryd.ntmps5
  go_wp2_with fail
  refine c0.mono ?_
  rintro e1 w1 ⟨rfl, hB1⟩
  obtain ⟨hB, hl6, hx, h3, hT⟩ := HH.out
  have hB1' := Below.on hB (Nat.le_refl _) hB1
  have hl1 := hl6.on hB1
  have hx1 := hx.on hB1
  have h31 := h3.on hB1
  clear HH c0 hB hl6 hx h3 hB1
  have g0 := hl1.cell 0
  have g1 := hl1.cell 1
  have g2 := hl1.cell 2
  have g3 := hl1.cell 3
  have g4 := hl1.cell 4
  have g5 := hl1.cell 5
  simp only [List.getElem?_toArray, List.getElem?_cons_succ, List.getElem?_cons_zero] at g0 g1 g2 g3 g4 g5
  have cM := made_any a0 a1 a2 a3 a4 a5 hl w1
  have HH := Lib.hid (And.intro hB1' (And.intro hx1 (And.intro h31 hT)))
  clear hB1' hl1 hx1 h31 hT
  go_wp2_with fail
  refine cM.mono ?_
  rintro e1 w2 ⟨m, rfl, hm, hB2⟩
  obtain ⟨hr1, hr2⟩ := may_r hm
  obtain ⟨hB, hx, h3, hT⟩ := HH.out
  have hB2' := Below.on hB (Nat.le_refl _) hB2
  have hx2 := (hx.on hB2).alloc (.cells m.arr 27)
  have h32 := (h3.on hB2).alloc (.cells m.arr 27)
  have hm2 := Blk.new w2 m.arr 27
  have hB3 := hB2'.alloc hB2'.size (.cells m.arr 27)
  have hI : RegB x b0 b1 b2 m w w2.heap.size (w2.alloc (.cells m.arr 27)) := ⟨hx2, h32, hm2, hB3, hT.below hB3⟩
  clear HH cM hB hx h3 hB2 hB2' g0 g1 g2 g3 g4 g5 hx2 h32 hm2 hB3 hT hm
  have cN := known_any x.o (w2.alloc (.cells m.arr 27))
  have j2 := hI.xb.cell 2
  simp only [List.getElem?_toArray, List.getElem?_cons_succ, List.getElem?_cons_zero] at j2
  have HI := Lib.hid hI
  clear hI
  cases hkn : inR x.o 13
  · rw [hkn] at cN
    go_wp2_with fail
    refine cN.mono ?_
    rintro e1 v1 ⟨rfl, rfl⟩
    clear cN j2
    have hI := HI.out
    clear HI
    generalize w2.alloc (.cells m.arr 27) = V at *
    generalize w2.heap.size = bc at *
    have hch := chk_no m x hkn
    have cK := check_any m x V hI.tab
    rw [hch] at cK
    have hrg := regsOf_no hkn
    have f0 := hI.cb.cell 0
    have f1 := hI.cb.cell 1
    have f2 := hI.cb.cell 2
    have f3 := hI.cb.cell 3
    have f4 := hI.cb.cell 4
    have f5 := hI.cb.cell 5
    have f6 := hI.cb.cell 6
    have f7 := hI.cb.cell 7
    have f8 := hI.cb.cell 8
    have f9 := hI.cb.cell 9
    have f10 := hI.cb.cell 10
    simp only [List.getElem?_toArray, List.getElem?_cons_succ, List.getElem?_cons_zero] at f0 f1 f2 f3 f4 f5 f6 f7 f8 f9 f10
    have i0 := hI.xb.cell 0
    have i1 := hI.xb.cell 1
    have i2 := hI.xb.cell 2
    have i3 := hI.xb.cell 3
    have i4 := hI.xb.cell 4
    have i5 := hI.xb.cell 5
    simp only [List.getElem?_toArray, List.getElem?_cons_succ, List.getElem?_cons_zero] at i0 i1 i2 i3 i4 i5
    have HI := Lib.hid hI
    clear hI hkn hch
    go_wp2_with fail
    refine cK.mono ?_
    rintro e1 v1 ⟨rfl, hB⟩
    have hI := HI.out.on hB
    clear HI cK hB f0 f1 f2 f3 f4 f5 f6 f7 f8 f9 f10 i0 i1 i2 i3 i4 i5
    have i0 := hI.xb.cell 0
    have i1 := hI.xb.cell 1
    have i2 := hI.xb.cell 2
    have i3 := hI.xb.cell 3
    have i4 := hI.xb.cell 4
    have i5 := hI.xb.cell 5
    simp only [List.getElem?_toArray, List.getElem?_cons_succ, List.getElem?_cons_zero] at i0 i1 i2 i3 i4 i5
    have cR := regs_any x v1 hI.tab
    have HI := Lib.hid hI
    clear hI
    go_wp2_with fail
    refine cR.mono ?_
    rintro e v2 ⟨v, rfl, hr, -, hB1⟩
    rw [hrg] at hr
    obtain ⟨q0, cap, rfl, hrow⟩ := hr.form
    have hI := HI.out.on hB1
    clear HI cR hr hrow hB1 hrg i0 i1 i2 i3 i4 i5
    have HI := Lib.hid hI
    clear hI
    go_wp2_with fail
    go_ret
    exact ⟨rfl, HI.out.below⟩
  · rw [hkn] at cN
    go_wp2_with fail
    refine cN.mono ?_
    rintro e1 v1 ⟨rfl, rfl⟩
    clear cN j2
    have hI := HI.out
    clear HI
    generalize w2.alloc (.cells m.arr 27) = V at *
    generalize w2.heap.size = bc at *
    have cR := regs_any x V hI.tab
    have i0 := hI.xb.cell 0
    have i1 := hI.xb.cell 1
    have i2 := hI.xb.cell 2
    have i3 := hI.xb.cell 3
    have i4 := hI.xb.cell 4
    have i5 := hI.xb.cell 5
    simp only [List.getElem?_toArray, List.getElem?_cons_succ, List.getElem?_cons_zero] at i0 i1 i2 i3 i4 i5
    have HI := Lib.hid hI
    clear hI
    go_wp2_with fail
    refine cR.mono ?_
    rintro e v2 ⟨v, rfl, hr, -, hB1⟩
    obtain ⟨q0, cap, rfl, hrow⟩ := hr.form
    have hI := HI.out.on hB1
    have hc4 := chk_four m x hkn
    have hL3 := regsOf_len x
    have hL := Lib.hid (rfl : regsOf x = regsOf x)
    generalize regsOf x = L at hr hrow hc4 hL3
    clear HI cR hr hB1 hL i0 i1 i2 i3 i4 i5
    have j4 := hI.cb.cell 4
    simp only [List.getElem?_toArray, List.getElem?_cons_succ, List.getElem?_cons_zero] at j4
    have HI := Lib.hid (And.intro hI (And.intro hkn hc4))
    clear hI hkn hc4
    go_wp2_with fail
    go_loopw [8, 33] (fun v8 v33 wr => ∃ (p : Nat) (q : Bool), p ≤ L.length ∧ v33 = .int .i64 (p : Int) ∧ v8 = .bool q ∧ (L.take p).all (fun r => inR r m.r) = !q ∧ v2 = wr) (fun _ v33 _ => L.length - (intOf v33).toNat)
    case atStart => exact ⟨0, false, Nat.zero_le _, rfl, rfl, rfl, rfl⟩
    case round =>
      obtain ⟨p, q, hp, rfl, rfl, hpa, rfl⟩ := hrel
      by_cases hlt : p < L.length
      · have hltI : (p : Int) < (L.length : Int) := by omega
        obtain ⟨r, hr⟩ : ∃ r, L[p]? = some r := ⟨_, List.getElem?_eq_getElem hlt⟩
        obtain ⟨g, rfl, hc⟩ := hrow p r hr
        have HP := Lib.hid (And.intro hpa hr)
        clear hpa hr HI hrow hr1 hr2
        cases q
        · by_cases h6 : r < 0
          · have HQ := Lib.hid (all_next HP.out.1 HP.out.2 (q2 := false) (inR_not.2 (.inl h6)))
            clear HP
            go_wp2_with fail
            go_roundw
            case rel => exact ⟨p + 1, true, by omega, by go_num, rfl, HQ.out, trivial⟩
            case measure => simp [intOf]; omega
          · by_cases h7 : m.r ≤ r
            · have HQ := Lib.hid (all_next HP.out.1 HP.out.2 (q2 := false) (inR_not.2 (.inr h7)))
              clear HP
              go_wp2_with fail
              go_roundw
              case rel => exact ⟨p + 1, true, by omega, by go_num, rfl, HQ.out, trivial⟩
              case measure => simp [intOf]; omega
            · have HQ := Lib.hid (all_next HP.out.1 HP.out.2 (q2 := true) (inR_iff.2 ⟨by omega, by omega⟩))
              clear HP
              go_wp2_with fail
              go_roundw
              case rel => exact ⟨p + 1, false, by omega, by go_num, rfl, HQ.out, trivial⟩
              case measure => simp [intOf]; omega
        · have HQ := Lib.hid (all_next HP.out.1 HP.out.2 rfl)
          clear HP
          go_wp2_with fail
          go_roundw
          case rel => exact ⟨p + 1, true, by omega, by go_num, rfl, HQ.out, trivial⟩
          case measure => simp [intOf]; omega
      · obtain rfl : p = L.length := by omega
        have hN : ¬ (L.length : Int) < (L.length : Int) := by omega
        obtain ⟨hI, hkn, hc4⟩ := HI.out
        rw [List.take_length] at hpa
        rw [hpa, Bool.not_not] at hc4
        have cK := check_any m x v2 hI.tab
        generalize chk m x = r5 at *
        have f0 := hI.cb.cell 0
        have f1 := hI.cb.cell 1
        have f2 := hI.cb.cell 2
        have f3 := hI.cb.cell 3
        have f4 := hI.cb.cell 4
        have f5 := hI.cb.cell 5
        have f6 := hI.cb.cell 6
        have f7 := hI.cb.cell 7
        have f8 := hI.cb.cell 8
        have f9 := hI.cb.cell 9
        have f10 := hI.cb.cell 10
        simp only [List.getElem?_toArray, List.getElem?_cons_succ, List.getElem?_cons_zero] at f0 f1 f2 f3 f4 f5 f6 f7 f8 f9 f10
        have i0 := hI.xb.cell 0
        have i1 := hI.xb.cell 1
        have i2 := hI.xb.cell 2
        have i3 := hI.xb.cell 3
        have i4 := hI.xb.cell 4
        have i5 := hI.xb.cell 5
        simp only [List.getElem?_toArray, List.getElem?_cons_succ, List.getElem?_cons_zero] at i0 i1 i2 i3 i4 i5
        have HI2 := Lib.hid (And.intro hI hkn)
        clear HI hI hkn hpa hrow hp hlt j4
        go_wp2_with fail
        refine cK.mono ?_
        rintro e v3 ⟨rfl, hB⟩
        obtain ⟨hI, hkn⟩ := HI2.out
        have hI := hI.on hB
        clear HI2 cK hB f0 f1 f2 f3 f4 f5 f6 f7 f8 f9 f10 i0 i1 i2 i3 i4 i5
        have i0 := hI.xb.cell 0
        have i1 := hI.xb.cell 1
        have i2 := hI.xb.cell 2
        have i3 := hI.xb.cell 3
        have i4 := hI.xb.cell 4
        have i5 := hI.xb.cell 5
        simp only [List.getElem?_toArray, List.getElem?_cons_succ, List.getElem?_cons_zero] at i0 i1 i2 i3 i4 i5
        have HI := Lib.hid (And.intro hI hkn)
        clear hI hkn
        go_wp2_with fail
        clear hc4 i0 i1 i2 i3 i4 i5
        obtain ⟨hI, hkn⟩ := HI.out
        clear HI
        have hlx := hI.xb.lt
        have hlt3 := hI.tb.lt
        have hlc := hI.cb.lt
        have hI2 := hI.on (below_new v3 (.cells x.arr 24))
        have hy := Blk.new v3 x.arr 24
        clear hI
        generalize hV2 : v3.alloc (.cells x.arr 24) = V2 at *
        clear hV2
        generalize v3.heap.size = yb at *
        have d4 := hI2.cb.cell 4
        have t0 := hI2.tb.cell 0
        have t1 := hI2.tb.cell 1
        have t2 := hI2.tb.cell 2
        have x3 := hy.cell 3
        have x4 := hy.cell 4
        have x5 := hy.cell 5
        have y3 := hy.free 3
        have y4 := hy.free 4
        have y5 := hy.free 5
        simp only [List.getElem?_toArray, List.getElem?_cons_succ, List.getElem?_cons_zero] at d4 t0 t1 t2 x3 x4 x5
        have hne1 : ¬ w.heap.size + 2 = yb := by omega
        have hne2 : ¬ bc = yb := by omega
        have hne3 : ¬ yb = bc := by omega
        have hne4 : ¬ yb = w.heap.size + 2 := by omega
        have hr0 : ¬ m.r = 0 := by omega
        obtain ⟨hb0, hb1, hb2⟩ := hbb
        have HI := Lib.hid (And.intro hI2 (And.intro hy (And.intro hkn (And.intro hlx (And.intro hr1 hr2)))))
        clear hI2 hy hkn hlx hlt3 hlc hr1 hr2 hl
        go_region
        as_aux_lemma =>
          obtain ⟨hI2, hy, hkn, hlx, hr1, hr2⟩ := HI.out
          have hT : Turn (fun k => k = yb) V2 ((((V2.setCell ⟨yb, 3, none⟩ (.int .i64 ((b0 : Int) % m.r))).setCell ⟨yb, 4, none⟩ (.int .i64 ((b1 : Int) % m.r))).setCell ⟨yb, 5, none⟩ (.int .i64 ((b2 : Int) % m.r))).drew) := ((((Turn.refl (fun k => k = yb) V2).set _ _ (.inr rfl)).set _ _ (.inr rfl)).set _ _ (.inr rfl)).drew
          have hy3 : Blk ((((V2.setCell ⟨yb, 3, none⟩ (.int .i64 ((b0 : Int) % m.r))).setCell ⟨yb, 4, none⟩ (.int .i64 ((b1 : Int) % m.r))).setCell ⟨yb, 5, none⟩ (.int .i64 ((b2 : Int) % m.r))).drew) yb (⟨x.k, x.t, x.o, (b0 : Int) % m.r, (b1 : Int) % m.r, (b2 : Int) % m.r⟩ : It).arr 24 := Blk.is (((hy.setAt 3 (.int .i64 ((b0 : Int) % m.r))).setAt 4 (.int .i64 ((b1 : Int) % m.r))).setAt 5 (.int .i64 ((b2 : Int) % m.r))).drew (by simp)
          have hc3 := hI2.cb.turn hT hne2
          have hB3 := hI2.below.trans (hT.below w.heap.size hI2.below.size (fun k hk e => by omega))
          clear HI hI2 hy hT d4 t0 t1 t2 x3 x4 x5 y3 y4 y5
          generalize ((((V2.setCell ⟨yb, 3, none⟩ (.int .i64 ((b0 : Int) % m.r))).setCell ⟨yb, 4, none⟩ (.int .i64 ((b1 : Int) % m.r))).setCell ⟨yb, 5, none⟩ (.int .i64 ((b2 : Int) % m.r))).drew) = W3 at *
          have hT3 := HT0.out.below hB3
          have hin : ∀ z : Nat, inR ((z : Int) % m.r) m.r = true := fun z => inR_iff.2 ⟨Int.emod_nonneg _ hr0, Int.emod_lt_of_pos _ (by omega)⟩
          have h4 := chk_four m ⟨x.k, x.t, x.o, (b0 : Int) % m.r, (b1 : Int) % m.r, (b2 : Int) % m.r⟩ hkn
          rw [regsOf_in _ _ (hin b0) (hin b1) (hin b2), Bool.not_true] at h4
          have h1 := chk_one m ⟨x.k, x.t, x.o, (b0 : Int) % m.r, (b1 : Int) % m.r, (b2 : Int) % m.r⟩ hkn
          have cK : ∀ W, TabOp W → Calls Tryd.prog 10 #[m.val, .agg #[.int .i64 x.k, .int .i64 x.t, .int .i64 x.o, .int .i64 ((b0 : Int) % m.r), .int .i64 ((b1 : Int) % m.r), .int .i64 ((b2 : Int) % m.r)]] W fun e w' => e = .returned (.int .i64 (chk m ⟨x.k, x.t, x.o, (b0 : Int) % m.r, (b1 : Int) % m.r, (b2 : Int) % m.r⟩)) ∧ Below W.heap.size W w' := fun W h => check_any m ⟨x.k, x.t, x.o, (b0 : Int) % m.r, (b1 : Int) % m.r, (b2 : Int) % m.r⟩ W h
          generalize chk m ⟨x.k, x.t, x.o, (b0 : Int) % m.r, (b1 : Int) % m.r, (b2 : Int) % m.r⟩ = r6 at *
          have hn4 : ¬ r6 = 4 := fun e => by rw [e] at h4; cases h4
          have hn1 : ¬ r6 = 1 := fun e => by rw [e] at h1; cases h1
          have hVV := Lib.hid (show (r6 != 4 && r6 != 1) = true by simp [hn4, hn1])
          have hN41 := Lib.hid (And.intro hn4 hn1)
          have hN := Lib.hid hin
          have c1 := cK W3 hT3
          have f0 := hc3.cell 0
          have f1 := hc3.cell 1
          have f2 := hc3.cell 2
          have f3 := hc3.cell 3
          have f4 := hc3.cell 4
          have f5 := hc3.cell 5
          have f6 := hc3.cell 6
          have f7 := hc3.cell 7
          have f8 := hc3.cell 8
          have f9 := hc3.cell 9
          have f10 := hc3.cell 10
          simp only [List.getElem?_toArray, List.getElem?_cons_succ, List.getElem?_cons_zero] at f0 f1 f2 f3 f4 f5 f6 f7 f8 f9 f10
          have i0 := hy3.cell 0
          have i1 := hy3.cell 1
          have i2 := hy3.cell 2
          have i3 := hy3.cell 3
          have i4 := hy3.cell 4
          have i5 := hy3.cell 5
          simp only [List.getElem?_toArray, List.getElem?_cons_succ, List.getElem?_cons_zero] at i0 i1 i2 i3 i4 i5
          have HI := Lib.hid (And.intro hB3 (And.intro hc3 (And.intro hy3 cK)))
          clear hin hT3 cK hB3 hc3 hy3 hne1 hne2 hne3 hne4 hr0 hb0 hb1 hb2 hkn hlx hr1 hr2 hN41 h4 h1 hN
          go_wp2_with fail
          refine c1.mono ?_
          rintro e v4 ⟨rfl, hB⟩
          obtain ⟨hB3, hc3, hy3, cK⟩ := HI.out
          have hB4 := Below.on hB3 (Nat.le_refl _) hB
          have hc4 := hc3.on hB
          have hy4 := hy3.on hB
          clear HI c1 hB3 hc3 hy3 hB f0 f1 f2 f3 f4 f5 f6 f7 f8 f9 f10 i0 i1 i2 i3 i4 i5
          have f0 := hc4.cell 0
          have f1 := hc4.cell 1
          have f2 := hc4.cell 2
          have f3 := hc4.cell 3
          have f4 := hc4.cell 4
          have f5 := hc4.cell 5
          have f6 := hc4.cell 6
          have f7 := hc4.cell 7
          have f8 := hc4.cell 8
          have f9 := hc4.cell 9
          have f10 := hc4.cell 10
          simp only [List.getElem?_toArray, List.getElem?_cons_succ, List.getElem?_cons_zero] at f0 f1 f2 f3 f4 f5 f6 f7 f8 f9 f10
          have i0 := hy4.cell 0
          have i1 := hy4.cell 1
          have i2 := hy4.cell 2
          have i3 := hy4.cell 3
          have i4 := hy4.cell 4
          have i5 := hy4.cell 5
          simp only [List.getElem?_toArray, List.getElem?_cons_succ, List.getElem?_cons_zero] at i0 i1 i2 i3 i4 i5
          have c1 := cK v4 (HT0.out.below hB4)
          have HI := Lib.hid hB4
          clear cK hB4 hc4 hy4
          go_wp2_with fail
          refine c1.mono ?_
          rintro e v5 ⟨rfl, hB⟩
          have hB5 := Below.on HI.out (Nat.le_refl _) hB
          clear HI c1 hB f0 f1 f2 f3 f4 f5 f6 f7 f8 f9 f10 i0 i1 i2 i3 i4 i5
          have HB := Lib.hid hB5
          clear hB5
          go_wp2_with fail
          go_ret
          exact ⟨congrArg (fun b => Ending.returned (Value.bool b)) hVV.out, HB.out⟩
end Go.Proofs.YtdkakbddhckbnaaDoor
