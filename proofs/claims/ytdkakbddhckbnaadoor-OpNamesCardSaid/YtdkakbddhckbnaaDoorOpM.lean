/- OpNames, walked; at this seat's numbers. -/
import Derived.Test.YtdkakbddhckbnaaDoorOpL
import Derived.Deep.DeepCutAuto
import Derived.Deep.CutBlock
namespace Go.Proofs.YtdkakbddhckbnaaDoor
open Go Go.RowKit
set_option linter.unusedSimpArgs false
set_option linter.unusedVariables false
attribute [local go_sem] Oper.semAt_some

/-- The item's box, and the table. -/
structure NamB (x : It) (w W : World) : Prop where
  xb : Blk W w.heap.size x.arr 24
  below : Below w.heap.size w W
  tab : TabOp W
theorem NamB.on {x : It} {w W W' : World} (h : NamB x w W) (hB : Below W.heap.size W W') : NamB x w W' :=
  ⟨h.xb.on hB, Below.on h.below (Nat.le_refl _) hB, h.tab.below hB⟩

theorem IRow.new (W : World) (l : List Int) (hl : l.length ≤ 1000) : IRow (W.alloc (.cells (l.map fun r => Value.int .i64 r).toArray 3)) (.slice (some ⟨W.heap.size, 0, none⟩) l.length l.length) l :=
  ⟨by simp, .inr ⟨W.heap.size, l.length, (l.map fun r => Value.int .i64 r).toArray, rfl, Nat.zero_le _, heap_alloc_new W _, Nat.le_refl _, by unfold maxLen; omega, by simp, by rw [List.take_of_length_le (by simp)]⟩⟩

set_option maxRecDepth 100000 in
set_option maxHeartbeats 8000000 in
theorem names_true (n : Int) (s : ByteArray) (x : It) (w : World) (hT : TabOp w) :
    Calls Tryd.prog 4 #[.int .i64 n, .string s, x.val] w fun e w' => e = .returned (.bool true) ∧ Below w.heap.size w w' := by
  have hI0 : NamB x w (w.alloc (.cells x.arr 24)) := ⟨Blk.new w x.arr 24, below_new w _, hT.below (below_new w _)⟩
  have c0 := ofit_true _ hI0.tab
  have HI := Lib.hid hI0
  clear hI0 hT
  go_enter Tryd.func4, Tryd.ntmps4
  go_wp2_with fail
  refine c0.mono ?_
  rintro e1 w1 ⟨rfl, hB1⟩
  have hI1 := HI.out.on hB1
  have HI := Lib.hid hI1
  clear c0 hB1 hI1
  by_cases hbig : 40 < (s.size : Int)
  · go_wp2_with fail
    go_ret
    exact ⟨rfl, HI.out.below⟩
  have cN := names_any w1
  go_wp2_with fail
  refine cN.mono ?_
  rintro e1 w2 ⟨rfl, rfl⟩
  have hI2 := HI.out.on (below_new w1 (.cells nameCells 9))
  have hnm := name_cell (Blk.new w1 nameCells 9)
  clear cN HI hbig
  generalize w1.alloc (.cells nameCells 9) = V at *
  generalize w1.heap.size = bs at *
  have HI := Lib.hid hI2
  clear hI2
  go_wp2_with fail
  go_loopw [7, 8, 9, 24] (fun v7 v8 v9 v24 wr => ∃ p : Nat, p ≤ 13 ∧ v7 = .string (wantO n p) ∧ v8 = .int .i64 (codM s p).1 ∧ v9 = .bool (codM s p).2 ∧ v24 = .int .i64 (p : Int) ∧ V = wr) (fun _ _ _ v24 _ => 13 - (intOf v24).toNat)
  case atStart => exact ⟨0, by decide, rfl, rfl, rfl, rfl, rfl⟩
  case round =>
    obtain ⟨p, hp, rfl, rfl, rfl, rfl, rfl⟩ := hrel
    by_cases hlt : p < 13
    · have hltI : (p : Int) < 13 := by omega
      have hcp := hnm p hlt
      have hM : codM s (p + 1) = if (opN p).nm.toList == s.toList then ((p : Int), true) else codM s p := rfl
      have hW : wantO n (p + 1) = if (p : Int) = n then (opN p).nm else wantO n p := rfl
      have HMW := Lib.hid (And.intro hM hW)
      clear hM hW
      by_cases hpn : (p : Int) = n
      · have hpe : ((p : Int) == n) = true := by simpa using hpn
        cases hq : ((opN p).nm.toList == s.toList)
        · skip
          have HMW2 := Lib.hid (And.intro (show codM s (p + 1) = codM s p by rw [HMW.out.1, hq]; rfl) (show wantO n (p + 1) = (opN p).nm by rw [HMW.out.2, if_pos hpn]))
          clear HMW hpn
          as_aux_lemma =>
            go_wp2_with fail
            go_roundw
            case rel => exact ⟨p + 1, by omega, by rw [HMW2.out.2], by rw [HMW2.out.1], by rw [HMW2.out.1], by go_num, trivial⟩
            case measure => simp [intOf]; omega
        · skip
          have HMW2 := Lib.hid (And.intro (show codM s (p + 1) = ((p : Int), true) by rw [HMW.out.1, hq]; rfl) (show wantO n (p + 1) = (opN p).nm by rw [HMW.out.2, if_pos hpn]))
          clear HMW hpn
          as_aux_lemma =>
            go_wp2_with fail
            go_roundw
            case rel => exact ⟨p + 1, by omega, by rw [HMW2.out.2], by rw [HMW2.out.1], by rw [HMW2.out.1], by go_num, trivial⟩
            case measure => simp [intOf]; omega
      · have hpe : ((p : Int) == n) = false := by simpa using hpn
        cases hq : ((opN p).nm.toList == s.toList)
        · skip
          have HMW2 := Lib.hid (And.intro (show codM s (p + 1) = codM s p by rw [HMW.out.1, hq]; rfl) (show wantO n (p + 1) = wantO n p by rw [HMW.out.2, if_neg hpn]))
          clear HMW hpn
          as_aux_lemma =>
            go_wp2_with fail
            go_roundw
            case rel => exact ⟨p + 1, by omega, by rw [HMW2.out.2], by rw [HMW2.out.1], by rw [HMW2.out.1], by go_num, trivial⟩
            case measure => simp [intOf]; omega
        · skip
          have HMW2 := Lib.hid (And.intro (show codM s (p + 1) = ((p : Int), true) by rw [HMW.out.1, hq]; rfl) (show wantO n (p + 1) = wantO n p by rw [HMW.out.2, if_neg hpn]))
          clear HMW hpn
          as_aux_lemma =>
            go_wp2_with fail
            go_roundw
            case rel => exact ⟨p + 1, by omega, by rw [HMW2.out.2], by rw [HMW2.out.1], by rw [HMW2.out.1], by go_num, trivial⟩
            case measure => simp [intOf]; omega
    · obtain rfl : p = 13 := by omega
      have hN : ¬ ((13 : Nat) : Int) < 13 := by omega
      rw [wantO_name, codM_codN]
      have cE := code_any s V HI.out.tab
      clear hnm hp hlt
      generalize (codN s 13).1 = k1 at *
      generalize (codN s 13).2 = k2 at *
      generalize hwn : (opOf n).nm = wn at *
      have HWN := Lib.hid hwn
      clear hwn
      go_wp2_with fail
      refine cE.mono ?_
      rintro e1 w3 ⟨rfl, hB3⟩
      have hI3 := HI.out.on hB3
      have HI := Lib.hid hI3
      clear cE hB3 hI3
      go_upto_region 15 with fail
      go_cut [67] (fun c wx => c = .bool false ∧ NamB x w wx)
      case first =>
        have cNm := name_any n w3 HI.out.tab
        rw [HWN.out] at cNm
        clear HWN
        cases hq : inR n 13
        · by_cases h0 : 0 ≤ n
          · have h13 : ¬ n < 13 := by have := inR_not.1 hq; omega

            go_wp2_with fail
            refine cNm.mono ?_
            rintro e w4 ⟨rfl, hB⟩
            have hI4 := Lib.hid (HI.out.on hB)
            have cK := known_any n w4
            rw [hq] at cK
            clear HI cNm hB
            go_wp2_with fail
            refine cK.mono ?_
            rintro e w5 ⟨rfl, rfl⟩
            clear cK
            go_wp2_with fail
            go_meet
            case rel => exact ⟨congrArg Value.bool (decide_eq_false (by omega)), hI4.out⟩
          · skip
            go_wp2_with fail
            refine cNm.mono ?_
            rintro e w4 ⟨rfl, hB⟩
            have hI4 := Lib.hid (HI.out.on hB)
            have cK := known_any n w4
            rw [hq] at cK
            clear HI cNm hB
            go_wp2_with fail
            refine cK.mono ?_
            rintro e w5 ⟨rfl, rfl⟩
            clear cK
            go_wp2_with fail
            go_meet
            case rel => exact ⟨rfl, hI4.out⟩
        · obtain ⟨h0, h13⟩ := inR_iff.1 hq
          go_wp2_with fail
          refine cNm.mono ?_
          rintro e w4 ⟨rfl, hB⟩
          have hI4 := Lib.hid (HI.out.on hB)
          have cK := known_any n w4
          rw [hq] at cK
          clear HI cNm hB
          go_wp2_with fail
          refine cK.mono ?_
          rintro e w5 ⟨rfl, rfl⟩
          clear cK
          go_wp2_with fail
          go_meet
          case rel => exact ⟨rfl, hI4.out⟩
      case rest =>
        obtain ⟨rfl, hI4⟩ := hcut
        have i2 := hI4.xb.cell 2
        simp only [List.getElem?_toArray, List.getElem?_cons_succ, List.getElem?_cons_zero] at i2
        have HI := Lib.hid hI4
        clear hI4
        go_upto_block 2 with fail
        clear i2
        go_cut [14] (fun v14 wx => IRow wx v14 (regsOf x) ∧ NamB x w wx)
        case first =>
          have i2 := HI.out.xb.cell 2
          have i3 := HI.out.xb.cell 3
          have i4 := HI.out.xb.cell 4
          have i5 := HI.out.xb.cell 5
          simp only [List.getElem?_toArray, List.getElem?_cons_succ, List.getElem?_cons_zero] at i2 i3 i4 i5
          by_cases e1 : x.o = 1
          · have m1 : (x.o == 1) = true := by simpa using e1
            have HR := Lib.hid (regsOf_two (x := x) (.inl e1))
            have HR2 := Lib.hid (IRow.new wc [x.a, x.b] (by simp))
            have HI2 := Lib.hid (HI.out.on (below_new wc (.cells #[.int .i64 x.a, .int .i64 x.b] 3)))
            clear HI
            go_wp2_with fail
            go_meet
            case rel => exact ⟨by rw [HR.out]; exact HR2.out, HI2.out⟩
          have m1 : (x.o == 1) = false := by simpa using e1
          by_cases e5 : x.o = 5
          · have m5 : (x.o == 5) = true := by simpa using e5
            have HR := Lib.hid (regsOf_two (x := x) (.inr (.inl e5)))
            have HR2 := Lib.hid (IRow.new wc [x.a, x.b] (by simp))
            have HI2 := Lib.hid (HI.out.on (below_new wc (.cells #[.int .i64 x.a, .int .i64 x.b] 3)))
            clear HI
            go_wp2_with fail
            go_meet
            case rel => exact ⟨by rw [HR.out]; exact HR2.out, HI2.out⟩
          have m5 : (x.o == 5) = false := by simpa using e5
          by_cases e7 : x.o = 7
          · have m7 : (x.o == 7) = true := by simpa using e7
            have HR := Lib.hid (regsOf_two (x := x) (.inr (.inr e7)))
            have HR2 := Lib.hid (IRow.new wc [x.a, x.b] (by simp))
            have HI2 := Lib.hid (HI.out.on (below_new wc (.cells #[.int .i64 x.a, .int .i64 x.b] 3)))
            clear HI
            go_wp2_with fail
            go_meet
            case rel => exact ⟨by rw [HR.out]; exact HR2.out, HI2.out⟩
          have m7 : (x.o == 7) = false := by simpa using e7
          by_cases e2 : x.o = 2
          · have m2 : (x.o == 2) = true := by simpa using e2
            have HR := Lib.hid (regsOf_store e2)
            have HR2 := Lib.hid (IRow.new wc [x.a, x.c] (by simp))
            have HI2 := Lib.hid (HI.out.on (below_new wc (.cells #[.int .i64 x.a, .int .i64 x.c] 3)))
            clear HI
            go_wp2_with fail
            go_meet
            case rel => exact ⟨by rw [HR.out]; exact HR2.out, HI2.out⟩
          have m2 : (x.o == 2) = false := by simpa using e2
          by_cases h0 : 0 ≤ x.o
          · by_cases h13 : x.o < 13
            · skip
              have HR := Lib.hid (regsOf_one (x := x) (inR_iff.2 ⟨h0, h13⟩) e1 e5 e7 e2)
              have HR2 := Lib.hid (IRow.new wc [x.a] (by simp))
              have HI2 := Lib.hid (HI.out.on (below_new wc (.cells #[.int .i64 x.a] 3)))
              clear HI
              go_wp2_with fail
              go_meet
              case rel => exact ⟨by rw [HR.out]; exact HR2.out, HI2.out⟩
            · skip
              have HR := Lib.hid (regsOf_none (x := x) (inR_not.2 (.inr (by omega))))
              go_wp2_with fail
              go_meet
              case rel => exact ⟨by rw [HR.out]; exact IRow.nil _, HI.out⟩
          · skip
            have HR := Lib.hid (regsOf_none (x := x) (inR_not.2 (.inl (by omega))))
            go_wp2_with fail
            go_meet
            case rel => exact ⟨by rw [HR.out]; exact IRow.nil _, HI.out⟩
        case rest =>
          obtain ⟨hr14, hI5⟩ := hcut
          have cR := regs_any x wc hI5.tab
          have i0 := hI5.xb.cell 0
          have i1 := hI5.xb.cell 1
          have i2 := hI5.xb.cell 2
          have i3 := hI5.xb.cell 3
          have i4 := hI5.xb.cell 4
          have i5 := hI5.xb.cell 5
          simp only [List.getElem?_toArray, List.getElem?_cons_succ, List.getElem?_cons_zero] at i0 i1 i2 i3 i4 i5
          have HI := Lib.hid (And.intro hr14 hI5)
          clear hr14 hI5
          go_wp2_with fail
          refine cR.mono ?_
          rintro e1 w6 ⟨v, rfl, hr15, -, hB⟩
          obtain ⟨hr14, hI5⟩ := HI.out
          have hI6 := hI5.on hB
          have hr14b := hr14.on hB
          clear HI cR hr14 hI5 hB i0 i1 i2 i3 i4 i5
          have hL3 := regsOf_len x
          generalize regsOf x = L at hr14b hr15 hL3
          obtain ⟨q0, cap0, rfl, hrow0⟩ := hr14b.form
          obtain ⟨q1, cap1, rfl, hrow1⟩ := hr15.form
          have HI := Lib.hid (And.intro hI6 (And.intro hrow0 hrow1))
          clear hr14b hr15 hI6 hrow0 hrow1
          go_wp2_with fail
          go_loopw [106] (fun v106 wr => ∃ p : Nat, p ≤ L.length ∧ v106 = .int .i64 (p : Int) ∧ NamB x w wr ∧ RowI wr q0 L ∧ RowI wr q1 L) (fun v106 _ => L.length - (intOf v106).toNat)
          case atStart => exact ⟨0, Nat.zero_le _, rfl, HI.out⟩
          case round =>
            obtain ⟨p, hp, rfl, hI, hrow0, hrow1⟩ := hrel
            clear HI
            by_cases hlt : p < L.length
            · have hltI : (p : Int) < (L.length : Int) := by omega
              have hp0 : (0 : Int) ≤ (p : Int) := by omega
              obtain ⟨r, hr⟩ : ∃ r, L[p]? = some r := ⟨_, List.getElem?_eq_getElem hlt⟩
              obtain ⟨g0, rfl, hc0⟩ := hrow0 p r hr
              obtain ⟨g1, rfl, hc1⟩ := hrow1 p r hr
              have hI2 := hI.on ((Below.refl _ wr).drew)
              have HH := Lib.hid (And.intro hI2 (And.intro hrow0 hrow1))
              clear hI hI2 hrow0 hrow1 hr
              go_wp2_with fail
              go_region
              go_wp2_with fail
              go_roundw
              case rel => exact ⟨p + 1, by omega, by go_num, HH.out⟩
              case measure => simp [intOf]; omega
            · obtain rfl : p = L.length := by omega
              have hN : ¬ (L.length : Int) < (L.length : Int) := by omega
              have HI := Lib.hid hI
              clear hI hrow0 hrow1 hp hlt
              by_cases z0 : n = 0
              · subst z0
                have cW := writes_any 0 wr HI.out.tab
                rw [show (opOf 0).w = false by decide] at cW
                as_aux_lemma =>
                  go_wp2_with fail
                  refine cW.mono ?_
                  rintro e1 w7 ⟨rfl, hB⟩
                  have HI2 := Lib.hid (HI.out.on hB)
                  have cT := tells_any 0 w7 HI2.out.tab
                  rw [show (opOf 0).t = true by decide] at cT
                  clear cW hB HI
                  go_wp2_with fail
                  refine cT.mono ?_
                  rintro e1 w8 ⟨rfl, hB⟩
                  have HI3 := Lib.hid (HI2.out.on hB)
                  clear cT hB HI2
                  go_wp2_with fail
                  go_ret
                  exact ⟨rfl, HI3.out.below⟩
              by_cases z1 : n = 1
              · subst z1
                have cW := writes_any 1 wr HI.out.tab
                rw [show (opOf 1).w = false by decide] at cW
                as_aux_lemma =>
                  go_wp2_with fail
                  refine cW.mono ?_
                  rintro e1 w7 ⟨rfl, hB⟩
                  have HI2 := Lib.hid (HI.out.on hB)
                  have cT := tells_any 1 w7 HI2.out.tab
                  rw [show (opOf 1).t = true by decide] at cT
                  clear cW hB HI
                  go_wp2_with fail
                  refine cT.mono ?_
                  rintro e1 w8 ⟨rfl, hB⟩
                  have HI3 := Lib.hid (HI2.out.on hB)
                  clear cT hB HI2
                  go_wp2_with fail
                  go_ret
                  exact ⟨rfl, HI3.out.below⟩
              by_cases z2 : n = 2
              · subst z2
                have cW := writes_any 2 wr HI.out.tab
                rw [show (opOf 2).w = true by decide] at cW
                as_aux_lemma =>
                  go_wp2_with fail
                  refine cW.mono ?_
                  rintro e1 w7 ⟨rfl, hB⟩
                  have HI2 := Lib.hid (HI.out.on hB)
                  have cT := tells_any 2 w7 HI2.out.tab
                  rw [show (opOf 2).t = false by decide] at cT
                  clear cW hB HI
                  go_wp2_with fail
                  refine cT.mono ?_
                  rintro e1 w8 ⟨rfl, hB⟩
                  have HI3 := Lib.hid (HI2.out.on hB)
                  clear cT hB HI2
                  go_wp2_with fail
                  go_ret
                  exact ⟨rfl, HI3.out.below⟩
              by_cases z10 : n = 10
              · subst z10
                have cW := writes_any 10 wr HI.out.tab
                rw [show (opOf 10).w = false by decide] at cW
                as_aux_lemma =>
                  go_wp2_with fail
                  refine cW.mono ?_
                  rintro e1 w7 ⟨rfl, hB⟩
                  have HI2 := Lib.hid (HI.out.on hB)
                  have cT := tells_any 10 w7 HI2.out.tab
                  rw [show (opOf 10).t = true by decide] at cT
                  clear cW hB HI
                  go_wp2_with fail
                  refine cT.mono ?_
                  rintro e1 w8 ⟨rfl, hB⟩
                  have HI3 := Lib.hid (HI2.out.on hB)
                  clear cT hB HI2
                  go_wp2_with fail
                  go_ret
                  exact ⟨rfl, HI3.out.below⟩
              by_cases z11 : n = 11
              · subst z11
                have cW := writes_any 11 wr HI.out.tab
                rw [show (opOf 11).w = false by decide] at cW
                as_aux_lemma =>
                  go_wp2_with fail
                  refine cW.mono ?_
                  rintro e1 w7 ⟨rfl, hB⟩
                  have HI2 := Lib.hid (HI.out.on hB)
                  have cT := tells_any 11 w7 HI2.out.tab
                  rw [show (opOf 11).t = true by decide] at cT
                  clear cW hB HI
                  go_wp2_with fail
                  refine cT.mono ?_
                  rintro e1 w8 ⟨rfl, hB⟩
                  have HI3 := Lib.hid (HI2.out.on hB)
                  clear cT hB HI2
                  go_wp2_with fail
                  go_ret
                  exact ⟨rfl, HI3.out.below⟩
              by_cases z12 : n = 12
              · subst z12
                have cW := writes_any 12 wr HI.out.tab
                rw [show (opOf 12).w = true by decide] at cW
                as_aux_lemma =>
                  go_wp2_with fail
                  refine cW.mono ?_
                  rintro e1 w7 ⟨rfl, hB⟩
                  have HI2 := Lib.hid (HI.out.on hB)
                  have cT := tells_any 12 w7 HI2.out.tab
                  rw [show (opOf 12).t = false by decide] at cT
                  clear cW hB HI
                  go_wp2_with fail
                  refine cT.mono ?_
                  rintro e1 w8 ⟨rfl, hB⟩
                  have HI3 := Lib.hid (HI2.out.on hB)
                  clear cT hB HI2
                  go_wp2_with fail
                  go_ret
                  exact ⟨rfl, HI3.out.below⟩
              obtain ⟨hw, ht⟩ := opOf_wt z0 z1 z2 z10 z11 z12
              have m0 : (n == 0) = false := by simpa using z0
              have m1 : (n == 1) = false := by simpa using z1
              have m2 : (n == 2) = false := by simpa using z2
              have m10 : (n == 10) = false := by simpa using z10
              have m11 : (n == 11) = false := by simpa using z11
              have m12 : (n == 12) = false := by simpa using z12
              have cW := writes_any n wr HI.out.tab
              rw [hw] at cW
              as_aux_lemma =>
                go_wp2_with fail
                refine cW.mono ?_
                rintro e1 w7 ⟨rfl, hB⟩
                have HI2 := Lib.hid (HI.out.on hB)
                have cT := tells_any n w7 HI2.out.tab
                rw [ht] at cT
                clear cW hB HI
                go_wp2_with fail
                refine cT.mono ?_
                rintro e1 w8 ⟨rfl, hB⟩
                have HI3 := Lib.hid (HI2.out.on hB)
                clear cT hB HI2
                go_wp2_with fail
                go_ret
                exact ⟨rfl, HI3.out.below⟩
end Go.Proofs.YtdkakbddhckbnaaDoor
