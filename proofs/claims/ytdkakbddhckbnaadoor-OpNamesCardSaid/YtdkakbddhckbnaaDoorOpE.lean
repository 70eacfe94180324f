/- Check; at this seat's numbers. -/
import Derived.Test.YtdkakbddhckbnaaDoorOpD
namespace Go.Proofs.YtdkakbddhckbnaaDoor
open Go Go.RowKit
set_option linter.unusedSimpArgs false
set_option linter.unusedVariables false
attribute [local go_sem] Oper.semAt_some

/-- What Check answers: is it known, are all its registers, is B a global, is B below 0, above the bound. -/
def chkB (kn al g ib s lt gt : Bool) : Int := bif kn then (bif al then (bif (g && !ib) then 5 else bif (s && lt) then 6 else bif (s && gt) then 7 else 0) else 4) else 1
def chk (c : Cfg) (x : It) : Int := chkB (inR x.o 13) ((regsOf x).all fun r => inR r c.r) (opOf x.o).g (inR x.b c.g) (opOf x.o).s (decide (x.b < 0)) (decide (c.f < x.b))
/-- A row of ints as the walk meets it. -/
def RowI (w : World) (a0 : Option Addr) (l : List Int) : Prop := ∀ (k : Nat) (r : Int), l[k]? = some r → ∃ g, a0 = some ⟨g, 0, none⟩ ∧ w.cell? ⟨g, k, none⟩ = some (.int .i64 r)
theorem IRow.form {w : World} {v : Value} {l : List Int} (h : IRow w v l) : ∃ a0 cap, v = .slice a0 l.length cap ∧ RowI w a0 l := by
  rcases h.is with ⟨rfl, rfl⟩ | ⟨g, cap, cur, rfl, hg, _, _, _, hc⟩
  · exact ⟨none, 0, rfl, fun k r h => (by simp at h)⟩
  · exact ⟨_, cap, rfl, fun k r hk => by
      obtain ⟨hk2, e⟩ := List.getElem?_eq_some_iff.1 hk
      exact ⟨g, rfl, e ▸ hc k hk2⟩⟩
theorem all_step {l : List Int} {p : Nat} {r : Int} {f : Int → Bool} (h : (l.take p).all f = true) (hr : l[p]? = some r) (hf : f r = true) : (l.take (p + 1)).all f = true := by
  rw [List.take_add_one, hr, List.all_append, h]
  simp [hf]
theorem all_not {l : List Int} {p : Nat} {r : Int} {f : Int → Bool} (hr : l[p]? = some r) (hf : f r = false) : l.all f = false := by
  have := List.mem_of_getElem? hr
  cases h : l.all f
  · rfl
  · rw [List.all_eq_true] at h
    rw [h r this] at hf
    cases hf

theorem regsOf_len (x : It) : (regsOf x).length ≤ 3 := by
  unfold regsOf
  cases (opOf x.o).a <;> cases (opOf x.o).b <;> cases (opOf x.o).c <;> simp
structure BoxC (c : Cfg) (x : It) (w : World) (wr : World) : Prop where
  cb : Blk wr w.heap.size c.arr 27
  xb : Blk wr (w.heap.size + 1) x.arr 24
  below : Below w.heap.size w wr
theorem BoxC.on {c : Cfg} {x : It} {w wr w' : World} (h : BoxC c x w wr) (hB : Below wr.heap.size wr w') : BoxC c x w w' :=
  ⟨h.cb.on hB, h.xb.on hB, Below.on h.below (Nat.le_refl _) hB⟩
theorem BoxC.alloc {c : Cfg} {x : It} {w wr : World} (h : BoxC c x w wr) (o : Obj) : BoxC c x w (wr.alloc o) := h.on (below_new wr o)
theorem BoxC.new (c : Cfg) (x : It) (w : World) : BoxC c x w ((w.alloc (.cells c.arr 27)).alloc (.cells x.arr 24)) :=
  ⟨(Blk.new w _ _).alloc _, by
    have := Blk.new (w.alloc (.cells c.arr 27)) x.arr 24
    simpa using this, (below_new w _).alloc (by simp) _⟩

set_option maxRecDepth 100000 in
set_option maxHeartbeats 8000000 in
theorem check_any (c : Cfg) (x : It) (w : World) (hT : TabOp w) : Calls Tryd.prog 10 #[c.val, x.val] w fun e w' => e = .returned (.int .i64 (chk c x)) ∧ Below w.heap.size w w' := by
  have hI := BoxC.new c x w
  have hT0 := hT.below hI.below
  generalize hV0 : ((w.alloc (.cells c.arr 27)).alloc (.cells x.arr 24)) = V0 at *
  have cK := known_any x.o V0
  have cR := regs_any x V0 hT0
  unfold chk
  generalize hal : (regsOf x).all (fun r => inR r c.r) = al
  generalize inR x.o 13 = kn at *
  generalize hlt6 : decide (x.b < 0) = lt
  generalize hgt7 : decide (c.f < x.b) = gt
  generalize hib : inR x.b c.g = ib
  generalize hO : opOf x.o = o
  obtain ⟨nm, oa, ob, oc, os, og, ow, ot⟩ := o
  have H67 := Lib.hid (And.intro hlt6 hgt7)
  have HO := Lib.hid (And.intro hO hib)
  clear hlt6 hgt7 hO hib
  have f0 := hI.xb.cell 0
  have f1 := hI.xb.cell 1
  have f2 := hI.xb.cell 2
  have f3 := hI.xb.cell 3
  have f4 := hI.xb.cell 4
  have f5 := hI.xb.cell 5
  simp only [List.getElem?_toArray, List.getElem?_cons_succ, List.getElem?_cons_zero] at f0 f1 f2 f3 f4 f5
  have HI := Lib.hid (And.intro hI hal)
  clear hI hal
  cases kn
  · subst hV0
    clear hT0 cR hT
    go_enter Tryd.func10, Tryd.ntmps10
    go_wp2_with fail
    refine cK.mono ?_
    rintro e w1 ⟨rfl, rfl⟩
    clear cK f0 f1 f2 f3 f4 f5
    go_wp2_with fail
    go_ret
    exact ⟨rfl, HI.out.1.below⟩
  have HT := Lib.hid hT0
  clear hT0 hT
  subst hV0
  go_enter Tryd.func10, Tryd.ntmps10
  go_wp2_with fail
  refine cK.mono ?_
  rintro e w1 ⟨rfl, rfl⟩
  clear cK
  go_wp2_with fail
  refine cR.mono ?_
  rintro e w1 ⟨v, rfl, hr, -, hB1⟩
  obtain ⟨a0, cap, rfl, hrow⟩ := hr.form
  obtain ⟨hI0, hal⟩ := HI.out
  have hI := hI0.on hB1
  have hT1 := HT.out.below hB1
  clear HI HT cR f0 f1 f2 f3 f4 f5 hr hB1 hI0
  have hL3 := regsOf_len x
  generalize regsOf x = L at *
  have HI := Lib.hid (And.intro hI (And.intro hal hT1))
  clear hI hal hT1
  go_wp2_with fail
  go_loopw [15] (fun v15 wr => ∃ p : Nat, p ≤ L.length ∧ v15 = .int .i64 (p : Int) ∧ (L.take p).all (fun r => inR r c.r) = true ∧ w1 = wr) (fun v15 _ => L.length - (intOf v15).toNat)
  case atStart => exact ⟨0, Nat.zero_le _, rfl, rfl, rfl⟩
  case round =>
    obtain ⟨p, hp, rfl, hpa, rfl⟩ := hrel
    by_cases hlt : p < L.length
    · have hltI : (p : Int) < (L.length : Int) := by omega
      obtain ⟨r, hr⟩ : ∃ r, L[p]? = some r := ⟨_, List.getElem?_eq_getElem hlt⟩
      obtain ⟨g, rfl, hc⟩ := hrow p r hr
      obtain ⟨hI, hal, hT1⟩ := HI.out
      have d4 := hI.cb.cell 4
      simp only [List.getElem?_toArray, List.getElem?_cons_succ, List.getElem?_cons_zero] at d4
      have cW := within_any r c.r w1
      cases hq : inR r c.r
      · rw [hq] at cW
        have hal2 : al = false := hal.symm.trans (all_not hr hq)
        have HB := Lib.hid (And.intro hI.below hal2)
        clear hI hal hT1 hpa hr hq HI hrow hal2
        go_wp2_with fail
        refine cW.mono ?_
        rintro e w2 ⟨rfl, rfl⟩
        clear cW
        go_wp2_with fail
        go_ret
        rw [HB.out.2]
        exact ⟨rfl, HB.out.1⟩
      · rw [hq] at cW
        have HP := Lib.hid (all_step (f := fun r => inR r c.r) hpa hr hq)
        clear hI hal hT1 hpa hr hq HI hrow
        go_wp2_with fail
        refine cW.mono ?_
        rintro e w2 ⟨rfl, rfl⟩
        clear cW
        go_wp2_with fail
        go_roundw
        case rel => exact ⟨p + 1, by omega, by go_num, HP.out, trivial⟩
        case measure => simp [intOf]; omega
    · obtain rfl : p = L.length := by omega
      have hN : ¬ (L.length : Int) < (L.length : Int) := by omega
      obtain ⟨hI, hal, hT1⟩ := HI.out
      rw [List.take_length] at hpa
      obtain rfl : al = true := hal.symm.trans hpa
      have cO : Calls Tryd.prog 20 #[.int .i64 x.o] w1 fun e w' => e = .returned (.agg #[.string (opOf x.o).nm, .bool (opOf x.o).a, .bool (opOf x.o).b, .bool (opOf x.o).c, .bool (opOf x.o).s, .bool (opOf x.o).g, .bool (opOf x.o).w, .bool (opOf x.o).t]) ∧ Below w1.heap.size w1 w' := of_any x.o w1 hT1
      rw [HO.out.1] at cO
      have Hib := Lib.hid HO.out.2
      clear HO
      have f2 := hI.xb.cell 2
      simp only [List.getElem?_toArray, List.getElem?_cons_succ, List.getElem?_cons_zero] at f2
      have HH := Lib.hid hI
      clear hI hal hT1 hpa HI hrow hp hlt
      go_wp2_with fail
      refine cO.mono ?_
      rintro e w2 ⟨rfl, hB2⟩
      have hI2 := (HH.out.on hB2).alloc (.cells #[.string nm, .bool oa, .bool ob, .bool oc, .bool os, .bool og, .bool ow, .bool ot] 47)
      clear HH cO f2 hB2
      have f4 := hI2.xb.cell 4
      have d6 := hI2.cb.cell 6
      have d7 := hI2.cb.cell 7
      simp only [List.getElem?_toArray, List.getElem?_cons_succ, List.getElem?_cons_zero] at f4 d6 d7
      have HB := Lib.hid hI2.below
      clear hI2

      cases og
      · skip
        cases os
        · clear H67
          go_wp2_with fail
          go_ret
          exact ⟨rfl, HB.out⟩
        · by_cases h6 : x.b < 0
          · obtain rfl : lt = true := H67.out.1.symm.trans (decide_eq_true h6)
            clear H67
            go_wp2_with fail
            go_ret
            exact ⟨rfl, HB.out⟩
          · obtain rfl : lt = false := H67.out.1.symm.trans (decide_eq_false h6)
            by_cases h7 : c.f < x.b
            · obtain rfl : gt = true := H67.out.2.symm.trans (decide_eq_true h7)
              clear H67
              go_wp2_with fail
              go_ret
              exact ⟨rfl, HB.out⟩
            · obtain rfl : gt = false := H67.out.2.symm.trans (decide_eq_false h7)
              clear H67
              go_wp2_with fail
              go_ret
              exact ⟨rfl, HB.out⟩
      · have cW := within_any x.b c.g (w2.alloc (.cells #[.string nm, .bool oa, .bool ob, .bool oc, .bool os, .bool true, .bool ow, .bool ot] 47))
        rw [Hib.out] at cW
        clear Hib
        cases ib
        · clear H67
          go_wp2_with fail
          refine cW.mono ?_
          rintro e w3 ⟨rfl, rfl⟩
          clear cW
          go_wp2_with fail
          go_ret
          exact ⟨rfl, HB.out⟩
        · skip
          cases os
          · clear H67
            go_wp2_with fail
            refine cW.mono ?_
            rintro e w3 ⟨rfl, rfl⟩
            clear cW
            go_wp2_with fail
            go_ret
            exact ⟨rfl, HB.out⟩
          · by_cases h6 : x.b < 0
            · obtain rfl : lt = true := H67.out.1.symm.trans (decide_eq_true h6)
              clear H67
              go_wp2_with fail
              refine cW.mono ?_
              rintro e w3 ⟨rfl, rfl⟩
              clear cW
              go_wp2_with fail
              go_ret
              exact ⟨rfl, HB.out⟩
            · obtain rfl : lt = false := H67.out.1.symm.trans (decide_eq_false h6)
              by_cases h7 : c.f < x.b
              · obtain rfl : gt = true := H67.out.2.symm.trans (decide_eq_true h7)
                clear H67
                go_wp2_with fail
                refine cW.mono ?_
                rintro e w3 ⟨rfl, rfl⟩
                clear cW
                go_wp2_with fail
                go_ret
                exact ⟨rfl, HB.out⟩
              · obtain rfl : gt = false := H67.out.2.symm.trans (decide_eq_false h7)
                clear H67
                go_wp2_with fail
                refine cW.mono ?_
                rintro e w3 ⟨rfl, rfl⟩
                clear cW
                go_wp2_with fail
                go_ret
                exact ⟨rfl, HB.out⟩
end Go.Proofs.YtdkakbddhckbnaaDoor
