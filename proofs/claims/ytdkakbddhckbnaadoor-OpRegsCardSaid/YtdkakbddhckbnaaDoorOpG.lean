/- The law's own check; at this seat's numbers. -/
import Derived.Test.YtdkakbddhckbnaaDoorOpE
namespace Go.Proofs.YtdkakbddhckbnaaDoor
open Go Go.RowKit
set_option linter.unusedSimpArgs false
set_option linter.unusedVariables false
attribute [local go_sem] Oper.semAt_some

theorem lin_any (n : Int) (b : Nat) (r : Int) (w : World) (hc : w.cell? ⟨b, 4, none⟩ = some (.int .i64 r)) : Calls Tryd.prog 21 #[.int .i64 n, .pointer (some ⟨b, 0, none⟩)] w fun e w' => e = .returned (.bool (inR n r)) ∧ w = w' := by
  generalize hq : inR n r = q
  unfold inR at hq
  by_cases h1 : 0 ≤ n
  · have hx : decide (n < r) = q := by simpa [h1] using hq
    clear hq
    go_enter Tryd.func21, Tryd.ntmps21
    go_wp2_with fail
    go_ret
    exact ⟨by simp [hx], rfl⟩
  · have hx : q = false := by simpa [h1] using hq.symm
    subst hx
    clear hq
    go_enter Tryd.func21, Tryd.ntmps21
    go_wp2_with fail
    go_ret
    exact ⟨rfl, rfl⟩
def lck (w : World) (r : Int) (e : Ending) (w' : World) : Prop := e = .returned (.int .i64 r) ∧ Below w.heap.size w w'

theorem chk_0 (c : Cfg) (k t a b cc : Int) : chk c ⟨k, t, 0, a, b, cc⟩ = bif inR a c.r then (bif decide (b < 0) then 6 else bif decide (c.f < b) then 7 else 0) else 4 := by simp [chk, chkB, regsOf, opOf, opN, inR]
theorem chk_1 (c : Cfg) (k t a b cc : Int) : chk c ⟨k, t, 1, a, b, cc⟩ = bif inR a c.r && inR b c.r then 0 else 4 := by simp [chk, chkB, regsOf, opOf, opN, inR]
theorem chk_2 (c : Cfg) (k t a b cc : Int) : chk c ⟨k, t, 2, a, b, cc⟩ = bif inR a c.r && inR cc c.r then 0 else 4 := by simp [chk, chkB, regsOf, opOf, opN, inR]
theorem chk_3 (c : Cfg) (k t a b cc : Int) : chk c ⟨k, t, 3, a, b, cc⟩ = bif inR a c.r then 0 else 4 := by simp [chk, chkB, regsOf, opOf, opN, inR]
theorem chk_4 (c : Cfg) (k t a b cc : Int) : chk c ⟨k, t, 4, a, b, cc⟩ = bif inR a c.r then 0 else 4 := by simp [chk, chkB, regsOf, opOf, opN, inR]
theorem chk_5 (c : Cfg) (k t a b cc : Int) : chk c ⟨k, t, 5, a, b, cc⟩ = bif inR a c.r && inR b c.r then 0 else 4 := by simp [chk, chkB, regsOf, opOf, opN, inR]
theorem chk_6 (c : Cfg) (k t a b cc : Int) : chk c ⟨k, t, 6, a, b, cc⟩ = bif inR a c.r then 0 else 4 := by simp [chk, chkB, regsOf, opOf, opN, inR]
theorem chk_7 (c : Cfg) (k t a b cc : Int) : chk c ⟨k, t, 7, a, b, cc⟩ = bif inR a c.r && inR b c.r then 0 else 4 := by simp [chk, chkB, regsOf, opOf, opN, inR]
theorem chk_8 (c : Cfg) (k t a b cc : Int) : chk c ⟨k, t, 8, a, b, cc⟩ = bif inR a c.r then 0 else 4 := by simp [chk, chkB, regsOf, opOf, opN, inR]
theorem chk_9 (c : Cfg) (k t a b cc : Int) : chk c ⟨k, t, 9, a, b, cc⟩ = bif inR a c.r then 0 else 4 := by simp [chk, chkB, regsOf, opOf, opN, inR]
theorem chk_10 (c : Cfg) (k t a b cc : Int) : chk c ⟨k, t, 10, a, b, cc⟩ = bif inR a c.r then 0 else 4 := by simp [chk, chkB, regsOf, opOf, opN, inR]
theorem chk_11 (c : Cfg) (k t a b cc : Int) : chk c ⟨k, t, 11, a, b, cc⟩ = bif inR a c.r then (bif !inR b c.g then 5 else 0) else 4 := by simp [chk, chkB, regsOf, opOf, opN, inR]
theorem chk_12 (c : Cfg) (k t a b cc : Int) : chk c ⟨k, t, 12, a, b, cc⟩ = bif inR a c.r then (bif !inR b c.g then 5 else 0) else 4 := by simp [chk, chkB, regsOf, opOf, opN, inR]
theorem chk_no (c : Cfg) (x : It) (h : inR x.o 13 = false) : chk c x = 1 := by simp [chk, chkB, h]
set_option maxRecDepth 100000 in
set_option maxHeartbeats 4000000 in
theorem lcheck_0 (c : Cfg) (k t a b cc : Int) (w : World) : Calls Tryd.prog 11 #[c.val, (⟨k, t, 0, a, b, cc⟩ : It).val] w (lck w (chk c ⟨k, t, 0, a, b, cc⟩)) := by
  have hI := BoxC.new c ⟨k, t, 0, a, b, cc⟩ w
  have d4 := hI.cb.cell 4
  have d6 := hI.cb.cell 6
  have d7 := hI.cb.cell 7
  have f2 := hI.xb.cell 2
  have f3 := hI.xb.cell 3
  have f4 := hI.xb.cell 4
  have f5 := hI.xb.cell 5
  simp only [List.getElem?_toArray, List.getElem?_cons_succ, List.getElem?_cons_zero] at d4 d6 d7 f2 f3 f4 f5
  have cA := lin_any a w.heap.size c.r _ d4
  have cB := lin_any b w.heap.size c.r _ d4
  have cC := lin_any cc w.heap.size c.r _ d4
  have HB := Lib.hid hI.below
  clear hI
  rw [chk_0]
  generalize inR a c.r = qa at *
  generalize inR b c.r = qb at *
  generalize inR cc c.r = qc at *
  cases qa
  · skip
    clear cB cC
    go_enter Tryd.func11, Tryd.ntmps11
    go_wp2_with fail
    refine cA.mono ?_
    rintro e w1 ⟨rfl, rfl⟩
    clear cA
    go_wp2_with fail
    go_ret
    exact ⟨rfl, HB.out⟩
  · by_cases h6 : b < 0
    · rw [decide_eq_true h6]
      clear cB cC
      go_enter Tryd.func11, Tryd.ntmps11
      go_wp2_with fail
      refine cA.mono ?_
      rintro e w1 ⟨rfl, rfl⟩
      clear cA
      go_wp2_with fail
      go_ret
      exact ⟨rfl, HB.out⟩
    · rw [decide_eq_false h6]
      by_cases h7 : c.f < b
      · rw [decide_eq_true h7]
        clear cB cC
        go_enter Tryd.func11, Tryd.ntmps11
        go_wp2_with fail
        refine cA.mono ?_
        rintro e w1 ⟨rfl, rfl⟩
        clear cA
        go_wp2_with fail
        go_ret
        exact ⟨rfl, HB.out⟩
      · rw [decide_eq_false h7]
        clear cB cC
        go_enter Tryd.func11, Tryd.ntmps11
        go_wp2_with fail
        refine cA.mono ?_
        rintro e w1 ⟨rfl, rfl⟩
        clear cA
        go_wp2_with fail
        go_ret
        exact ⟨rfl, HB.out⟩
set_option maxRecDepth 100000 in
set_option maxHeartbeats 4000000 in
theorem lcheck_1 (c : Cfg) (k t a b cc : Int) (w : World) : Calls Tryd.prog 11 #[c.val, (⟨k, t, 1, a, b, cc⟩ : It).val] w (lck w (chk c ⟨k, t, 1, a, b, cc⟩)) := by
  have hI := BoxC.new c ⟨k, t, 1, a, b, cc⟩ w
  have d4 := hI.cb.cell 4
  have d6 := hI.cb.cell 6
  have d7 := hI.cb.cell 7
  have f2 := hI.xb.cell 2
  have f3 := hI.xb.cell 3
  have f4 := hI.xb.cell 4
  have f5 := hI.xb.cell 5
  simp only [List.getElem?_toArray, List.getElem?_cons_succ, List.getElem?_cons_zero] at d4 d6 d7 f2 f3 f4 f5
  have cA := lin_any a w.heap.size c.r _ d4
  have cB := lin_any b w.heap.size c.r _ d4
  have cC := lin_any cc w.heap.size c.r _ d4
  have HB := Lib.hid hI.below
  clear hI
  rw [chk_1]
  generalize inR a c.r = qa at *
  generalize inR b c.r = qb at *
  generalize inR cc c.r = qc at *
  cases qa
  · skip
    clear cB cC
    go_enter Tryd.func11, Tryd.ntmps11
    go_wp2_with fail
    refine cA.mono ?_
    rintro e w1 ⟨rfl, rfl⟩
    clear cA
    go_wp2_with fail
    go_ret
    exact ⟨rfl, HB.out⟩
  · cases qb
    · skip
      clear cC
      go_enter Tryd.func11, Tryd.ntmps11
      go_wp2_with fail
      refine cA.mono ?_
      rintro e w1 ⟨rfl, rfl⟩
      clear cA
      go_wp2_with fail
      refine cB.mono ?_
      rintro e w1 ⟨rfl, rfl⟩
      clear cB
      go_wp2_with fail
      go_ret
      exact ⟨rfl, HB.out⟩
    · skip
      clear cC
      go_enter Tryd.func11, Tryd.ntmps11
      go_wp2_with fail
      refine cA.mono ?_
      rintro e w1 ⟨rfl, rfl⟩
      clear cA
      go_wp2_with fail
      refine cB.mono ?_
      rintro e w1 ⟨rfl, rfl⟩
      clear cB
      go_wp2_with fail
      go_ret
      exact ⟨rfl, HB.out⟩
set_option maxRecDepth 100000 in
set_option maxHeartbeats 4000000 in
theorem lcheck_2 (c : Cfg) (k t a b cc : Int) (w : World) : Calls Tryd.prog 11 #[c.val, (⟨k, t, 2, a, b, cc⟩ : It).val] w (lck w (chk c ⟨k, t, 2, a, b, cc⟩)) := by
  have hI := BoxC.new c ⟨k, t, 2, a, b, cc⟩ w
  have d4 := hI.cb.cell 4
  have d6 := hI.cb.cell 6
  have d7 := hI.cb.cell 7
  have f2 := hI.xb.cell 2
  have f3 := hI.xb.cell 3
  have f4 := hI.xb.cell 4
  have f5 := hI.xb.cell 5
  simp only [List.getElem?_toArray, List.getElem?_cons_succ, List.getElem?_cons_zero] at d4 d6 d7 f2 f3 f4 f5
  have cA := lin_any a w.heap.size c.r _ d4
  have cB := lin_any b w.heap.size c.r _ d4
  have cC := lin_any cc w.heap.size c.r _ d4
  have HB := Lib.hid hI.below
  clear hI
  rw [chk_2]
  generalize inR a c.r = qa at *
  generalize inR b c.r = qb at *
  generalize inR cc c.r = qc at *
  cases qa
  · skip
    clear cB cC
    go_enter Tryd.func11, Tryd.ntmps11
    go_wp2_with fail
    refine cA.mono ?_
    rintro e w1 ⟨rfl, rfl⟩
    clear cA
    go_wp2_with fail
    go_ret
    exact ⟨rfl, HB.out⟩
  · cases qc
    · skip
      clear cB
      go_enter Tryd.func11, Tryd.ntmps11
      go_wp2_with fail
      refine cA.mono ?_
      rintro e w1 ⟨rfl, rfl⟩
      clear cA
      go_wp2_with fail
      refine cC.mono ?_
      rintro e w1 ⟨rfl, rfl⟩
      clear cC
      go_wp2_with fail
      go_ret
      exact ⟨rfl, HB.out⟩
    · skip
      clear cB
      go_enter Tryd.func11, Tryd.ntmps11
      go_wp2_with fail
      refine cA.mono ?_
      rintro e w1 ⟨rfl, rfl⟩
      clear cA
      go_wp2_with fail
      refine cC.mono ?_
      rintro e w1 ⟨rfl, rfl⟩
      clear cC
      go_wp2_with fail
      go_ret
      exact ⟨rfl, HB.out⟩
set_option maxRecDepth 100000 in
set_option maxHeartbeats 4000000 in
theorem lcheck_3 (c : Cfg) (k t a b cc : Int) (w : World) : Calls Tryd.prog 11 #[c.val, (⟨k, t, 3, a, b, cc⟩ : It).val] w (lck w (chk c ⟨k, t, 3, a, b, cc⟩)) := by
  have hI := BoxC.new c ⟨k, t, 3, a, b, cc⟩ w
  have d4 := hI.cb.cell 4
  have d6 := hI.cb.cell 6
  have d7 := hI.cb.cell 7
  have f2 := hI.xb.cell 2
  have f3 := hI.xb.cell 3
  have f4 := hI.xb.cell 4
  have f5 := hI.xb.cell 5
  simp only [List.getElem?_toArray, List.getElem?_cons_succ, List.getElem?_cons_zero] at d4 d6 d7 f2 f3 f4 f5
  have cA := lin_any a w.heap.size c.r _ d4
  have cB := lin_any b w.heap.size c.r _ d4
  have cC := lin_any cc w.heap.size c.r _ d4
  have HB := Lib.hid hI.below
  clear hI
  rw [chk_3]
  generalize inR a c.r = qa at *
  generalize inR b c.r = qb at *
  generalize inR cc c.r = qc at *
  cases qa
  · skip
    clear cB cC
    go_enter Tryd.func11, Tryd.ntmps11
    go_wp2_with fail
    refine cA.mono ?_
    rintro e w1 ⟨rfl, rfl⟩
    clear cA
    go_wp2_with fail
    go_ret
    exact ⟨rfl, HB.out⟩
  · skip
    clear cB cC
    go_enter Tryd.func11, Tryd.ntmps11
    go_wp2_with fail
    refine cA.mono ?_
    rintro e w1 ⟨rfl, rfl⟩
    clear cA
    go_wp2_with fail
    go_ret
    exact ⟨rfl, HB.out⟩
set_option maxRecDepth 100000 in
set_option maxHeartbeats 4000000 in
theorem lcheck_4 (c : Cfg) (k t a b cc : Int) (w : World) : Calls Tryd.prog 11 #[c.val, (⟨k, t, 4, a, b, cc⟩ : It).val] w (lck w (chk c ⟨k, t, 4, a, b, cc⟩)) := by
  have hI := BoxC.new c ⟨k, t, 4, a, b, cc⟩ w
  have d4 := hI.cb.cell 4
  have d6 := hI.cb.cell 6
  have d7 := hI.cb.cell 7
  have f2 := hI.xb.cell 2
  have f3 := hI.xb.cell 3
  have f4 := hI.xb.cell 4
  have f5 := hI.xb.cell 5
  simp only [List.getElem?_toArray, List.getElem?_cons_succ, List.getElem?_cons_zero] at d4 d6 d7 f2 f3 f4 f5
  have cA := lin_any a w.heap.size c.r _ d4
  have cB := lin_any b w.heap.size c.r _ d4
  have cC := lin_any cc w.heap.size c.r _ d4
  have HB := Lib.hid hI.below
  clear hI
  rw [chk_4]
  generalize inR a c.r = qa at *
  generalize inR b c.r = qb at *
  generalize inR cc c.r = qc at *
  cases qa
  · skip
    clear cB cC
    go_enter Tryd.func11, Tryd.ntmps11
    go_wp2_with fail
    refine cA.mono ?_
    rintro e w1 ⟨rfl, rfl⟩
    clear cA
    go_wp2_with fail
    go_ret
    exact ⟨rfl, HB.out⟩
  · skip
    clear cB cC
    go_enter Tryd.func11, Tryd.ntmps11
    go_wp2_with fail
    refine cA.mono ?_
    rintro e w1 ⟨rfl, rfl⟩
    clear cA
    go_wp2_with fail
    go_ret
    exact ⟨rfl, HB.out⟩
set_option maxRecDepth 100000 in
set_option maxHeartbeats 4000000 in
theorem lcheck_5 (c : Cfg) (k t a b cc : Int) (w : World) : Calls Tryd.prog 11 #[c.val, (⟨k, t, 5, a, b, cc⟩ : It).val] w (lck w (chk c ⟨k, t, 5, a, b, cc⟩)) := by
  have hI := BoxC.new c ⟨k, t, 5, a, b, cc⟩ w
  have d4 := hI.cb.cell 4
  have d6 := hI.cb.cell 6
  have d7 := hI.cb.cell 7
  have f2 := hI.xb.cell 2
  have f3 := hI.xb.cell 3
  have f4 := hI.xb.cell 4
  have f5 := hI.xb.cell 5
  simp only [List.getElem?_toArray, List.getElem?_cons_succ, List.getElem?_cons_zero] at d4 d6 d7 f2 f3 f4 f5
  have cA := lin_any a w.heap.size c.r _ d4
  have cB := lin_any b w.heap.size c.r _ d4
  have cC := lin_any cc w.heap.size c.r _ d4
  have HB := Lib.hid hI.below
  clear hI
  rw [chk_5]
  generalize inR a c.r = qa at *
  generalize inR b c.r = qb at *
  generalize inR cc c.r = qc at *
  cases qa
  · skip
    clear cB cC
    go_enter Tryd.func11, Tryd.ntmps11
    go_wp2_with fail
    refine cA.mono ?_
    rintro e w1 ⟨rfl, rfl⟩
    clear cA
    go_wp2_with fail
    go_ret
    exact ⟨rfl, HB.out⟩
  · cases qb
    · skip
      clear cC
      go_enter Tryd.func11, Tryd.ntmps11
      go_wp2_with fail
      refine cA.mono ?_
      rintro e w1 ⟨rfl, rfl⟩
      clear cA
      go_wp2_with fail
      refine cB.mono ?_
      rintro e w1 ⟨rfl, rfl⟩
      clear cB
      go_wp2_with fail
      go_ret
      exact ⟨rfl, HB.out⟩
    · skip
      clear cC
      go_enter Tryd.func11, Tryd.ntmps11
      go_wp2_with fail
      refine cA.mono ?_
      rintro e w1 ⟨rfl, rfl⟩
      clear cA
      go_wp2_with fail
      refine cB.mono ?_
      rintro e w1 ⟨rfl, rfl⟩
      clear cB
      go_wp2_with fail
      go_ret
      exact ⟨rfl, HB.out⟩
set_option maxRecDepth 100000 in
set_option maxHeartbeats 4000000 in
theorem lcheck_6 (c : Cfg) (k t a b cc : Int) (w : World) : Calls Tryd.prog 11 #[c.val, (⟨k, t, 6, a, b, cc⟩ : It).val] w (lck w (chk c ⟨k, t, 6, a, b, cc⟩)) := by
  have hI := BoxC.new c ⟨k, t, 6, a, b, cc⟩ w
  have d4 := hI.cb.cell 4
  have d6 := hI.cb.cell 6
  have d7 := hI.cb.cell 7
  have f2 := hI.xb.cell 2
  have f3 := hI.xb.cell 3
  have f4 := hI.xb.cell 4
  have f5 := hI.xb.cell 5
  simp only [List.getElem?_toArray, List.getElem?_cons_succ, List.getElem?_cons_zero] at d4 d6 d7 f2 f3 f4 f5
  have cA := lin_any a w.heap.size c.r _ d4
  have cB := lin_any b w.heap.size c.r _ d4
  have cC := lin_any cc w.heap.size c.r _ d4
  have HB := Lib.hid hI.below
  clear hI
  rw [chk_6]
  generalize inR a c.r = qa at *
  generalize inR b c.r = qb at *
  generalize inR cc c.r = qc at *
  cases qa
  · skip
    clear cB cC
    go_enter Tryd.func11, Tryd.ntmps11
    go_wp2_with fail
    refine cA.mono ?_
    rintro e w1 ⟨rfl, rfl⟩
    clear cA
    go_wp2_with fail
    go_ret
    exact ⟨rfl, HB.out⟩
  · skip
    clear cB cC
    go_enter Tryd.func11, Tryd.ntmps11
    go_wp2_with fail
    refine cA.mono ?_
    rintro e w1 ⟨rfl, rfl⟩
    clear cA
    go_wp2_with fail
    go_ret
    exact ⟨rfl, HB.out⟩
set_option maxRecDepth 100000 in
set_option maxHeartbeats 4000000 in
theorem lcheck_7 (c : Cfg) (k t a b cc : Int) (w : World) : Calls Tryd.prog 11 #[c.val, (⟨k, t, 7, a, b, cc⟩ : It).val] w (lck w (chk c ⟨k, t, 7, a, b, cc⟩)) := by
  have hI := BoxC.new c ⟨k, t, 7, a, b, cc⟩ w
  have d4 := hI.cb.cell 4
  have d6 := hI.cb.cell 6
  have d7 := hI.cb.cell 7
  have f2 := hI.xb.cell 2
  have f3 := hI.xb.cell 3
  have f4 := hI.xb.cell 4
  have f5 := hI.xb.cell 5
  simp only [List.getElem?_toArray, List.getElem?_cons_succ, List.getElem?_cons_zero] at d4 d6 d7 f2 f3 f4 f5
  have cA := lin_any a w.heap.size c.r _ d4
  have cB := lin_any b w.heap.size c.r _ d4
  have cC := lin_any cc w.heap.size c.r _ d4
  have HB := Lib.hid hI.below
  clear hI
  rw [chk_7]
  generalize inR a c.r = qa at *
  generalize inR b c.r = qb at *
  generalize inR cc c.r = qc at *
  cases qa
  · skip
    clear cB cC
    go_enter Tryd.func11, Tryd.ntmps11
    go_wp2_with fail
    refine cA.mono ?_
    rintro e w1 ⟨rfl, rfl⟩
    clear cA
    go_wp2_with fail
    go_ret
    exact ⟨rfl, HB.out⟩
  · cases qb
    · skip
      clear cC
      go_enter Tryd.func11, Tryd.ntmps11
      go_wp2_with fail
      refine cA.mono ?_
      rintro e w1 ⟨rfl, rfl⟩
      clear cA
      go_wp2_with fail
      refine cB.mono ?_
      rintro e w1 ⟨rfl, rfl⟩
      clear cB
      go_wp2_with fail
      go_ret
      exact ⟨rfl, HB.out⟩
    · skip
      clear cC
      go_enter Tryd.func11, Tryd.ntmps11
      go_wp2_with fail
      refine cA.mono ?_
      rintro e w1 ⟨rfl, rfl⟩
      clear cA
      go_wp2_with fail
      refine cB.mono ?_
      rintro e w1 ⟨rfl, rfl⟩
      clear cB
      go_wp2_with fail
      go_ret
      exact ⟨rfl, HB.out⟩
set_option maxRecDepth 100000 in
set_option maxHeartbeats 4000000 in
theorem lcheck_8 (c : Cfg) (k t a b cc : Int) (w : World) : Calls Tryd.prog 11 #[c.val, (⟨k, t, 8, a, b, cc⟩ : It).val] w (lck w (chk c ⟨k, t, 8, a, b, cc⟩)) := by
  have hI := BoxC.new c ⟨k, t, 8, a, b, cc⟩ w
  have d4 := hI.cb.cell 4
  have d6 := hI.cb.cell 6
  have d7 := hI.cb.cell 7
  have f2 := hI.xb.cell 2
  have f3 := hI.xb.cell 3
  have f4 := hI.xb.cell 4
  have f5 := hI.xb.cell 5
  simp only [List.getElem?_toArray, List.getElem?_cons_succ, List.getElem?_cons_zero] at d4 d6 d7 f2 f3 f4 f5
  have cA := lin_any a w.heap.size c.r _ d4
  have cB := lin_any b w.heap.size c.r _ d4
  have cC := lin_any cc w.heap.size c.r _ d4
  have HB := Lib.hid hI.below
  clear hI
  rw [chk_8]
  generalize inR a c.r = qa at *
  generalize inR b c.r = qb at *
  generalize inR cc c.r = qc at *
  cases qa
  · skip
    clear cB cC
    go_enter Tryd.func11, Tryd.ntmps11
    go_wp2_with fail
    refine cA.mono ?_
    rintro e w1 ⟨rfl, rfl⟩
    clear cA
    go_wp2_with fail
    go_ret
    exact ⟨rfl, HB.out⟩
  · skip
    clear cB cC
    go_enter Tryd.func11, Tryd.ntmps11
    go_wp2_with fail
    refine cA.mono ?_
    rintro e w1 ⟨rfl, rfl⟩
    clear cA
    go_wp2_with fail
    go_ret
    exact ⟨rfl, HB.out⟩
set_option maxRecDepth 100000 in
set_option maxHeartbeats 4000000 in
theorem lcheck_9 (c : Cfg) (k t a b cc : Int) (w : World) : Calls Tryd.prog 11 #[c.val, (⟨k, t, 9, a, b, cc⟩ : It).val] w (lck w (chk c ⟨k, t, 9, a, b, cc⟩)) := by
  have hI := BoxC.new c ⟨k, t, 9, a, b, cc⟩ w
  have d4 := hI.cb.cell 4
  have d6 := hI.cb.cell 6
  have d7 := hI.cb.cell 7
  have f2 := hI.xb.cell 2
  have f3 := hI.xb.cell 3
  have f4 := hI.xb.cell 4
  have f5 := hI.xb.cell 5
  simp only [List.getElem?_toArray, List.getElem?_cons_succ, List.getElem?_cons_zero] at d4 d6 d7 f2 f3 f4 f5
  have cA := lin_any a w.heap.size c.r _ d4
  have cB := lin_any b w.heap.size c.r _ d4
  have cC := lin_any cc w.heap.size c.r _ d4
  have HB := Lib.hid hI.below
  clear hI
  rw [chk_9]
  generalize inR a c.r = qa at *
  generalize inR b c.r = qb at *
  generalize inR cc c.r = qc at *
  cases qa
  · skip
    clear cB cC
    go_enter Tryd.func11, Tryd.ntmps11
    go_wp2_with fail
    refine cA.mono ?_
    rintro e w1 ⟨rfl, rfl⟩
    clear cA
    go_wp2_with fail
    go_ret
    exact ⟨rfl, HB.out⟩
  · skip
    clear cB cC
    go_enter Tryd.func11, Tryd.ntmps11
    go_wp2_with fail
    refine cA.mono ?_
    rintro e w1 ⟨rfl, rfl⟩
    clear cA
    go_wp2_with fail
    go_ret
    exact ⟨rfl, HB.out⟩
set_option maxRecDepth 100000 in
set_option maxHeartbeats 4000000 in
theorem lcheck_10 (c : Cfg) (k t a b cc : Int) (w : World) : Calls Tryd.prog 11 #[c.val, (⟨k, t, 10, a, b, cc⟩ : It).val] w (lck w (chk c ⟨k, t, 10, a, b, cc⟩)) := by
  have hI := BoxC.new c ⟨k, t, 10, a, b, cc⟩ w
  have d4 := hI.cb.cell 4
  have d6 := hI.cb.cell 6
  have d7 := hI.cb.cell 7
  have f2 := hI.xb.cell 2
  have f3 := hI.xb.cell 3
  have f4 := hI.xb.cell 4
  have f5 := hI.xb.cell 5
  simp only [List.getElem?_toArray, List.getElem?_cons_succ, List.getElem?_cons_zero] at d4 d6 d7 f2 f3 f4 f5
  have cA := lin_any a w.heap.size c.r _ d4
  have cB := lin_any b w.heap.size c.r _ d4
  have cC := lin_any cc w.heap.size c.r _ d4
  have HB := Lib.hid hI.below
  clear hI
  rw [chk_10]
  generalize inR a c.r = qa at *
  generalize inR b c.r = qb at *
  generalize inR cc c.r = qc at *
  cases qa
  · skip
    clear cB cC
    go_enter Tryd.func11, Tryd.ntmps11
    go_wp2_with fail
    refine cA.mono ?_
    rintro e w1 ⟨rfl, rfl⟩
    clear cA
    go_wp2_with fail
    go_ret
    exact ⟨rfl, HB.out⟩
  · skip
    clear cB cC
    go_enter Tryd.func11, Tryd.ntmps11
    go_wp2_with fail
    refine cA.mono ?_
    rintro e w1 ⟨rfl, rfl⟩
    clear cA
    go_wp2_with fail
    go_ret
    exact ⟨rfl, HB.out⟩
set_option maxRecDepth 100000 in
set_option maxHeartbeats 4000000 in
theorem lcheck_11 (c : Cfg) (k t a b cc : Int) (w : World) : Calls Tryd.prog 11 #[c.val, (⟨k, t, 11, a, b, cc⟩ : It).val] w (lck w (chk c ⟨k, t, 11, a, b, cc⟩)) := by
  have hI := BoxC.new c ⟨k, t, 11, a, b, cc⟩ w
  have d4 := hI.cb.cell 4
  have d6 := hI.cb.cell 6
  have d7 := hI.cb.cell 7
  have f2 := hI.xb.cell 2
  have f3 := hI.xb.cell 3
  have f4 := hI.xb.cell 4
  have f5 := hI.xb.cell 5
  simp only [List.getElem?_toArray, List.getElem?_cons_succ, List.getElem?_cons_zero] at d4 d6 d7 f2 f3 f4 f5
  have cA := lin_any a w.heap.size c.r _ d4
  have cB := lin_any b w.heap.size c.r _ d4
  have cC := lin_any cc w.heap.size c.r _ d4
  have HB := Lib.hid hI.below
  clear hI
  rw [chk_11]
  generalize inR a c.r = qa at *
  generalize inR b c.r = qb at *
  generalize inR cc c.r = qc at *
  cases qa
  · skip
    clear cB cC
    go_enter Tryd.func11, Tryd.ntmps11
    go_wp2_with fail
    refine cA.mono ?_
    rintro e w1 ⟨rfl, rfl⟩
    clear cA
    go_wp2_with fail
    go_ret
    exact ⟨rfl, HB.out⟩
  · by_cases h6 : b < 0
    · rw [inR_not.2 (.inl h6)]
      clear cB cC
      go_enter Tryd.func11, Tryd.ntmps11
      go_wp2_with fail
      refine cA.mono ?_
      rintro e w1 ⟨rfl, rfl⟩
      clear cA
      go_wp2_with fail
      go_ret
      exact ⟨rfl, HB.out⟩
    · by_cases h7 : c.g ≤ b
      · rw [inR_not.2 (.inr h7)]
        clear cB cC
        go_enter Tryd.func11, Tryd.ntmps11
        go_wp2_with fail
        refine cA.mono ?_
        rintro e w1 ⟨rfl, rfl⟩
        clear cA
        go_wp2_with fail
        go_ret
        exact ⟨rfl, HB.out⟩
      · rw [inR_iff.2 ⟨by omega, by omega⟩]
        clear cB cC
        go_enter Tryd.func11, Tryd.ntmps11
        go_wp2_with fail
        refine cA.mono ?_
        rintro e w1 ⟨rfl, rfl⟩
        clear cA
        go_wp2_with fail
        go_ret
        exact ⟨rfl, HB.out⟩
set_option maxRecDepth 100000 in
set_option maxHeartbeats 4000000 in
theorem lcheck_12 (c : Cfg) (k t a b cc : Int) (w : World) : Calls Tryd.prog 11 #[c.val, (⟨k, t, 12, a, b, cc⟩ : It).val] w (lck w (chk c ⟨k, t, 12, a, b, cc⟩)) := by
  have hI := BoxC.new c ⟨k, t, 12, a, b, cc⟩ w
  have d4 := hI.cb.cell 4
  have d6 := hI.cb.cell 6
  have d7 := hI.cb.cell 7
  have f2 := hI.xb.cell 2
  have f3 := hI.xb.cell 3
  have f4 := hI.xb.cell 4
  have f5 := hI.xb.cell 5
  simp only [List.getElem?_toArray, List.getElem?_cons_succ, List.getElem?_cons_zero] at d4 d6 d7 f2 f3 f4 f5
  have cA := lin_any a w.heap.size c.r _ d4
  have cB := lin_any b w.heap.size c.r _ d4
  have cC := lin_any cc w.heap.size c.r _ d4
  have HB := Lib.hid hI.below
  clear hI
  rw [chk_12]
  generalize inR a c.r = qa at *
  generalize inR b c.r = qb at *
  generalize inR cc c.r = qc at *
  cases qa
  · skip
    clear cB cC
    go_enter Tryd.func11, Tryd.ntmps11
    go_wp2_with fail
    refine cA.mono ?_
    rintro e w1 ⟨rfl, rfl⟩
    clear cA
    go_wp2_with fail
    go_ret
    exact ⟨rfl, HB.out⟩
  · by_cases h6 : b < 0
    · rw [inR_not.2 (.inl h6)]
      clear cB cC
      go_enter Tryd.func11, Tryd.ntmps11
      go_wp2_with fail
      refine cA.mono ?_
      rintro e w1 ⟨rfl, rfl⟩
      clear cA
      go_wp2_with fail
      go_ret
      exact ⟨rfl, HB.out⟩
    · by_cases h7 : c.g ≤ b
      · rw [inR_not.2 (.inr h7)]
        clear cB cC
        go_enter Tryd.func11, Tryd.ntmps11
        go_wp2_with fail
        refine cA.mono ?_
        rintro e w1 ⟨rfl, rfl⟩
        clear cA
        go_wp2_with fail
        go_ret
        exact ⟨rfl, HB.out⟩
      · rw [inR_iff.2 ⟨by omega, by omega⟩]
        clear cB cC
        go_enter Tryd.func11, Tryd.ntmps11
        go_wp2_with fail
        refine cA.mono ?_
        rintro e w1 ⟨rfl, rfl⟩
        clear cA
        go_wp2_with fail
        go_ret
        exact ⟨rfl, HB.out⟩
set_option maxRecDepth 100000 in
set_option maxHeartbeats 4000000 in
theorem lcheck_low (c : Cfg) (k t a b cc : Int) (o : Int) (ho : o < 0) (w : World) : Calls Tryd.prog 11 #[c.val, (⟨k, t, o, a, b, cc⟩ : It).val] w (lck w (chk c ⟨k, t, o, a, b, cc⟩)) := by
  have hI := BoxC.new c ⟨k, t, o, a, b, cc⟩ w
  have d4 := hI.cb.cell 4
  have d6 := hI.cb.cell 6
  have d7 := hI.cb.cell 7
  have f2 := hI.xb.cell 2
  have f3 := hI.xb.cell 3
  have f4 := hI.xb.cell 4
  have f5 := hI.xb.cell 5
  simp only [List.getElem?_toArray, List.getElem?_cons_succ, List.getElem?_cons_zero] at d4 d6 d7 f2 f3 f4 f5
  have cA := lin_any a w.heap.size c.r _ d4
  have cB := lin_any b w.heap.size c.r _ d4
  have cC := lin_any cc w.heap.size c.r _ d4
  have HB := Lib.hid hI.below
  clear hI
  rw [chk_no _ _ (inR_not.2 (.inl ho))]
  have n1 : ¬ o = 1 := by omega
  have n5 : ¬ o = 5 := by omega
  have n7 : ¬ o = 7 := by omega
  have n2 : ¬ o = 2 := by omega
  have m1 : (o == 1) = false := by simpa using n1
  have m5 : (o == 5) = false := by simpa using n5
  have m7 : (o == 7) = false := by simpa using n7
  have m2 : (o == 2) = false := by simpa using n2
  clear n1 n5 n7 n2
  clear cB cC
  go_enter Tryd.func11, Tryd.ntmps11
  go_wp2_with fail
  refine cA.mono ?_
  rintro e w1 ⟨rfl, rfl⟩
  clear cA
  go_wp2_with fail
  go_ret
  exact ⟨rfl, HB.out⟩
set_option maxRecDepth 100000 in
set_option maxHeartbeats 4000000 in
theorem lcheck_high (c : Cfg) (k t a b cc : Int) (o : Int) (ho : 12 < o) (w : World) : Calls Tryd.prog 11 #[c.val, (⟨k, t, o, a, b, cc⟩ : It).val] w (lck w (chk c ⟨k, t, o, a, b, cc⟩)) := by
  have hI := BoxC.new c ⟨k, t, o, a, b, cc⟩ w
  have d4 := hI.cb.cell 4
  have d6 := hI.cb.cell 6
  have d7 := hI.cb.cell 7
  have f2 := hI.xb.cell 2
  have f3 := hI.xb.cell 3
  have f4 := hI.xb.cell 4
  have f5 := hI.xb.cell 5
  simp only [List.getElem?_toArray, List.getElem?_cons_succ, List.getElem?_cons_zero] at d4 d6 d7 f2 f3 f4 f5
  have cA := lin_any a w.heap.size c.r _ d4
  have cB := lin_any b w.heap.size c.r _ d4
  have cC := lin_any cc w.heap.size c.r _ d4
  have HB := Lib.hid hI.below
  clear hI
  rw [chk_no _ _ (inR_not.2 (.inr (by show 13 ≤ o; omega)))]
  have hl : ¬ o < 0 := by omega
  have n1 : ¬ o = 1 := by omega
  have n5 : ¬ o = 5 := by omega
  have n7 : ¬ o = 7 := by omega
  have n2 : ¬ o = 2 := by omega
  have m1 : (o == 1) = false := by simpa using n1
  have m5 : (o == 5) = false := by simpa using n5
  have m7 : (o == 7) = false := by simpa using n7
  have m2 : (o == 2) = false := by simpa using n2
  clear n1 n5 n7 n2
  clear cB cC
  go_enter Tryd.func11, Tryd.ntmps11
  go_wp2_with fail
  refine cA.mono ?_
  rintro e w1 ⟨rfl, rfl⟩
  clear cA
  go_wp2_with fail
  go_ret
  exact ⟨rfl, HB.out⟩
theorem lcheck_any (c : Cfg) (x : It) (w : World) : Calls Tryd.prog 11 #[c.val, x.val] w fun e w' => e = .returned (.int .i64 (chk c x)) ∧ Below w.heap.size w w' := by
  obtain ⟨k, t, o, a, b, cc⟩ := x
  by_cases h1 : o < 0
  · exact lcheck_low c k t a b cc o h1 w
  by_cases h2 : 12 < o
  · exact lcheck_high c k t a b cc o h2 w
  obtain ⟨n, rfl⟩ := Int.eq_ofNat_of_zero_le (Int.not_lt.1 h1)
  have hn : n < 13 := by omega
  clear h1 h2
  match n, hn with
  | 0, _ => exact lcheck_0 c k t a b cc w
  | 1, _ => exact lcheck_1 c k t a b cc w
  | 2, _ => exact lcheck_2 c k t a b cc w
  | 3, _ => exact lcheck_3 c k t a b cc w
  | 4, _ => exact lcheck_4 c k t a b cc w
  | 5, _ => exact lcheck_5 c k t a b cc w
  | 6, _ => exact lcheck_6 c k t a b cc w
  | 7, _ => exact lcheck_7 c k t a b cc w
  | 8, _ => exact lcheck_8 c k t a b cc w
  | 9, _ => exact lcheck_9 c k t a b cc w
  | 10, _ => exact lcheck_10 c k t a b cc w
  | 11, _ => exact lcheck_11 c k t a b cc w
  | 12, _ => exact lcheck_12 c k t a b cc w
end Go.Proofs.YtdkakbddhckbnaaDoor
