/- Check, and the law's own 'may'; at this seat's numbers. -/
import Derived.Test.YtaoankajpknncaaDoorCfA
import Derived.Deep.RegionHeld3
namespace Go.Proofs.YtaoankajpknncaaDoor
open Go Go.RowKit
set_option linter.unusedSimpArgs false
set_option linter.unusedVariables false
attribute [local go_sem] Oper.semAt_some

/-! ### The law's own -/
theorem in_any (x lo hi : Int) (q : Bool) (hq : inB x lo hi = q) (w : World) : Calls Tryd.prog 16 #[.int .i64 x, .int .i64 lo, .int .i64 hi] w fun e w' => e = .returned (.bool q) ∧ w = w' := by
  unfold inB at hq
  by_cases h1 : lo ≤ x
  · have hx : decide (x ≤ hi) = q := by simpa [h1] using hq
    clear hq
    go_enter Tryd.func16, Tryd.ntmps16
    go_wp2_with fail
    go_ret
    exact ⟨by simp [hx], rfl⟩
  · have hx : q = false := by simpa [h1] using hq.symm
    subst hx
    clear hq
    go_enter Tryd.func16, Tryd.ntmps16
    go_wp2_with fail
    go_ret
    exact ⟨rfl, rfl⟩

set_option maxRecDepth 100000 in
set_option maxHeartbeats 4000000 in
theorem may_any (c : Cfg) (w : World) : Calls Tryd.prog 9 #[c.val] w fun e w' => e = .returned (.bool c.may) ∧ Below w.heap.size w w' := by
  have hB := fun cs : Array Value => (Below.refl w.heap.size w).alloc (Nat.le_refl _) (.cells cs 23)
  generalize hm : c.may = q
  unfold Cfg.may at hm
  go_enter Tryd.func9, Tryd.ntmps9
  go_wp2_with fail
  refine (in_any c.e 0 3 _ rfl _).mono ?_
  rintro e w0 ⟨rfl, rfl⟩
  cases h0 : inB c.e 0 3
  · obtain rfl : q = false := by simpa [h0] using hm.symm
    go_wp2_with fail
    all_goals (go_ret; exact ⟨rfl, hB _⟩)
  rw [h0, Bool.true_and] at hm
  clear h0
  go_wp2_with fail
  refine (in_any c.p 1 64 _ rfl _).mono ?_
  rintro e w1 ⟨rfl, rfl⟩
  cases h1 : inB c.p 1 64
  · obtain rfl : q = false := by simpa [h1] using hm.symm
    go_wp2_with fail
    all_goals (go_ret; exact ⟨rfl, hB _⟩)
  rw [h1, Bool.true_and] at hm
  clear h1
  go_wp2_with fail
  refine (in_any c.t 1 4 _ rfl _).mono ?_
  rintro e w2 ⟨rfl, rfl⟩
  cases h2 : inB c.t 1 4
  · obtain rfl : q = false := by simpa [h2] using hm.symm
    go_wp2_with fail
    all_goals (go_ret; exact ⟨rfl, hB _⟩)
  rw [h2, Bool.true_and] at hm
  clear h2
  go_wp2_with fail
  refine (in_any c.r 1 8 _ rfl _).mono ?_
  rintro e w3 ⟨rfl, rfl⟩
  cases h3 : inB c.r 1 8
  · obtain rfl : q = false := by simpa [h3] using hm.symm
    go_wp2_with fail
    all_goals (go_ret; exact ⟨rfl, hB _⟩)
  rw [h3, Bool.true_and] at hm
  clear h3
  go_wp2_with fail
  refine (in_any c.s 0 8 _ rfl _).mono ?_
  rintro e w4 ⟨rfl, rfl⟩
  cases h4 : inB c.s 0 8
  · obtain rfl : q = false := by simpa [h4] using hm.symm
    go_wp2_with fail
    all_goals (go_ret; exact ⟨rfl, hB _⟩)
  rw [h4, Bool.true_and] at hm
  clear h4
  go_wp2_with fail
  refine (in_any c.g 0 4 _ rfl _).mono ?_
  rintro e w5 ⟨rfl, rfl⟩
  cases h5 : inB c.g 0 4
  · obtain rfl : q = false := by simpa [h5] using hm.symm
    go_wp2_with fail
    all_goals (go_ret; exact ⟨rfl, hB _⟩)
  rw [h5, Bool.true_and] at hm
  clear h5
  go_wp2_with fail
  refine (in_any c.f 0 6 _ rfl _).mono ?_
  rintro e w6 ⟨rfl, rfl⟩
  cases h6 : inB c.f 0 6
  · obtain rfl : q = false := by simpa [h6] using hm.symm
    go_wp2_with fail
    all_goals (go_ret; exact ⟨rfl, hB _⟩)
  rw [h6, Bool.true_and] at hm
  clear h6
  go_wp2_with fail
  refine (in_any c.m 1 64 _ rfl _).mono ?_
  rintro e w7 ⟨rfl, rfl⟩
  cases h7 : inB c.m 1 64
  · obtain rfl : q = false := by simpa [h7] using hm.symm
    go_wp2_with fail
    all_goals (go_ret; exact ⟨rfl, hB _⟩)
  rw [h7, Bool.true_and] at hm
  clear h7
  go_wp2_with fail
  refine (in_any c.l 0 64 _ rfl _).mono ?_
  rintro e w8 ⟨rfl, rfl⟩
  cases h8 : inB c.l 0 64
  · obtain rfl : q = false := by simpa [h8] using hm.symm
    go_wp2_with fail
    all_goals (go_ret; exact ⟨rfl, hB _⟩)
  rw [h8, Bool.true_and] at hm
  clear h8
  go_wp2_with fail
  refine (in_any c.b 1 16 _ rfl _).mono ?_
  rintro e w9 ⟨rfl, rfl⟩
  cases h9 : inB c.b 1 16
  · obtain rfl : q = false := by simpa [h9] using hm.symm
    go_wp2_with fail
    all_goals (go_ret; exact ⟨rfl, hB _⟩)
  rw [h9, Bool.true_and] at hm
  clear h9
  go_wp2_with fail
  all_goals (go_ret; exact ⟨by simp_all, hB _⟩)
end Go.Proofs.YtaoankajpknncaaDoor
