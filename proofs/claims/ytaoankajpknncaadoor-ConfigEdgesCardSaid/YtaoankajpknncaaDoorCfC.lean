/- bounds, holds, Check; at this seat's numbers. -/
import Derived.Test.YtaoankajpknncaaDoorCfA
import Derived.Deep.RegionHeld3
namespace Go.Proofs.YtaoankajpknncaaDoor
open Go Go.RowKit
set_option linter.unusedSimpArgs false
set_option linter.unusedVariables false
attribute [local go_sem] Oper.semAt_some

/-- The numbers, in the order of their bounds. -/
def Cfg.num (c : Cfg) : Nat → Int
  | 0 => c.e
  | 1 => c.p
  | 2 => c.t
  | 3 => c.r
  | 4 => c.s
  | 5 => c.g
  | 6 => c.f
  | 7 => c.m
  | 8 => c.l
  | _ => c.b
def lowB : Nat → Int
  | 0 => 0
  | 1 => 1
  | 2 => 1
  | 3 => 1
  | 4 => 0
  | 5 => 0
  | 6 => 0
  | 7 => 1
  | 8 => 0
  | _ => 1
def highB : Nat → Int
  | 0 => 3
  | 1 => 64
  | 2 => 4
  | 3 => 8
  | 4 => 8
  | 5 => 4
  | 6 => 6
  | 7 => 64
  | 8 => 64
  | _ => 16
def fnB : Nat → Nat
  | 0 => 19
  | 1 => 20
  | 2 => 21
  | 3 => 22
  | 4 => 23
  | 5 => 24
  | 6 => 25
  | 7 => 26
  | 8 => 27
  | _ => 28
theorem Cfg.may_nums (c : Cfg) : c.may = true ↔ (∀ i, i < 10 → inB (c.num i) (lowB i) (highB i) = true) ∧ (c.e = 2 → c.k = true) := by
  unfold Cfg.may
  simp only [Bool.and_eq_true]
  constructor
  · rintro ⟨h0, h1, h2, h3, h4, h5, h6, h7, h8, h9, h10⟩
    refine ⟨fun i hi => ?_, fun h => by simpa [h] using h10⟩
    match i, hi with
    | 0, _ => exact h0
    | 1, _ => exact h1
    | 2, _ => exact h2
    | 3, _ => exact h3
    | 4, _ => exact h4
    | 5, _ => exact h5
    | 6, _ => exact h6
    | 7, _ => exact h7
    | 8, _ => exact h8
    | 9, _ => exact h9
  · rintro ⟨h, h2⟩
    refine ⟨h 0 (by decide), h 1 (by decide), h 2 (by decide), h 3 (by decide), h 4 (by decide), h 5 (by decide), h 6 (by decide), h 7 (by decide), h 8 (by decide), h 9 (by decide), ?_⟩
    by_cases e : c.e = 2
    · simp [e, h2 e]
    · simp [e]

theorem num_any (c : Cfg) (i : Nat) (hi : i < 10) (w : World) : Calls Tryd.prog (fnB i) #[c.val] w fun e w' => e = .returned (.int .i64 (c.num i)) ∧ Below w.heap.size w w' := by
  have hB := (Below.refl w.heap.size w).alloc (Nat.le_refl _) (.cells c.arr 23)
  match i, hi with
  | 0, _ => exact (by go_enter Tryd.func19, Tryd.ntmps19; go_wp2_with fail; go_ret; exact ⟨rfl, hB⟩)
  | 1, _ => exact (by go_enter Tryd.func20, Tryd.ntmps20; go_wp2_with fail; go_ret; exact ⟨rfl, hB⟩)
  | 2, _ => exact (by go_enter Tryd.func21, Tryd.ntmps21; go_wp2_with fail; go_ret; exact ⟨rfl, hB⟩)
  | 3, _ => exact (by go_enter Tryd.func22, Tryd.ntmps22; go_wp2_with fail; go_ret; exact ⟨rfl, hB⟩)
  | 4, _ => exact (by go_enter Tryd.func23, Tryd.ntmps23; go_wp2_with fail; go_ret; exact ⟨rfl, hB⟩)
  | 5, _ => exact (by go_enter Tryd.func24, Tryd.ntmps24; go_wp2_with fail; go_ret; exact ⟨rfl, hB⟩)
  | 6, _ => exact (by go_enter Tryd.func25, Tryd.ntmps25; go_wp2_with fail; go_ret; exact ⟨rfl, hB⟩)
  | 7, _ => exact (by go_enter Tryd.func26, Tryd.ntmps26; go_wp2_with fail; go_ret; exact ⟨rfl, hB⟩)
  | 8, _ => exact (by go_enter Tryd.func27, Tryd.ntmps27; go_wp2_with fail; go_ret; exact ⟨rfl, hB⟩)
  | 9, _ => exact (by go_enter Tryd.func28, Tryd.ntmps28; go_wp2_with fail; go_ret; exact ⟨rfl, hB⟩)

set_option maxRecDepth 100000 in
theorem holds_0 (c : Cfg) (lo hi : Int) (q : Bool) (hq : inB (c.num 0) lo hi = q) (w : World) :
    Calls Tryd.prog 18 #[.agg #[.func (.func 19) #[] #[], .int .i64 lo, .int .i64 hi], c.val] w fun e w' => e = .returned (.bool q) ∧ Below w.heap.size w w' := by
  have hN0 := num_any c 0 (by decide) ((w.alloc (.cells #[.func (.func 19) #[] #[], .int .i64 lo, .int .i64 hi] 51)).alloc (.cells c.arr 23))
  have hb1 := (Blk.new w #[.func (.func 19) #[] #[], .int .i64 lo, .int .i64 hi] 51).alloc (.cells c.arr 23)
  have hB0 := ((Below.refl w.heap.size w).alloc (Nat.le_refl _) (.cells #[.func (.func 19) #[] #[], .int .i64 lo, .int .i64 hi] 51)).alloc (by simp) (.cells c.arr 23)
  unfold inB at hq
  generalize hx : c.num 0 = x at *
  clear hx
  go_enter Tryd.func18, Tryd.ntmps18
  go_wp2_with fail
  refine hN0.mono ?_
  rintro e w1 ⟨rfl, hB1⟩
  have hb2 := hb1.turn (Turn.ofBelow hB1) (fun h => absurd hb1.lt (Nat.not_lt.2 h))
  have hB2 := hB0.trans (hB1.mono hB0.size)
  have c1 := hb2.cell 1
  have c2 := hb2.cell 2
  simp only [List.getElem?_toArray, List.getElem?_cons_succ, List.getElem?_cons_zero] at c1 c2
  clear hN0 hb1 hb2 hB0 hB1
  by_cases h1 : lo ≤ x
  · have hx : decide (x ≤ hi) = q := by simpa [h1] using hq
    clear hq
    go_wp2_with fail
    go_ret
    exact ⟨by simp [hx], hB2⟩
  · have hx : q = false := by simpa [h1] using hq.symm
    subst hx
    clear hq
    go_wp2_with fail
    go_ret
    exact ⟨rfl, hB2⟩
set_option maxRecDepth 100000 in
theorem holds_1 (c : Cfg) (lo hi : Int) (q : Bool) (hq : inB (c.num 1) lo hi = q) (w : World) :
    Calls Tryd.prog 18 #[.agg #[.func (.func 20) #[] #[], .int .i64 lo, .int .i64 hi], c.val] w fun e w' => e = .returned (.bool q) ∧ Below w.heap.size w w' := by
  have hN0 := num_any c 1 (by decide) ((w.alloc (.cells #[.func (.func 20) #[] #[], .int .i64 lo, .int .i64 hi] 51)).alloc (.cells c.arr 23))
  have hb1 := (Blk.new w #[.func (.func 20) #[] #[], .int .i64 lo, .int .i64 hi] 51).alloc (.cells c.arr 23)
  have hB0 := ((Below.refl w.heap.size w).alloc (Nat.le_refl _) (.cells #[.func (.func 20) #[] #[], .int .i64 lo, .int .i64 hi] 51)).alloc (by simp) (.cells c.arr 23)
  unfold inB at hq
  generalize hx : c.num 1 = x at *
  clear hx
  go_enter Tryd.func18, Tryd.ntmps18
  go_wp2_with fail
  refine hN0.mono ?_
  rintro e w1 ⟨rfl, hB1⟩
  have hb2 := hb1.turn (Turn.ofBelow hB1) (fun h => absurd hb1.lt (Nat.not_lt.2 h))
  have hB2 := hB0.trans (hB1.mono hB0.size)
  have c1 := hb2.cell 1
  have c2 := hb2.cell 2
  simp only [List.getElem?_toArray, List.getElem?_cons_succ, List.getElem?_cons_zero] at c1 c2
  clear hN0 hb1 hb2 hB0 hB1
  by_cases h1 : lo ≤ x
  · have hx : decide (x ≤ hi) = q := by simpa [h1] using hq
    clear hq
    go_wp2_with fail
    go_ret
    exact ⟨by simp [hx], hB2⟩
  · have hx : q = false := by simpa [h1] using hq.symm
    subst hx
    clear hq
    go_wp2_with fail
    go_ret
    exact ⟨rfl, hB2⟩
set_option maxRecDepth 100000 in
theorem holds_2 (c : Cfg) (lo hi : Int) (q : Bool) (hq : inB (c.num 2) lo hi = q) (w : World) :
    Calls Tryd.prog 18 #[.agg #[.func (.func 21) #[] #[], .int .i64 lo, .int .i64 hi], c.val] w fun e w' => e = .returned (.bool q) ∧ Below w.heap.size w w' := by
  have hN0 := num_any c 2 (by decide) ((w.alloc (.cells #[.func (.func 21) #[] #[], .int .i64 lo, .int .i64 hi] 51)).alloc (.cells c.arr 23))
  have hb1 := (Blk.new w #[.func (.func 21) #[] #[], .int .i64 lo, .int .i64 hi] 51).alloc (.cells c.arr 23)
  have hB0 := ((Below.refl w.heap.size w).alloc (Nat.le_refl _) (.cells #[.func (.func 21) #[] #[], .int .i64 lo, .int .i64 hi] 51)).alloc (by simp) (.cells c.arr 23)
  unfold inB at hq
  generalize hx : c.num 2 = x at *
  clear hx
  go_enter Tryd.func18, Tryd.ntmps18
  go_wp2_with fail
  refine hN0.mono ?_
  rintro e w1 ⟨rfl, hB1⟩
  have hb2 := hb1.turn (Turn.ofBelow hB1) (fun h => absurd hb1.lt (Nat.not_lt.2 h))
  have hB2 := hB0.trans (hB1.mono hB0.size)
  have c1 := hb2.cell 1
  have c2 := hb2.cell 2
  simp only [List.getElem?_toArray, List.getElem?_cons_succ, List.getElem?_cons_zero] at c1 c2
  clear hN0 hb1 hb2 hB0 hB1
  by_cases h1 : lo ≤ x
  · have hx : decide (x ≤ hi) = q := by simpa [h1] using hq
    clear hq
    go_wp2_with fail
    go_ret
    exact ⟨by simp [hx], hB2⟩
  · have hx : q = false := by simpa [h1] using hq.symm
    subst hx
    clear hq
    go_wp2_with fail
    go_ret
    exact ⟨rfl, hB2⟩
set_option maxRecDepth 100000 in
theorem holds_3 (c : Cfg) (lo hi : Int) (q : Bool) (hq : inB (c.num 3) lo hi = q) (w : World) :
    Calls Tryd.prog 18 #[.agg #[.func (.func 22) #[] #[], .int .i64 lo, .int .i64 hi], c.val] w fun e w' => e = .returned (.bool q) ∧ Below w.heap.size w w' := by
  have hN0 := num_any c 3 (by decide) ((w.alloc (.cells #[.func (.func 22) #[] #[], .int .i64 lo, .int .i64 hi] 51)).alloc (.cells c.arr 23))
  have hb1 := (Blk.new w #[.func (.func 22) #[] #[], .int .i64 lo, .int .i64 hi] 51).alloc (.cells c.arr 23)
  have hB0 := ((Below.refl w.heap.size w).alloc (Nat.le_refl _) (.cells #[.func (.func 22) #[] #[], .int .i64 lo, .int .i64 hi] 51)).alloc (by simp) (.cells c.arr 23)
  unfold inB at hq
  generalize hx : c.num 3 = x at *
  clear hx
  go_enter Tryd.func18, Tryd.ntmps18
  go_wp2_with fail
  refine hN0.mono ?_
  rintro e w1 ⟨rfl, hB1⟩
  have hb2 := hb1.turn (Turn.ofBelow hB1) (fun h => absurd hb1.lt (Nat.not_lt.2 h))
  have hB2 := hB0.trans (hB1.mono hB0.size)
  have c1 := hb2.cell 1
  have c2 := hb2.cell 2
  simp only [List.getElem?_toArray, List.getElem?_cons_succ, List.getElem?_cons_zero] at c1 c2
  clear hN0 hb1 hb2 hB0 hB1
  by_cases h1 : lo ≤ x
  · have hx : decide (x ≤ hi) = q := by simpa [h1] using hq
    clear hq
    go_wp2_with fail
    go_ret
    exact ⟨by simp [hx], hB2⟩
  · have hx : q = false := by simpa [h1] using hq.symm
    subst hx
    clear hq
    go_wp2_with fail
    go_ret
    exact ⟨rfl, hB2⟩
set_option maxRecDepth 100000 in
theorem holds_4 (c : Cfg) (lo hi : Int) (q : Bool) (hq : inB (c.num 4) lo hi = q) (w : World) :
    Calls Tryd.prog 18 #[.agg #[.func (.func 23) #[] #[], .int .i64 lo, .int .i64 hi], c.val] w fun e w' => e = .returned (.bool q) ∧ Below w.heap.size w w' := by
  have hN0 := num_any c 4 (by decide) ((w.alloc (.cells #[.func (.func 23) #[] #[], .int .i64 lo, .int .i64 hi] 51)).alloc (.cells c.arr 23))
  have hb1 := (Blk.new w #[.func (.func 23) #[] #[], .int .i64 lo, .int .i64 hi] 51).alloc (.cells c.arr 23)
  have hB0 := ((Below.refl w.heap.size w).alloc (Nat.le_refl _) (.cells #[.func (.func 23) #[] #[], .int .i64 lo, .int .i64 hi] 51)).alloc (by simp) (.cells c.arr 23)
  unfold inB at hq
  generalize hx : c.num 4 = x at *
  clear hx
  go_enter Tryd.func18, Tryd.ntmps18
  go_wp2_with fail
  refine hN0.mono ?_
  rintro e w1 ⟨rfl, hB1⟩
  have hb2 := hb1.turn (Turn.ofBelow hB1) (fun h => absurd hb1.lt (Nat.not_lt.2 h))
  have hB2 := hB0.trans (hB1.mono hB0.size)
  have c1 := hb2.cell 1
  have c2 := hb2.cell 2
  simp only [List.getElem?_toArray, List.getElem?_cons_succ, List.getElem?_cons_zero] at c1 c2
  clear hN0 hb1 hb2 hB0 hB1
  by_cases h1 : lo ≤ x
  · have hx : decide (x ≤ hi) = q := by simpa [h1] using hq
    clear hq
    go_wp2_with fail
    go_ret
    exact ⟨by simp [hx], hB2⟩
  · have hx : q = false := by simpa [h1] using hq.symm
    subst hx
    clear hq
    go_wp2_with fail
    go_ret
    exact ⟨rfl, hB2⟩
set_option maxRecDepth 100000 in
theorem holds_5 (c : Cfg) (lo hi : Int) (q : Bool) (hq : inB (c.num 5) lo hi = q) (w : World) :
    Calls Tryd.prog 18 #[.agg #[.func (.func 24) #[] #[], .int .i64 lo, .int .i64 hi], c.val] w fun e w' => e = .returned (.bool q) ∧ Below w.heap.size w w' := by
  have hN0 := num_any c 5 (by decide) ((w.alloc (.cells #[.func (.func 24) #[] #[], .int .i64 lo, .int .i64 hi] 51)).alloc (.cells c.arr 23))
  have hb1 := (Blk.new w #[.func (.func 24) #[] #[], .int .i64 lo, .int .i64 hi] 51).alloc (.cells c.arr 23)
  have hB0 := ((Below.refl w.heap.size w).alloc (Nat.le_refl _) (.cells #[.func (.func 24) #[] #[], .int .i64 lo, .int .i64 hi] 51)).alloc (by simp) (.cells c.arr 23)
  unfold inB at hq
  generalize hx : c.num 5 = x at *
  clear hx
  go_enter Tryd.func18, Tryd.ntmps18
  go_wp2_with fail
  refine hN0.mono ?_
  rintro e w1 ⟨rfl, hB1⟩
  have hb2 := hb1.turn (Turn.ofBelow hB1) (fun h => absurd hb1.lt (Nat.not_lt.2 h))
  have hB2 := hB0.trans (hB1.mono hB0.size)
  have c1 := hb2.cell 1
  have c2 := hb2.cell 2
  simp only [List.getElem?_toArray, List.getElem?_cons_succ, List.getElem?_cons_zero] at c1 c2
  clear hN0 hb1 hb2 hB0 hB1
  by_cases h1 : lo ≤ x
  · have hx : decide (x ≤ hi) = q := by simpa [h1] using hq
    clear hq
    go_wp2_with fail
    go_ret
    exact ⟨by simp [hx], hB2⟩
  · have hx : q = false := by simpa [h1] using hq.symm
    subst hx
    clear hq
    go_wp2_with fail
    go_ret
    exact ⟨rfl, hB2⟩
set_option maxRecDepth 100000 in
theorem holds_6 (c : Cfg) (lo hi : Int) (q : Bool) (hq : inB (c.num 6) lo hi = q) (w : World) :
    Calls Tryd.prog 18 #[.agg #[.func (.func 25) #[] #[], .int .i64 lo, .int .i64 hi], c.val] w fun e w' => e = .returned (.bool q) ∧ Below w.heap.size w w' := by
  have hN0 := num_any c 6 (by decide) ((w.alloc (.cells #[.func (.func 25) #[] #[], .int .i64 lo, .int .i64 hi] 51)).alloc (.cells c.arr 23))
  have hb1 := (Blk.new w #[.func (.func 25) #[] #[], .int .i64 lo, .int .i64 hi] 51).alloc (.cells c.arr 23)
  have hB0 := ((Below.refl w.heap.size w).alloc (Nat.le_refl _) (.cells #[.func (.func 25) #[] #[], .int .i64 lo, .int .i64 hi] 51)).alloc (by simp) (.cells c.arr 23)
  unfold inB at hq
  generalize hx : c.num 6 = x at *
  clear hx
  go_enter Tryd.func18, Tryd.ntmps18
  go_wp2_with fail
  refine hN0.mono ?_
  rintro e w1 ⟨rfl, hB1⟩
  have hb2 := hb1.turn (Turn.ofBelow hB1) (fun h => absurd hb1.lt (Nat.not_lt.2 h))
  have hB2 := hB0.trans (hB1.mono hB0.size)
  have c1 := hb2.cell 1
  have c2 := hb2.cell 2
  simp only [List.getElem?_toArray, List.getElem?_cons_succ, List.getElem?_cons_zero] at c1 c2
  clear hN0 hb1 hb2 hB0 hB1
  by_cases h1 : lo ≤ x
  · have hx : decide (x ≤ hi) = q := by simpa [h1] using hq
    clear hq
    go_wp2_with fail
    go_ret
    exact ⟨by simp [hx], hB2⟩
  · have hx : q = false := by simpa [h1] using hq.symm
    subst hx
    clear hq
    go_wp2_with fail
    go_ret
    exact ⟨rfl, hB2⟩
set_option maxRecDepth 100000 in
theorem holds_7 (c : Cfg) (lo hi : Int) (q : Bool) (hq : inB (c.num 7) lo hi = q) (w : World) :
    Calls Tryd.prog 18 #[.agg #[.func (.func 26) #[] #[], .int .i64 lo, .int .i64 hi], c.val] w fun e w' => e = .returned (.bool q) ∧ Below w.heap.size w w' := by
  have hN0 := num_any c 7 (by decide) ((w.alloc (.cells #[.func (.func 26) #[] #[], .int .i64 lo, .int .i64 hi] 51)).alloc (.cells c.arr 23))
  have hb1 := (Blk.new w #[.func (.func 26) #[] #[], .int .i64 lo, .int .i64 hi] 51).alloc (.cells c.arr 23)
  have hB0 := ((Below.refl w.heap.size w).alloc (Nat.le_refl _) (.cells #[.func (.func 26) #[] #[], .int .i64 lo, .int .i64 hi] 51)).alloc (by simp) (.cells c.arr 23)
  unfold inB at hq
  generalize hx : c.num 7 = x at *
  clear hx
  go_enter Tryd.func18, Tryd.ntmps18
  go_wp2_with fail
  refine hN0.mono ?_
  rintro e w1 ⟨rfl, hB1⟩
  have hb2 := hb1.turn (Turn.ofBelow hB1) (fun h => absurd hb1.lt (Nat.not_lt.2 h))
  have hB2 := hB0.trans (hB1.mono hB0.size)
  have c1 := hb2.cell 1
  have c2 := hb2.cell 2
  simp only [List.getElem?_toArray, List.getElem?_cons_succ, List.getElem?_cons_zero] at c1 c2
  clear hN0 hb1 hb2 hB0 hB1
  by_cases h1 : lo ≤ x
  · have hx : decide (x ≤ hi) = q := by simpa [h1] using hq
    clear hq
    go_wp2_with fail
    go_ret
    exact ⟨by simp [hx], hB2⟩
  · have hx : q = false := by simpa [h1] using hq.symm
    subst hx
    clear hq
    go_wp2_with fail
    go_ret
    exact ⟨rfl, hB2⟩
set_option maxRecDepth 100000 in
theorem holds_8 (c : Cfg) (lo hi : Int) (q : Bool) (hq : inB (c.num 8) lo hi = q) (w : World) :
    Calls Tryd.prog 18 #[.agg #[.func (.func 27) #[] #[], .int .i64 lo, .int .i64 hi], c.val] w fun e w' => e = .returned (.bool q) ∧ Below w.heap.size w w' := by
  have hN0 := num_any c 8 (by decide) ((w.alloc (.cells #[.func (.func 27) #[] #[], .int .i64 lo, .int .i64 hi] 51)).alloc (.cells c.arr 23))
  have hb1 := (Blk.new w #[.func (.func 27) #[] #[], .int .i64 lo, .int .i64 hi] 51).alloc (.cells c.arr 23)
  have hB0 := ((Below.refl w.heap.size w).alloc (Nat.le_refl _) (.cells #[.func (.func 27) #[] #[], .int .i64 lo, .int .i64 hi] 51)).alloc (by simp) (.cells c.arr 23)
  unfold inB at hq
  generalize hx : c.num 8 = x at *
  clear hx
  go_enter Tryd.func18, Tryd.ntmps18
  go_wp2_with fail
  refine hN0.mono ?_
  rintro e w1 ⟨rfl, hB1⟩
  have hb2 := hb1.turn (Turn.ofBelow hB1) (fun h => absurd hb1.lt (Nat.not_lt.2 h))
  have hB2 := hB0.trans (hB1.mono hB0.size)
  have c1 := hb2.cell 1
  have c2 := hb2.cell 2
  simp only [List.getElem?_toArray, List.getElem?_cons_succ, List.getElem?_cons_zero] at c1 c2
  clear hN0 hb1 hb2 hB0 hB1
  by_cases h1 : lo ≤ x
  · have hx : decide (x ≤ hi) = q := by simpa [h1] using hq
    clear hq
    go_wp2_with fail
    go_ret
    exact ⟨by simp [hx], hB2⟩
  · have hx : q = false := by simpa [h1] using hq.symm
    subst hx
    clear hq
    go_wp2_with fail
    go_ret
    exact ⟨rfl, hB2⟩
set_option maxRecDepth 100000 in
theorem holds_9 (c : Cfg) (lo hi : Int) (q : Bool) (hq : inB (c.num 9) lo hi = q) (w : World) :
    Calls Tryd.prog 18 #[.agg #[.func (.func 28) #[] #[], .int .i64 lo, .int .i64 hi], c.val] w fun e w' => e = .returned (.bool q) ∧ Below w.heap.size w w' := by
  have hN0 := num_any c 9 (by decide) ((w.alloc (.cells #[.func (.func 28) #[] #[], .int .i64 lo, .int .i64 hi] 51)).alloc (.cells c.arr 23))
  have hb1 := (Blk.new w #[.func (.func 28) #[] #[], .int .i64 lo, .int .i64 hi] 51).alloc (.cells c.arr 23)
  have hB0 := ((Below.refl w.heap.size w).alloc (Nat.le_refl _) (.cells #[.func (.func 28) #[] #[], .int .i64 lo, .int .i64 hi] 51)).alloc (by simp) (.cells c.arr 23)
  unfold inB at hq
  generalize hx : c.num 9 = x at *
  clear hx
  go_enter Tryd.func18, Tryd.ntmps18
  go_wp2_with fail
  refine hN0.mono ?_
  rintro e w1 ⟨rfl, hB1⟩
  have hb2 := hb1.turn (Turn.ofBelow hB1) (fun h => absurd hb1.lt (Nat.not_lt.2 h))
  have hB2 := hB0.trans (hB1.mono hB0.size)
  have c1 := hb2.cell 1
  have c2 := hb2.cell 2
  simp only [List.getElem?_toArray, List.getElem?_cons_succ, List.getElem?_cons_zero] at c1 c2
  clear hN0 hb1 hb2 hB0 hB1
  by_cases h1 : lo ≤ x
  · have hx : decide (x ≤ hi) = q := by simpa [h1] using hq
    clear hq
    go_wp2_with fail
    go_ret
    exact ⟨by simp [hx], hB2⟩
  · have hx : q = false := by simpa [h1] using hq.symm
    subst hx
    clear hq
    go_wp2_with fail
    go_ret
    exact ⟨rfl, hB2⟩
theorem holds_any (c : Cfg) (i : Nat) (hi : i < 10) (q : Bool) (hq : inB (c.num i) (lowB i) (highB i) = q) (w : World) :
    Calls Tryd.prog 18 #[.agg #[.func (.func (fnB i)) #[] #[], .int .i64 (lowB i), .int .i64 (highB i)], c.val] w fun e w' => e = .returned (.bool q) ∧ Below w.heap.size w w' := by
  match i, hi with
  | 0, _ => exact holds_0 c _ _ q hq w
  | 1, _ => exact holds_1 c _ _ q hq w
  | 2, _ => exact holds_2 c _ _ q hq w
  | 3, _ => exact holds_3 c _ _ q hq w
  | 4, _ => exact holds_4 c _ _ q hq w
  | 5, _ => exact holds_5 c _ _ q hq w
  | 6, _ => exact holds_6 c _ _ q hq w
  | 7, _ => exact holds_7 c _ _ q hq w
  | 8, _ => exact holds_8 c _ _ q hq w
  | 9, _ => exact holds_9 c _ _ q hq w

def boundCells : Array Value := #[.func (.func 19) #[] #[], .int .i64 0, .int .i64 3, .func (.func 20) #[] #[], .int .i64 1, .int .i64 64, .func (.func 21) #[] #[], .int .i64 1, .int .i64 4, .func (.func 22) #[] #[], .int .i64 1, .int .i64 8, .func (.func 23) #[] #[], .int .i64 0, .int .i64 8, .func (.func 24) #[] #[], .int .i64 0, .int .i64 4, .func (.func 25) #[] #[], .int .i64 0, .int .i64 6, .func (.func 26) #[] #[], .int .i64 1, .int .i64 64, .func (.func 27) #[] #[], .int .i64 0, .int .i64 64, .func (.func 28) #[] #[], .int .i64 1, .int .i64 16]
theorem bound_cells (i : Nat) (hi : i < 10) : boundCells[i * 3]? = some (.func (.func (fnB i)) #[] #[]) ∧ boundCells[i * 3 + 1]? = some (.int .i64 (lowB i)) ∧ boundCells[i * 3 + 2]? = some (.int .i64 (highB i)) := by
  match i, hi with
  | 0, _ => exact ⟨rfl, rfl, rfl⟩
  | 1, _ => exact ⟨rfl, rfl, rfl⟩
  | 2, _ => exact ⟨rfl, rfl, rfl⟩
  | 3, _ => exact ⟨rfl, rfl, rfl⟩
  | 4, _ => exact ⟨rfl, rfl, rfl⟩
  | 5, _ => exact ⟨rfl, rfl, rfl⟩
  | 6, _ => exact ⟨rfl, rfl, rfl⟩
  | 7, _ => exact ⟨rfl, rfl, rfl⟩
  | 8, _ => exact ⟨rfl, rfl, rfl⟩
  | 9, _ => exact ⟨rfl, rfl, rfl⟩

set_option maxRecDepth 100000 in
theorem bounds_any (w : World) : Calls Tryd.prog 17 #[] w fun e w' => e = .returned (.slice (some ⟨w.heap.size, 0, none⟩) 10 10) ∧ w' = w.alloc (.cells boundCells 51) := by
  go_enter Tryd.func17, Tryd.ntmps17
  go_wp2_with fail
  go_ret
  exact ⟨rfl, rfl⟩
end Go.Proofs.YtaoankajpknncaaDoor
