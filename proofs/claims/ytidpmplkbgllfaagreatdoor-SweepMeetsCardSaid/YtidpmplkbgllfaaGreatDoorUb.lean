/- The iterator over a set's words, at this seat's numbers. A function that ranges over a function and defers calls of its own: how it leaves; plain contracts. It speaks of no program. Sets beside each other, at this seat's numbers (for the layers above bits: no Count, no Reset). next, at this seat's numbers. All, at this seat's numbers. Sets asked for any number; what a round over a set leaves of others; slices that came in; at this seat's numbers. Some of package size's functions (Words, Cells, Offset) at this seat's numbers, over the table of the classes' words. Plain: what an arena is, as pages' classes, taken cells and words; taking and giving. It speaks of no program's text. Has leaves all that there was, at this seat's numbers. -/
import Derived.RangeFuncNested
import Derived.RangeFuncBound
import Derived.RangeFuncCalls
import Derived.RangeFuncLeaves
import Derived.Shelf.Abstract
import Derived.Shelf.RegionOpen
import Derived.OwnWalkIn
import Derived.TacticsInMore
import Derived.LoopNIn
import Derived.LoopIn
import Derived.Test.YtidpmplkbgllfaaGreatDoorUa
import Derived.Laws.Bits128
import Derived.Defers
import Derived.RangeFuncFrom
import Derived.Lib.TrailingZeros
import Derived.Laws.Bits64b
import Derived.Test.YtidpmplkbgllfaaGreatDoorProg
import Derived.WalkKit
import Derived.Outline
import Derived.Below
import Derived.Laws.Rows
import Derived.Lib.Hide
import Derived.Deep.QuietTactic
import Derived.BigQuiet
import Derived.IntWalk
import Derived.KernelRfl
namespace Go.Proofs.YtidpmplkbgllfaaGreatDoor
open Go.RowKit Go.Shelf Go.MuLone Go.RwLone
attribute [local go_sem] Oper.semAt_some

/-- What a round over the words is handed: the word's first number, and where it lies. -/
def wordArgs (lf : Nat) (k : Fin 64) : Array Value := #[.int .i64 ((k.1 : Int) * 64), .pointer (some ⟨lf, k.1, none⟩)]
/-- Word k. -/
def wk (k : Nat) : Fin 64 := ⟨k % 64, Nat.mod_lt _ (by decide)⟩
theorem wk_val {k : Nat} (h : k < 64) : (wk k).1 = k := Nat.mod_eq_of_lt h
/-- The words from a on. -/
def wks (a m : Nat) : List (Fin 64) := (List.range' a m).map wk
theorem wks_snoc (a m : Nat) : wks a (m + 1) = wks a m ++ [wk (a + m)] := by unfold wks; rw [List.range'_1_concat]; simp
theorem wks_length (a m : Nat) : (wks a m).length = m := by simp [wks]
theorem wks_zero (a : Nat) : wks a 0 = [] := rfl

set_option maxRecDepth 100000 in
set_option maxHeartbeats 2000000 in
theorem tellLeaf_in (n : Nat) (lf l fr : Nat) (hfr : fr ≤ 64) (J Jx : List (Fin 64) → World → Prop)
    (hY : ∀ pre x W, J pre W → pre.length < 64 - fr → YieldAt Fence.wide (n - 1) Tryz.prog l (wordArgs lf x) W fun e W' =>
      (e = .returned (.bool true) ∧ J (pre ++ [x]) W' ∧ KeepsWalks W W') ∨ (e = .returned (.bool false) ∧ Jx (pre ++ [x]) W'))
    (W : World) (h0 : J [] W) :
    CallsIn Fence.wide n Tryz.prog 106 #[.pointer (some ⟨lf, 0, none⟩), .int .i64 0, .int .i64 fr, .func (.yield l) #[] #[]] W fun e W' =>
      (e = .returned (.bool true) ∧ J (wks fr (64 - fr)) W') ∨ (e = .returned (.bool false) ∧ ∃ k, k < 64 - fr ∧ Jx (wks fr (k + 1)) W') := by
  refine callsIn_of_wp Tryz.func106 rfl (by trivial) ?_ rfl
  simp only [Tryz.ntmps106, List.size_toArray, List.length_cons, List.length_nil, Nat.reduceAdd, Nat.reduceSub, Array.replicate_succ, Array.replicate_zero, List.push_toArray, List.append_toArray, List.nil_append, List.cons_append]
  gi_wp2
  gi_loopw [9] (fun i wr => ∃ k : Nat, fr ≤ k ∧ k ≤ 64 ∧ i = .int .i64 k ∧ J (wks fr (k - fr)) wr)
    (fun i _ => 64 - (intOf i).toNat)
  case atStart => exact ⟨fr, Nat.le_refl _, hfr, rfl, by rw [Nat.sub_self, wks_zero]; exact h0⟩
  case round =>
    obtain ⟨k, hk0, hk, rfl, hJs⟩ := hrel
    by_cases hlt : k < 64
    · obtain ⟨fn, tmps, assign, body, hy, hR⟩ := hY _ (wk k) wr hJs (by rw [wks_length]; omega)
      unfold wordArgs at hy
      rw [wk_val hlt] at hy
      have k0 : 0 ≤ (k : Int) := by omega
      have k1 : (k : Int) < 64 := by omega
      gi_wp2
      refine ⟨fun h => (by cases h), ?_⟩
      refine hR.mono ?_
      rintro e W3 (⟨rfl, hJ3, _⟩ | ⟨rfl, hJx3⟩)
      · gi_wp2
        go_roundw
        case rel => exact ⟨k + 1, by omega, by omega, by simp, by rw [show k + 1 - fr = (k - fr) + 1 by omega, wks_snoc, show fr + (k - fr) = k by omega]; exact hJ3⟩
        case measure => simp [intOf]; omega
      · gi_wp2
        go_ret
        exact .inr ⟨rfl, k - fr, by omega, by rw [wks_snoc, show fr + (k - fr) = k by omega]; exact hJx3⟩
    · obtain rfl : k = 64 := by omega
      gi_wp2
      go_ret
      exact .inl ⟨rfl, hJs⟩

/-- tellLeaf of nothing. -/
theorem tellLeaf_nil (a b : Int) (fv : Value) (W : World) :
    Calls Tryz.prog 106 #[.pointer none, .int .i64 a, .int .i64 b, fv] W fun e W' => e = .returned (.bool true) ∧ W = W' := by
  go_enter Tryz.func106, Tryz.ntmps106
  go_wp2
  go_ret
  exact ⟨rfl, rfl⟩

/-- tell, of a node of height 0 with its leaf, from number i on. -/
theorem tell_in (n : Nat) (b lf l : Nat) (N lw rc : Int) (i : Nat) (hi : i < 4096) (J Jx : List (Fin 64) → World → Prop)
    (hY : ∀ pre x W, J pre W → pre.length < 64 - i / 64 → YieldAt Fence.wide (n - 1 - 1) Tryz.prog l (wordArgs lf x) W fun e W' =>
      (e = .returned (.bool true) ∧ J (pre ++ [x]) W' ∧ KeepsWalks W W') ∨ (e = .returned (.bool false) ∧ Jx (pre ++ [x]) W'))
    (W : World) (hB : Blk W b (setArr N lw rc 1 0 (some ⟨lf, 0, none⟩)) 116) (hL : W.shape? lf = some (150, 64)) (h0 : J [] W) :
    CallsIn Fence.wide n Tryz.prog 97 #[.pointer (some ⟨b, 8, none⟩), .int .i64 0, .int .i64 0, .int .i64 i, .func (.yield l) #[] #[]] W fun e W' =>
      (e = .returned (.bool true) ∧ J (wks (i / 64) (64 - i / 64)) W') ∨ (e = .returned (.bool false) ∧ ∃ k, k < 64 - i / 64 ∧ Jx (wks (i / 64) (k + 1)) W') := by
  have hi0 : 0 ≤ (i : Int) := by omega
  have hp : ∀ w, Calls Tryz.prog 89 #[.int .i64 0, .int .i64 i] w fun e w' => e = .returned (.int .i64 ((i / 64 : Nat) : Int)) ∧ w = w' := fun w =>
    (part_zero i w (by omega) (by omega)).mono fun e w' ⟨h1, h2⟩ => ⟨by rw [h1]; exact ret_i64 (by omega), h2⟩
  have hlf := tellLeaf_in (n - 1) lf l (i / 64) (by omega) J Jx hY W h0
  have hld := pload_some ⟨b, 11, none⟩ lf W (hB.cell 11) hL
  by_cases hpos : 0 < i
  · refine callsIn_of_wp Tryz.func97 rfl (by trivial) ?_ rfl
    simp only [Tryz.ntmps97, List.size_toArray, List.length_cons, List.length_nil, Nat.reduceAdd, Nat.reduceSub, Array.replicate_succ, Array.replicate_zero, List.push_toArray, List.append_toArray, List.nil_append, List.cons_append]
    gi_wp2_with fail
    refine ⟨trivial, fun h => (by cases h), ?_⟩
    refine (callsIn_wide.2 (hp _)).mono ?_
    rintro e w' ⟨rfl, rfl⟩
    gi_wp2_with fail
    refine ⟨trivial, fun h => (by cases h), ?_⟩
    refine (callsIn_wide.2 hld).mono ?_
    rintro e w' ⟨rfl, rfl⟩
    gi_wp2_with fail
    refine ⟨trivial, fun h => (by cases h), ?_⟩
    refine hlf.mono ?_
    rintro e W3 (⟨rfl, hJ3⟩ | ⟨rfl, k, hk, hJx3⟩)
    · gi_wp2_with fail
      go_ret
      exact .inl ⟨rfl, hJ3⟩
    · gi_wp2_with fail
      go_ret
      exact .inr ⟨rfl, k, hk, hJx3⟩
  · obtain rfl : i = 0 := by omega
    refine callsIn_of_wp Tryz.func97 rfl (by trivial) ?_ rfl
    simp only [Tryz.ntmps97, List.size_toArray, List.length_cons, List.length_nil, Nat.reduceAdd, Nat.reduceSub, Array.replicate_succ, Array.replicate_zero, List.push_toArray, List.append_toArray, List.nil_append, List.cons_append]
    gi_wp2_with fail
    refine ⟨trivial, fun h => (by cases h), ?_⟩
    refine (callsIn_wide.2 hld).mono ?_
    rintro e w' ⟨rfl, rfl⟩
    gi_wp2_with fail
    refine ⟨trivial, fun h => (by cases h), ?_⟩
    refine hlf.mono ?_
    rintro e W3 (⟨rfl, hJ3⟩ | ⟨rfl, k, hk, hJx3⟩)
    · gi_wp2_with fail
      go_ret
      exact .inl ⟨rfl, hJ3⟩
    · gi_wp2_with fail
      go_ret
      exact .inr ⟨rfl, k, hk, hJx3⟩

/-- tell, of a node of height 0 without a leaf. -/
theorem tell_nil (b : Nat) (N lw rc : Int) (i : Nat) (hi : i < 4096) (fv : Value) (W : World) (hB : Blk W b (setArr N lw rc 0 0 none) 116) :
    Calls Tryz.prog 97 #[.pointer (some ⟨b, 8, none⟩), .int .i64 0, .int .i64 0, .int .i64 i, fv] W fun e W' => e = .returned (.bool true) ∧ W = W' := by
  have hld := pload_nil ⟨b, 11, none⟩ W (hB.cell 11)
  by_cases hpos : 0 < i
  · go_enter Tryz.func97, Tryz.ntmps97
    go_wp2_with fail
    refine (part_zero i _ (by omega) (by omega)).mono ?_
    rintro e w' ⟨rfl, rfl⟩
    go_wp2_with fail
    refine hld.mono ?_
    rintro e w' ⟨rfl, rfl⟩
    go_wp2_with fail
    refine (tellLeaf_nil _ _ _ _).mono ?_
    rintro e w' ⟨rfl, rfl⟩
    go_wp2_with fail
    go_ret
    exact ⟨rfl, rfl⟩
  · obtain rfl : i = 0 := by omega
    go_enter Tryz.func97, Tryz.ntmps97
    go_wp2_with fail
    refine hld.mono ?_
    rintro e w' ⟨rfl, rfl⟩
    go_wp2_with fail
    refine (tellLeaf_nil _ _ _ _).mono ?_
    rintro e w' ⟨rfl, rfl⟩
    go_wp2_with fail
    go_ret
    exact ⟨rfl, rfl⟩

/-- The world behind words: three boxes. -/
def wordsWorld (b : Nat) (h i : Int) (W : World) : World :=
  ((W.alloc (.cells #[.pointer (some ⟨b, 8, none⟩)] 144)).alloc (.cells #[.int .i64 h] 3)).alloc (.cells #[.int .i64 i] 3)
/-- What words hands back: the closure over three boxes from block B on. -/
def wordsFn (B : Nat) : Value := .func (.func 96) #[] #[.pointer (some ⟨B, 0, none⟩), .pointer (some ⟨B + 1, 0, none⟩), .pointer (some ⟨B + 1 + 1, 0, none⟩)]

/-- words: three boxes, and the closure over them. -/
theorem words_any (b : Nat) (h i : Int) (W : World) :
    Calls Tryz.prog 74 #[.pointer (some ⟨b, 8, none⟩), .int .i64 h, .int .i64 i] W fun e W' => e = .returned (wordsFn W.heap.size) ∧ wordsWorld b h i W = W' := by
  go_enter Tryz.func74, Tryz.ntmps74
  go_wp2_with fail
  go_ret
  exact ⟨rfl, rfl⟩

theorem room_wide (k : Nat) : Fence.wide.room k := fun d h => by cases h
theorem RoundIn.anyWide {m m' : Nat} {P : Program} {l : Nat} {f : FuncId} {tmps : Array Value} {assign body : Code} {w : World} {R : Ending → World → Prop}
    (h : RoundIn Fence.wide m P l f tmps assign body w R) : RoundIn Fence.wide m' P l f tmps assign body w R := ⟨h.1, fun c cs _ => h.2 c cs (room_wide _)⟩
theorem YieldAt.anyWide {m : Nat} (m' : Nat) {P : Program} {l : Nat} {args : Array Value} {W : World} {R : Ending → World → Prop} (h : YieldAt Fence.wide m P l args W R) : YieldAt Fence.wide m' P l args W R := by
  obtain ⟨fn, tmps, assign, body, hy, hR⟩ := h
  exact ⟨fn, tmps, assign, body, hy, RoundIn.anyWide hR⟩

/-- The iterator over a set's words, from number i on. -/
theorem words_stops (n : Nat) (b lf : Nat) (N lw rc : Int) (i : Nat) (hi : i < 4096) (B : Nat) (ws : Array Value) (hws : ws.size = 64) (w : World)
    (c0 : w.cell? ⟨B, 0, none⟩ = some (.pointer (some ⟨b, 8, none⟩))) (c1 : w.cell? ⟨B + 1, 0, none⟩ = some (.int .i64 0)) (c2 : w.cell? ⟨B + 1 + 1, 0, none⟩ = some (.int .i64 i)) (hlt : B + 1 + 1 < w.heap.size)
    (hB : Blk w b (setArr N lw rc 1 0 (some ⟨lf, 0, none⟩)) 116) (hL : Blk w lf ws 150) :
    SeqStopsA Fence.wide n Tryz.prog 96 #[.pointer (some ⟨B, 0, none⟩), .pointer (some ⟨B + 1, 0, none⟩), .pointer (some ⟨B + 1 + 1, 0, none⟩)] (wordArgs lf)
      (fun xs => xs = wks (i / 64) (64 - i / 64)) (fun pre => ∃ k, k < 64 - i / 64 ∧ pre = wks (i / 64) (k + 1)) (64 - i / 64) w := fun l J Jx W hW _ _ hY h0 => by
  have d0 := (hW.cell (p := ⟨B, 0, none⟩) (by simp; omega)).trans c0
  have d1 := (hW.cell (p := ⟨B + 1, 0, none⟩) (by simp; omega)).trans c1
  have d2 := (hW.cell (p := ⟨B + 1 + 1, 0, none⟩) hlt).trans c2
  have hB' : Blk W b (setArr N lw rc 1 0 (some ⟨lf, 0, none⟩)) 116 := by unfold Blk; rw [hW.block b hB.lt]; exact hB
  have hL' : Blk W lf ws 150 := by unfold Blk; rw [hW.block lf hL.lt]; exact hL
  have htl := tell_in (n - 1) b lf l N lw rc i hi J Jx (fun pre x W1 hJ hl => YieldAt.anyWide _ (hY pre x W1 hJ hl)) W hB' (by rw [hL'.shape, hws]) h0
  clear hB hL hB' hL'
  refine callsIn_of_wp Tryz.func96 rfl (by trivial) ?_ rfl
  simp only [Tryz.ntmps96, List.size_toArray, List.length_cons, List.length_nil, Nat.reduceAdd, Nat.reduceSub, Array.replicate_succ, Array.replicate_zero, List.push_toArray, List.append_toArray, List.nil_append, List.cons_append]
  gi_wp2_with fail
  refine ⟨trivial, fun h => (by cases h), ?_⟩
  refine htl.mono ?_
  rintro e W3 (⟨rfl, hJ3⟩ | ⟨rfl, k, hk, hJx3⟩)
  · gi_wp2_with fail
    go_end0
    exact ⟨⟨_, rfl⟩, .inl ⟨_, rfl, hJ3⟩⟩
  · gi_wp2_with fail
    go_end0
    exact ⟨⟨_, rfl⟩, .inr ⟨_, ⟨k, hk, rfl⟩, hJx3⟩⟩

/-- The iterator over a set's words, where nothing is laid. -/
theorem words_stops_nil (n : Nat) (b : Nat) (N lw rc : Int) (i : Nat) (hi : i < 4096) (B : Nat) (w : World)
    (c0 : w.cell? ⟨B, 0, none⟩ = some (.pointer (some ⟨b, 8, none⟩))) (c1 : w.cell? ⟨B + 1, 0, none⟩ = some (.int .i64 0)) (c2 : w.cell? ⟨B + 1 + 1, 0, none⟩ = some (.int .i64 i)) (hlt : B + 1 + 1 < w.heap.size)
    (hB : Blk w b (setArr N lw rc 0 0 none) 116) :
    SeqStopsA Fence.wide n Tryz.prog 96 #[.pointer (some ⟨B, 0, none⟩), .pointer (some ⟨B + 1, 0, none⟩), .pointer (some ⟨B + 1 + 1, 0, none⟩)] (wordArgs 0)
      (fun xs => xs = []) (fun _ => False) 0 w := fun l J Jx W hW _ _ _ h0 => by
  have d0 := (hW.cell (p := ⟨B, 0, none⟩) (by simp; omega)).trans c0
  have d1 := (hW.cell (p := ⟨B + 1, 0, none⟩) (by simp; omega)).trans c1
  have d2 := (hW.cell (p := ⟨B + 1 + 1, 0, none⟩) hlt).trans c2
  have hB' : Blk W b (setArr N lw rc 0 0 none) 116 := by unfold Blk; rw [hW.block b hB.lt]; exact hB
  refine callsIn_wide.2 ?_
  show Calls _ _ #[.func (.yield l) #[] #[], .pointer (some ⟨B, 0, none⟩), .pointer (some ⟨B + 1, 0, none⟩), .pointer (some ⟨B + 1 + 1, 0, none⟩)] _ _
  go_enter Tryz.func96, Tryz.ntmps96
  go_wp2_with fail
  refine (tell_nil b N lw rc i hi _ _ hB').mono ?_
  rintro e w' ⟨rfl, rfl⟩
  go_wp2_with fail
  go_end0
  exact ⟨⟨_, rfl⟩, .inl ⟨_, rfl, h0⟩⟩
end Go.Proofs.YtidpmplkbgllfaaGreatDoor

namespace Go.Proofs.YtidpmplkbgllfaaGreatDoor
open Go
variable {P : Program}

/-- What must come of a frame's deferred calls, marks of loops among them. -/
def LeavesP (P : Program) (fn : Func) (tmps : Array Value) (R : Ending → World → Prop) : List Deferred → FrameMode → World → Prop
  | [], u, w => Leaves P fn tmps R [] u w
  | d :: ds, u, w => u ≠ .run ∧
      ((∃ r w', d.target = .collected r ∧ (Instr.takeDeferred r).run P w = .ok [] w' ∧ LeavesP P fn tmps R ds u w') ∨
       (∃ fv cap f args, d.target = .fn fv cap ∧ (invoke d.target d.args).run P w = .ok (.enter f args) w ∧
        CallsD P f args u w fun
          | .returned _, u', w' => LeavesP P fn tmps R ds (settle u') w'
          | .panicked chain, u', w' => LeavesP P fn tmps R ds (raised u' chain) w'
          | .outgrown, _, w' => R .outgrown w'))

theorem leavesP_steps {fn : Func} {tmps : Array Value} {R : Ending → World → Prop} (ds : List Deferred) : ∀ (u : FrameMode) (w : World) (fr : Frame) (cs : List Frame),
    fr.mode = u → fr.defers = ds → fr.tmps = tmps → P.funcs[fr.fn]? = some fn → fr.kind = .normal → LeavesP P fn tmps R ds u w →
    ∃ e w' fr', R e w' ∧ Comes P (lone fr cs w) (lone fr' cs w') e ∧ fr'.fn = fr.fn ∧ fr'.leaving P w' e := by
  induction ds with
  | nil => exact fun u w fr cs hu hd ht hf hk h => leaves_steps [] u w fr cs hu hd ht hf hk h
  | cons d ds ih =>
    intro u w fr cs hu hd ht hf hk h
    rcases h with ⟨hrun, ⟨r, w1, htar, htake, hrest⟩ | ⟨fv, cap, f, args, htar, hinv, hcall⟩⟩
    · have h1 := step_collected (cs := cs) (hu ▸ hrun) hd htar htake
      obtain ⟨e, w2, fr2, hR, hs, hfn, hl⟩ := ih u w1 { fr with defers := [] ++ ds } cs hu rfl ht hf hk hrest
      exact ⟨e, w2, fr2, hR, Comes.of_steps (.one h1) hs, hfn, hl⟩
    · have h1 := step_defer (cs := cs) (hu ▸ hrun) hd htar hinv
      obtain ⟨e, u1, w1, frX, hR, hsteps, hkX, hgo⟩ := hcall { fr with defers := ds } cs hu
      cases e with
      | outgrown => exact ⟨.outgrown, w1, fr, hR, Outgrown.of_steps (.one h1) hsteps, rfl, trivial⟩
      | returned v =>
        have h2 := step_going_returned (c := { { fr with defers := ds } with mode := u1 }) (cs := cs) hkX hgo
        obtain ⟨e, w2, fr2, hR2, hs, hfn, hl⟩ := ih (settle u1) w1 { { { fr with defers := ds } with mode := u1 } with mode := settle u1 } cs rfl rfl ht hf hk hR
        exact ⟨e, w2, fr2, hR2, Comes.of_steps (.head h1 (Steps.trans hsteps (.one h2))) hs, hfn, hl⟩
      | panicked chain =>
        have h2 := step_going_panicked (c := { { fr with defers := ds } with mode := u1 }) (cs := cs) hgo
        obtain ⟨e, w2, fr2, hR2, hs, hfn, hl⟩ := ih (raised u1 chain) w1 { { { fr with defers := ds } with mode := u1 } with mode := raised u1 chain } cs rfl rfl ht hf hk hR
        exact ⟨e, w2, fr2, hR2, Comes.of_steps (.head h1 (Steps.trans hsteps (.one h2))) hs, hfn, hl⟩

/-- What a body must come to. -/
def bodyPostP (P : Program) (fn : Func) (R : Ending → World → Prop) : Exit → Act → World → Prop
  | .normal, a, w | .ret, a, w => LeavesP P fn a.tmps R a.defers .returning w
  | .panic chain, a, w => LeavesP P fn a.tmps R a.defers (.panicking chain) w
  | .outgrown, _, w => R .outgrown w
  | _, _, _ => False

/-- A contract out of the body, where the body ranges over functions and defers calls. -/
theorem calls_of_wp_marks {f : FuncId} {fn : Func} {c : Code} {args : Array Value} {w : World} {R : Ending → World → Prop} (hf : P.funcs[f]? = some fn) (hb : fn.body = some c) (n : Nat)
    (h : c.wpIn Fence.wide n P (bodyPostP P fn R) { tmps := args ++ Array.replicate (fn.ntmps - args.size) undef, defers := [] } w) : Calls P f args w R := by
  intro cs
  let b : Frame := { (default : Frame) with fn := f, kind := .normal }
  have henter : Frame.enter P f args .normal = b.at { tmps := args ++ Array.replicate (fn.ntmps - args.size) undef, defers := [] } [.code c] := by
    simp [Frame.enter, Frame.at, hf, hb, b]
  obtain ⟨e, a, w1, hq, harr⟩ := wpIn_wide.1 h b [] cs
  rw [← henter] at harr
  cases e with
  | normal =>
    obtain ⟨e, w2, fr, hR, hs, hfn, hl⟩ := leavesP_steps a.defers .returning w1 { b.at a [] with mode := .returning } cs rfl rfl rfl hf rfl hq
    exact ⟨e, w2, fr, hR, Comes.of_steps (Steps.trans harr (.one step_end)) hs, hfn, hl⟩
  | ret =>
    obtain ⟨todo, hs0⟩ := harr
    obtain ⟨e, w2, fr, hR, hs, hfn, hl⟩ := leavesP_steps a.defers .returning w1 { b.at a todo with mode := .returning } cs rfl rfl rfl hf rfl hq
    exact ⟨e, w2, fr, hR, Comes.of_steps hs0 hs, hfn, hl⟩
  | panic chain =>
    obtain ⟨todo, hs0⟩ := harr
    obtain ⟨e, w2, fr, hR, hs, hfn, hl⟩ := leavesP_steps a.defers (.panicking chain) w1 { b.at a todo with mode := .panicking chain } cs rfl rfl rfl hf rfl hq
    exact ⟨e, w2, fr, hR, Comes.of_steps hs0 hs, hfn, hl⟩
  | exit id => exact hq.elim
  | goto l => exact hq.elim
  | outgrown => exact ⟨.outgrown, w1, b, hq, harr.resolve_left (by simp [b]), rfl, trivial⟩
end Go.Proofs.YtidpmplkbgllfaaGreatDoor

namespace Go.Proofs.YtidpmplkbgllfaaGreatDoor
open Go.RowKit Go.MuLone Go.RwLone

theorem put_at (b : Nat) (lo : Option Nat) (n : Nat) (S S' : Nat → Bool) (r : Bool) (i : Nat) (w : World) (hi : i < n) (hA : SetAt w b lo n S) (hr : r = !S i) (hS : S' = fun j => S j || decide (j = i)) :
    Calls Tryz.prog 39 #[.pointer (some ⟨b, 0, none⟩), .int .i64 i] w (TurnPost b lo n r S' w) := by
  subst hr hS; exact put_yes b lo n S i w hi hA
theorem has_at (b : Nat) (lo : Option Nat) (n : Nat) (S : Nat → Bool) (r : Bool) (i : Nat) (w : World) (hi : i < n) (hA : SetAt w b lo n S) (hr : r = S i) :
    Calls Tryz.prog 42 #[.pointer (some ⟨b, 0, none⟩), .int .i64 i] w (TurnPost b lo n r S w) := by
  subst hr; exact has_yes b lo n S i w hi hA
theorem drop_at (b : Nat) (lo : Option Nat) (n : Nat) (S S' : Nat → Bool) (r : Bool) (i : Nat) (w : World) (hi : i < n) (hA : SetAt w b lo n S) (hr : r = S i) (hS : S' = fun j => S j && !decide (j = i)) :
    Calls Tryz.prog 72 #[.pointer (some ⟨b, 0, none⟩), .int .i64 i] w (TurnPost b lo n r S' w) := by
  subst hr hS; exact drop_yes b lo n S i w hi hA
/-- A set that lies from block B on. -/
def OwnSet (B b : Nat) (lo : Option Nat) : Prop := B ≤ b ∧ ∀ l, lo = some l → B ≤ l
/-- Two sets that share no block. -/
def Sep (b : Nat) (lo : Option Nat) (b2 : Nat) (lo2 : Option Nat) : Prop := b ≠ b2 ∧ (∀ l, lo = some l → l ≠ b2) ∧ (∀ l, lo2 = some l → l ≠ b) ∧ ∀ l, lo = some l → lo2 ≠ some l

theorem SetAt.lt {w : World} {b : Nat} {lo : Option Nat} {n : Nat} {S : Nat → Bool} (h : SetAt w b lo n S) : b < w.heap.size ∧ ∀ l, lo = some l → l < w.heap.size := by
  obtain ⟨_, _, h⟩ := h
  cases lo with
  | none => exact ⟨h.1.lt, fun l e => by cases e⟩
  | some l => exact ⟨h.1.lt, fun l' e => by cases e; exact h.2.2.choose_spec.1.lt⟩

/-- What a call on a set with a given answer has left, seen from a base B below which nothing may turn. -/
theorem TurnPost.open {b : Nat} {lo : Option Nat} {n : Nat} {r : Bool} {S' : Nat → Bool} {w : World} {e : Ending} {w' : World} (h : TurnPost b lo n r S' w e w') {B : Nat} (ho : OwnSet B b lo) (hB : B ≤ w.heap.size) :
    ∃ lo', e = .returned (.bool r) ∧ SetAt w' b lo' n S' ∧ OwnSet B b lo' ∧ Below B w w' ∧
      ∀ b2 lo2 n2 S2, SetAt w b2 lo2 n2 S2 → Sep b lo b2 lo2 → SetAt w' b2 lo2 n2 S2 ∧ Sep b lo' b2 lo2 := by
  obtain ⟨lo', he, hA, hlo, hT⟩ := h
  refine ⟨lo', he, hA, ⟨ho.1, fun l hl => ?_⟩, hT.below B hB (fun k hk hm => ?_), fun b2 lo2 n2 S2 h2 hs => ⟨?_, ?_⟩⟩
  · rcases hlo with e | ⟨_, l', e, hle⟩
    · exact ho.2 l (by rw [← e]; exact hl)
    · rw [e] at hl; cases hl; omega
  · rcases hm with e | e
    · have := ho.1; omega
    · have := ho.2 k e; omega
  · refine h2.turn hT (fun hm => ?_) (fun l hl hm => ?_)
    · rcases hm with e | e
      · exact hs.1 e.symm
      · exact hs.2.1 _ e rfl
    · rcases hm with e | e
      · exact hs.2.2.1 l hl e
      · exact hs.2.2.2 l e hl
  · rcases hlo with e | ⟨e0, l', e, hle⟩
    · rw [e]; exact hs
    · have hlt := h2.lt
      refine ⟨hs.1, fun l hl => ?_, hs.2.2.1, fun l hl hl2 => ?_⟩
      · rw [e] at hl; cases hl; omega
      · rw [e] at hl; cases hl; have := hlt.2 _ hl2; omega

theorem Sep.symm {b : Nat} {lo : Option Nat} {b2 : Nat} {lo2 : Option Nat} (h : Sep b lo b2 lo2) : Sep b2 lo2 b lo :=
  ⟨fun e => h.1 e.symm, h.2.2.1, h.2.1, fun l hl hl2 => h.2.2.2 l hl2 hl⟩

/-- A new set. -/
theorem new_at (n : Int) (hn : n ≤ 4096) (w : World) (m : Nat) (hm : m = n.toNat) :
    Calls Tryz.prog 31 #[.int .i64 n] w fun e w' => ∃ b, w.heap.size ≤ b ∧ e = .returned (.pointer (some ⟨b, 0, none⟩)) ∧ SetAt w' b none m (fun _ => false) ∧ Turn (fun _ => False) w w' := by
  subst hm
  refine (new_any n hn w).mono ?_
  rintro e w' ⟨b, hb, he, hB, hT⟩
  exact ⟨b, hb, he, ⟨by omega, fun i h => (by cases h), hB, fun _ => rfl⟩, hT⟩

end Go.Proofs.YtidpmplkbgllfaaGreatDoor

namespace Go.Proofs.YtidpmplkbgllfaaGreatDoor
open Go.RowKit Go.Shelf Go.MuLone Go.RwLone
attribute [local go_sem] Oper.semAt_some

theorem wrap_u64_nat (x : Nat) (h : x < 18446744073709551616) : IntKind.u64.wrap (x : Int) = (x : Int) := by
  rw [IntKind.wrap_u64]; omega
/-- The library's table in its variable. -/
def TabAt (w : World) : Prop := ∀ j, j < Lib.deBruijn64tab.length → w.cell? ⟨1, j, none⟩ = some (.int .u8 (Lib.deBruijn64tab.getD j 0))

theorem TabAt.lt {w : World} (h : TabAt w) : 1 < w.heap.size := by
  have := h 0 (by decide)
  exact World.block_lt_of_cell? w _ this
theorem TabAt.ne {w : World} (h : TabAt w) {b : Nat} {n lw rc d os : Int} {l : Option Addr} {T : TypeId} (hB : Blk w b (setArr n lw rc d os l) T) : ¬ (1 : Nat) = b := fun e => by
  subst e
  have h0 := h 0 (by decide)
  rw [hB.cell 0] at h0
  simp [setArr] at h0
theorem tz_key (x a : Nat) (hx : x < 18446744073709551616) (hx0 : x ≠ 0) (hlow : x &&& (18446744073709551616 - x) = a) :
    IntKind.u64.wrap (bits BinOp.and IntKind.u64 (x : Int) (IntKind.u64.wrap (-(x : Int))) * 285870213051353865) / 288230376151711744 = ((a * 285870213051353865 % 18446744073709551616 / 288230376151711744 : Nat) : Int) := by
  have e1 : IntKind.u64.wrap (-(x : Int)) = ((18446744073709551616 - x : Nat) : Int) := by rw [IntKind.wrap_u64]; omega
  rw [e1, u64_and_nat x _ hx (by omega), hlow, IntKind.wrap_u64]
  omega

theorem tz_core (x k idx : Nat) (w : World) (hx0 : ((x : Int) == 0) = false)
    (key : IntKind.u64.wrap (bits BinOp.and IntKind.u64 (x : Int) (IntKind.u64.wrap (-(x : Int))) * 285870213051353865) / 288230376151711744 = (idx : Int))
    (hi : idx < 64) (hk : k < 64) (hcell : w.cell? ⟨1, idx, none⟩ = some (.int .u8 k)) :
    Calls Tryz.prog 75 #[.int .u64 x] w fun e w' => e = .returned (.int .i64 k) ∧ w = w' := by
  go_enter Tryz.func75, Tryz.ntmps75
  go_wp2_with (simp only [key])
  go_ret
  exact ⟨rfl, rfl⟩

theorem tz_any (x : Nat) (hx : x < 18446744073709551616) (hx0 : x ≠ 0) (w : World) (hT : TabAt w) :
    Calls Tryz.prog 75 #[.int .u64 x] w fun e w' => e = .returned (.int .i64 ((Lib.ctz 64 x : Nat) : Int)) ∧ w = w' := by
  obtain ⟨hlow, hk⟩ := Lib.lowest_bit 64 x hx0 hx
  obtain ⟨hi, htab⟩ := Lib.deBruijn64_at _ hk
  have hcell := hT _ hi
  rw [htab] at hcell
  exact tz_core x _ _ w (by simp; omega) (tz_key x _ hx hx0 hlow) hi hk hcell

/-- From which bit on word k is looked at, where numbers from i on are looked for. -/
def from_ (i k : Nat) : Nat := if k * 64 < i then i % 64 else 0
/-- What is left of a word. -/
def leftOf (i k y : Nat) : Nat := if k * 64 < i then y &&& (2 ^ 64 - ((2 ^ (i % 64) - 1) + 1)) else y
theorem leftOf_lt (i k y : Nat) (hy : y < 18446744073709551616) : leftOf i k y < 18446744073709551616 := by
  unfold leftOf
  split
  · exact Nat.lt_of_le_of_lt Nat.and_le_left hy
  · exact hy
theorem leftOf_test (i k y t : Nat) (ht : t < 64) : (leftOf i k y).testBit t = (y.testBit t && decide (from_ i k ≤ t)) := by
  unfold leftOf from_
  split
  · have hp : 2 ^ (i % 64) - 1 < 2 ^ 64 := by
      have : 2 ^ (i % 64) ≤ 2 ^ 63 := Nat.pow_le_pow_right (by decide) (by omega)
      omega
    rw [Nat.testBit_and, Nat.testBit_two_pow_sub_succ hp, Nat.testBit_two_pow_sub_one]
    congr 1
    rw [Bool.eq_iff_iff]; simp; omega
  · simp
theorem leftOf_andNot (i k y : Nat) (hy : y < 18446744073709551616) (h : k * 64 < i) :
    bits .andNot .u64 (y : Int) (IntKind.u64.wrap (((bitN (i : Int) : Nat) : Int) - 1)) = ((leftOf i k y : Nat) : Int) := by
  have hb := bitN_lt (i : Int)
  have hb1 : 1 ≤ bitN (i : Int) := by rw [bitN_nat]; exact Nat.two_pow_pos _
  have e : (((bitN (i : Int) : Nat) : Int) - 1) = ((bitN (i : Int) - 1 : Nat) : Int) := by omega
  rw [e, wrap_u64_nat _ (by omega), u64_andNot_nat y _ hy (by omega)]
  unfold leftOf
  rw [if_pos h, ← bitN_nat, show 18446744073709551615 - (bitN (i : Int) - 1) = 2 ^ 64 - (bitN (i : Int) - 1 + 1) by omega]

/-- The lowest bit. -/
theorem ctz_test (x : Nat) (hx : x < 18446744073709551616) (h0 : x ≠ 0) : Lib.ctz 64 x < 64 ∧ x.testBit (Lib.ctz 64 x) = true ∧ ∀ t, t < Lib.ctz 64 x → x.testBit t = false := by
  have e : Lib.ctz 64 x = Lib.ctzFrom 64 x := by simp [Lib.ctz, h0]
  obtain ⟨q, hq, hk⟩ := Lib.ctzFrom_spec 64 x (by omega) hx
  rw [e]
  generalize Lib.ctzFrom 64 x = c at *
  refine ⟨hk, ?_, fun t ht => ?_⟩
  · rw [hq, Nat.testBit_two_pow_mul]
    simp
  · rw [hq, Nat.testBit_two_pow_mul]
    have : ¬ (t ≥ c) := by omega
    simp [this]
theorem zero_test (x : Nat) (h0 : x = 0) (t : Nat) : x.testBit t = false := by subst h0; simp

/-- Word k has none from its place on. -/
def NoneIn (S : Nat → Bool) (i k : Nat) : Prop := ∀ t, t < 64 → from_ i k ≤ t → S (64 * k + t) = false
/-- Bit t of word k is the first one from its place on. -/
def FirstIn (S : Nat → Bool) (i k t : Nat) : Prop := t < 64 ∧ from_ i k ≤ t ∧ S (64 * k + t) = true ∧ ∀ t', t' < t → from_ i k ≤ t' → S (64 * k + t') = false

theorem word_none {S : Nat → Bool} {i k y : Nat} (hb : ∀ j, j < 64 → y.testBit j = S (64 * k + j)) (h : leftOf i k y = 0) : NoneIn S i k := fun t ht hf => by
  have e := zero_test _ h t
  rw [leftOf_test i k y t ht, hb t ht] at e
  simpa [hf] using e
theorem word_first {S : Nat → Bool} {i k y : Nat} (hy : y < 18446744073709551616) (hb : ∀ j, j < 64 → y.testBit j = S (64 * k + j)) (h : leftOf i k y ≠ 0) : FirstIn S i k (Lib.ctz 64 (leftOf i k y)) := by
  obtain ⟨h1, h2, h3⟩ := ctz_test _ (leftOf_lt i k y hy) h
  rw [leftOf_test i k y _ h1, hb _ h1] at h2
  simp at h2
  refine ⟨h1, h2.2, h2.1, fun t' ht hf => ?_⟩
  have e := h3 t' ht
  rw [leftOf_test i k y t' (by omega), hb t' (by omega)] at e
  simpa [hf] using e

/-- What next answers: the least number from i on. -/
def NextIs (S : Nat → Bool) (i j : Nat) : Prop := i ≤ j ∧ S j = true ∧ ∀ k, i ≤ k → k < j → S k = false
theorem wks_mem {a q : Nat} {x : Fin 64} (h : x ∈ wks a q) (hq : a + q ≤ 64) : a ≤ x.1 ∧ x.1 < a + q := by
  unfold wks at h
  simp only [List.mem_map, List.mem_range'_1] at h
  obtain ⟨y, hy, rfl⟩ := h
  rw [wk_val (by omega)]
  exact hy
theorem wks_has {a q k : Nat} (h1 : a ≤ k) (h2 : k < a + q) : wk k ∈ wks a q := by
  unfold wks
  simp only [List.mem_map, List.mem_range'_1]
  exact ⟨k, ⟨h1, h2⟩, rfl⟩
theorem from_le {i k : Nat} (h : i / 64 ≤ k) {j : Nat} (hj : j / 64 = k) (hij : i ≤ j) : from_ i k ≤ j % 64 := by
  unfold from_
  split
  · omega
  · omega
theorem next_none {S : Nat → Bool} {i : Nat} (hS : ∀ j, S j = true → j < 4096) (h : ∀ x ∈ wks (i / 64) (64 - i / 64), NoneIn S i x.1) : ∀ j, i ≤ j → S j = false := fun j hj => by
  by_cases hlt : j < 4096
  · have hm := h (wk (j / 64)) (wks_has (by omega) (by omega))
    rw [wk_val (by omega)] at hm
    have := hm (j % 64) (by omega) (from_le (by omega) rfl hj)
    rw [show 64 * (j / 64) + j % 64 = j by omega] at this
    exact this
  · cases hs : S j with
    | false => rfl
    | true => exact absurd (hS j hs) hlt
theorem next_found {S : Nat → Bool} {i q t : Nat} (hq : i / 64 + q < 64) (h : ∀ x ∈ wks (i / 64) q, NoneIn S i x.1) (hf : FirstIn S i (i / 64 + q) t) : NextIs S i (64 * (i / 64 + q) + t) := by
  obtain ⟨h1, h2, h3, h4⟩ := hf
  refine ⟨?_, h3, fun k hk hlt => ?_⟩
  · unfold from_ at h2
    split at h2
    · omega
    · omega
  · by_cases hkq : k / 64 = i / 64 + q
    · have := h4 (k % 64) (by omega) (from_le (by omega) hkq hk)
      rw [show 64 * (i / 64 + q) + k % 64 = k by omega] at this
      exact this
    · have hm := h (wk (k / 64)) (wks_has (by omega) (by omega))
      rw [wk_val (by omega)] at hm
      have := hm (k % 64) (by omega) (from_le (by omega) rfl hk)
      rw [show 64 * (k / 64) + k % 64 = k by omega] at this
      exact this

/-- What next leaves. -/
def NextPost (b : Nat) (lo : Option Nat) (m : Nat) (S : Nat → Bool) (i : Nat) (w : World) (e : Ending) (w' : World) : Prop :=
  ((∃ j, NextIs S i j ∧ e = .returned (.tuple #[.int .i64 (j : Int), .bool true])) ∨ ((∀ j, i ≤ j → S j = false) ∧ e = .returned (.tuple #[.int .i64 0, .bool false]))) ∧ SetAt w' b lo m S ∧ Turn (fun k => k = b) w w'

/-- The world behind the three boxes of next. -/
def nextWorld (i : Int) (w : World) : World := ((w.alloc (.cells #[.int .i64 i] 3)).alloc (.cells #[.int .i64 0] 3)).alloc (.cells #[.bool false] 4)
theorem nextWorld_boxes (i : Int) (w : World) : Blk (nextWorld i w) w.heap.size #[.int .i64 i] 3 ∧ Blk (nextWorld i w) (w.heap.size + 1) #[.int .i64 0] 3 ∧ Blk (nextWorld i w) (w.heap.size + 1 + 1) #[.bool false] 4 := by
  unfold nextWorld
  refine ⟨((Blk.new w _ _).alloc _).alloc _, ?_, ?_⟩
  · have h := (Blk.new (w.alloc (.cells #[.int .i64 i] 3)) #[.int .i64 0] 3).alloc (.cells #[.bool false] 4)
    rw [World.size_alloc] at h
    exact h
  · have h := Blk.new ((w.alloc (.cells #[.int .i64 i] 3)).alloc (.cells #[.int .i64 0] 3)) #[.bool false] 4
    rw [World.size_alloc, World.size_alloc] at h
    exact h

theorem next_round (S : Nat → Bool) (i : Nat) (pre : List (Fin 64)) (x : Fin 64) (t : Nat) (w w1 W : World) (hnone : ∀ z ∈ pre, NoneIn S i z.1) (hF : FirstIn S i x.1 t)
    (hc0 : W.cell? ⟨w.heap.size + 1, 0, none⟩ = some (.int .i64 0)) (hc1 : W.cell? ⟨w.heap.size + 1 + 1, 0, none⟩ = some (.bool false)) (hB : Below w.heap.size w1 W) :
    KeepsOthers W ((W.setCell ⟨w.heap.size + 1, 0, none⟩ (.int .i64 ((x.1 : Int) * 64 + (t : Int)))).setCell ⟨w.heap.size + 1 + 1, 0, none⟩ (.bool true)) ∧
      (Code.ret = Code.ret ∧ ∃ q x' t', pre ++ [x] = q ++ [x'] ∧ (∀ y ∈ q, NoneIn S i y.1) ∧ FirstIn S i x'.1 t' ∧
        ((W.setCell ⟨w.heap.size + 1, 0, none⟩ (.int .i64 ((x.1 : Int) * 64 + (t : Int)))).setCell ⟨w.heap.size + 1 + 1, 0, none⟩ (.bool true)).cell? ⟨w.heap.size + 1, 0, none⟩ = some (.int .i64 ((64 * x'.1 + t' : Nat) : Int)) ∧
        ((W.setCell ⟨w.heap.size + 1, 0, none⟩ (.int .i64 ((x.1 : Int) * 64 + (t : Int)))).setCell ⟨w.heap.size + 1 + 1, 0, none⟩ (.bool true)).cell? ⟨w.heap.size + 1 + 1, 0, none⟩ = some (.bool true)) ∧
      Below w.heap.size w1 ((W.setCell ⟨w.heap.size + 1, 0, none⟩ (.int .i64 ((x.1 : Int) * 64 + (t : Int)))).setCell ⟨w.heap.size + 1 + 1, 0, none⟩ (.bool true)) := by
  have e : ((x.1 : Int) * 64 + (t : Int)) = ((64 * x.1 + t : Nat) : Int) := by omega
  refine ⟨(KeepsOthers.setCell _ _ _).trans (KeepsOthers.setCell _ _ _), ⟨rfl, pre, x, t, rfl, hnone, hF, ?_, ?_⟩, ?_⟩
  · rw [World.cell?_setCell_other _ ⟨w.heap.size + 1 + 1, 0, none⟩ ⟨w.heap.size + 1, 0, none⟩ _ (by simp), ← e]
    exact World.cell?_setCell_same _ _ _ hc0
  · exact World.cell?_setCell_same _ _ _ ((World.cell?_setCell_other _ ⟨w.heap.size + 1, 0, none⟩ ⟨w.heap.size + 1 + 1, 0, none⟩ _ (by simp)).trans hc1)
  · exact (hB.setCell (p := ⟨w.heap.size + 1, 0, none⟩) (by simp) _).setCell (p := ⟨w.heap.size + 1 + 1, 0, none⟩) (by simp; omega) _

/-- The world in which next is left, behind the loop's mark. -/
theorem next_door {b l m D : Nat} {ws : Array Value} {w w1 V : World} (hb : b < w.heap.size) (hl : l < w.heap.size) (hB1 : Blk w1 b (setArr m 0 1 1 0 (some ⟨l, 0, none⟩)) 116) (hL1 : Blk w1 l ws 150)
    (hT1 : Turn (fun k => k = b) w w1) (hV : Below w.heap.size w1 V) (hD : w.heap.size + 6 ≤ D) (v0 v1 : Value) (hc0 : V.cell? ⟨w.heap.size + 1, 0, none⟩ = some v0) (hc1 : V.cell? ⟨w.heap.size + 1 + 1, 0, none⟩ = some v1) :
    Blk (V.putObj D (.deferred none)) b (setArr m 0 1 1 0 (some ⟨l, 0, none⟩)) 116 ∧ Blk (V.putObj D (.deferred none)) l ws 150 ∧ Turn (fun k => k = b) w (V.putObj D (.deferred none)) ∧
      ((V.putObj D (.deferred none)).setCell ⟨b, 6, none⟩ (.int .i32 0)).cell? ⟨w.heap.size + 1, 0, none⟩ = some v0 ∧ ((V.putObj D (.deferred none)).setCell ⟨b, 6, none⟩ (.int .i32 0)).cell? ⟨w.heap.size + 1 + 1, 0, none⟩ = some v1 := by
  have put : ∀ k, k ≠ D → (V.putObj D (.deferred none)).heap[k]? = V.heap[k]? := fun k hk => World.putObj_heap_other hk
  refine ⟨?_, ?_, ?_, ?_, ?_⟩
  · unfold Blk; rw [put b (by omega), hV.block b hb]; exact hB1
  · unfold Blk; rw [put l (by omega), hV.block l hl]; exact hL1
  · have hs1 := hT1.size
    refine ⟨hV.os.trans hT1.os, hV.tape.trans hT1.tape, hV.output.trans hT1.output, ?_, fun k hk hn => ?_⟩
    · have := hV.size; simp [World.putObj]; omega
    · rw [put k (by omega), hV.block k hk]; exact hT1.block k hk hn
  · exact cell_setBlock ((World.cell?_of_block (w := V) (put _ (by simp; omega))).trans hc0) (by simp; omega)
  · exact cell_setBlock ((World.cell?_of_block (w := V) (put _ (by simp; omega))).trans hc1) (by simp; omega)

set_option maxRecDepth 100000 in
set_option maxHeartbeats 2000000 in
theorem next_some (b l : Nat) (m : Nat) (S : Nat → Bool) (i : Nat) (hi : i < m) (w : World) (hA : SetAt w b (some l) m S) (hTab : TabAt w) :
    Calls Tryz.prog 58 #[.pointer (some ⟨b, 0, none⟩), .int .i64 i] w (NextPost b (some l) m S i w) := by
  obtain ⟨hn, hSn, hB0, hne, ws, hL0, hw⟩ := hA
  have hblt := hB0.lt
  have hllt := hL0.lt
  obtain ⟨x0, x1, x2⟩ := nextWorld_boxes i w
  have hB : Blk (nextWorld i w) b (setArr m 0 0 1 0 (some ⟨l, 0, none⟩)) 116 := ((hB0.alloc _).alloc _).alloc _
  have hL : Blk (nextWorld i w) l ws 150 := ((hL0.alloc _).alloc _).alloc _
  have hT0 : Turn (fun k => k = b) w (nextWorld i w) := (((Turn.refl _ w).alloc _).alloc _).alloc _
  have c2 : (nextWorld i w).cell? ⟨b, 2, none⟩ = some (.int .i32 0) := hB.cell 2
  have c5 : (nextWorld i w).cell? ⟨b, 5, none⟩ = some (.int .u32 0) := hB.cell 5
  have c6 : (nextWorld i w).cell? ⟨b, 6, none⟩ = some (.int .i32 0) := hB.cell 6
  have z6 : (nextWorld i w).frozen? ⟨b, 6, none⟩ = false := hB.free 6
  have hB1 := hB.setAt 6 (.int .i32 1)
  have hL1 := hL.setOther ⟨b, 6, none⟩ (.int .i32 1) hne
  have y0 := x0.setOther ⟨b, 6, none⟩ (.int .i32 1) (by simp; omega)
  have y1 := x1.setOther ⟨b, 6, none⟩ (.int .i32 1) (by simp; omega)
  have y2 := x2.setOther ⟨b, 6, none⟩ (.int .i32 1) (by simp; omega)
  have hT1 : Turn (fun k => k = b) w ((nextWorld i w).setCell ⟨b, 6, none⟩ (.int .i32 1)) := hT0.set _ _ (.inr rfl)
  have hs1 : ((nextWorld i w).setCell ⟨b, 6, none⟩ (.int .i32 1)).heap.size = w.heap.size + 3 := by simp [nextWorld]
  obtain ⟨n, h1⟩ : ∃ n : Nat, 6 ≤ n := ⟨6, Nat.le_refl _⟩
  refine calls_of_wp_marks Tryz.func58 rfl n ?_
  simp only [Tryz.ntmps58, List.size_toArray, List.length_cons, List.length_nil, Nat.reduceAdd, Nat.reduceSub, Array.replicate_succ, Array.replicate_zero, List.push_toArray, List.append_toArray, List.nil_append, List.cons_append]
  gi_wp2_with fail
  refine ⟨trivial, fun h => (by cases h), ?_⟩
  change CallsIn _ _ _ _ _ (nextWorld i w) _
  refine (callsIn_wide.2 (knows_yes b m i _ (hB.cell 0) (by omega) (by omega))).mono ?_
  rintro e w' ⟨rfl, rfl⟩
  gi_wp2_with fail
  refine ⟨trivial, fun h => (by cases h), ?_⟩
  refine (callsIn_wide.2 (rlock_open Tryz.rwRLib b 2 0 _ _ _ c2 c5 c6 z6 (by rw [wrap32_up]; decide))).mono ?_
  rintro e w' ⟨rfl, rfl⟩
  rw [wrap32_up]
  generalize (nextWorld i w).setCell ⟨b, 2 + 4, none⟩ (.int .i32 1) = w1 at *
  clear c2 c5 c6 z6 x0 x1 x2 hB hL hT0
  have hglt : 1 < w.heap.size := TabAt.lt hTab
  have hTab1 : TabAt w1 := fun j hj => (hT1.cell (a := ⟨1, j, none⟩) hglt (by simpa using TabAt.ne hTab hB0)).trans (hTab j hj)
  have k1 : w1.cell? ⟨b, 1, none⟩ = some (.int .i64 0) := hB1.cell 1
  have ki : w1.cell? ⟨w.heap.size, 0, none⟩ = some (.int .i64 i) := y0.cell 0
  gi_wp2_with fail
  refine wpIn_wide.2 ?_
  go_region_held3 (fun w' => w'.cell? ⟨b, 1, none⟩ = some (.int .i64 0) ∧ w'.cell? ⟨w.heap.size, 0, none⟩ = some (.int .i64 i)) (first | go_keep | exact hk2)
    (first
      | (go_at_call 74; refine (words_any b 0 i _).mono ?_; rintro e w2 ⟨rfl, rfl⟩; have hk2 : (wordsWorld b 0 i w1.drew).cell? ⟨b, 1, none⟩ = some (.int .i64 0) ∧ (wordsWorld b 0 i w1.drew).cell? ⟨w.heap.size, 0, none⟩ = some (.int .i64 i) := ⟨(((hB1.drew.alloc _).alloc _).alloc _).cell 1, (((y0.drew.alloc _).alloc _).alloc _).cell 0⟩))
  gi_wp2_with fail
  have hW : Below w.heap.size w1 (wordsWorld b 0 i w1.drew) := by
    unfold wordsWorld
    exact (((((Below.refl w.heap.size w1).drew).alloc (by simp; omega) _).alloc (by simp; omega) _).alloc (by simp; omega) _)
  have hs : (wordsWorld b 0 i w1.drew).heap.size = w.heap.size + 6 := by simp [wordsWorld, hs1]
  have hB2 : Blk (wordsWorld b 0 i w1.drew) b (setArr m 0 1 1 0 (some ⟨l, 0, none⟩)) 116 := ((hB1.drew.alloc _).alloc _).alloc _
  have hL2 : Blk (wordsWorld b 0 i w1.drew) l ws 150 := ((hL1.drew.alloc _).alloc _).alloc _
  have v0 : Blk (wordsWorld b 0 i w1.drew) w.heap.size #[.int .i64 i] 3 := ((y0.drew.alloc _).alloc _).alloc _
  have v1 : Blk (wordsWorld b 0 i w1.drew) (w.heap.size + 1) #[.int .i64 0] 3 := ((y1.drew.alloc _).alloc _).alloc _
  have v2 : Blk (wordsWorld b 0 i w1.drew) (w.heap.size + 1 + 1) #[.bool false] 4 := ((y2.drew.alloc _).alloc _).alloc _
  have e0 : (wordsWorld b 0 i w1.drew).cell? ⟨w.heap.size + 3, 0, none⟩ = some (.pointer (some ⟨b, 8, none⟩)) := by
    have h := ((Blk.new w1.drew #[.pointer (some ⟨b, 8, none⟩)] 144).alloc (.cells #[.int .i64 0] 3)).alloc (.cells #[.int .i64 i] 3)
    simp only [World.size_drew, hs1] at h
    exact h.cell 0
  have e1 : (wordsWorld b 0 i w1.drew).cell? ⟨w.heap.size + 3 + 1, 0, none⟩ = some (.int .i64 0) := by
    have h := (Blk.new (w1.drew.alloc (.cells #[.pointer (some ⟨b, 8, none⟩)] 144)) #[.int .i64 0] 3).alloc (.cells #[.int .i64 i] 3)
    simp only [World.size_drew, World.size_alloc, hs1] at h
    exact h.cell 0
  have e2 : (wordsWorld b 0 i w1.drew).cell? ⟨w.heap.size + 3 + 1 + 1, 0, none⟩ = some (.int .i64 i) := by
    have h := Blk.new ((w1.drew.alloc (.cells #[.pointer (some ⟨b, 8, none⟩)] 144)).alloc (.cells #[.int .i64 0] 3)) #[.int .i64 i] 3
    simp only [World.size_drew, World.size_alloc, hs1] at h
    exact h.cell 0
  generalize wordsWorld b 0 i w1.drew = W0 at *
  clear hk2 k1 ki
  refine wpIn_rangeFunc_ownF rfl (by omega) (gf := 96) (lb := #[.pointer (some ⟨w.heap.size + 3, 0, none⟩), .pointer (some ⟨w.heap.size + 3 + 1, 0, none⟩), .pointer (some ⟨w.heap.size + 3 + 1 + 1, 0, none⟩)]) rfl trivial (enters_of Tryz.func96 (by kernel_rfl) rfl)
    (words_stops (n - 1) b l m 0 1 i (by omega) (w.heap.size + 3) ws hw.1 W0 e0 e1 e2 (by omega) hB2 hL2) walksK_t walksK_b (Below.refl _ _) (fun _ => rfl)
    (fun pre W => ((∀ x ∈ pre, NoneIn S i x.1) ∧ W.cell? ⟨w.heap.size, 0, none⟩ = some (.int .i64 i) ∧ (W.cell? ⟨w.heap.size + 1, 0, none⟩ = some (.int .i64 0) ∧ W.frozen? ⟨w.heap.size + 1, 0, none⟩ = false) ∧ (W.cell? ⟨w.heap.size + 1 + 1, 0, none⟩ = some (.bool false) ∧ W.frozen? ⟨w.heap.size + 1 + 1, 0, none⟩ = false)) ∧ Below w.heap.size w1 W)
    (fun c pre W => (c = .ret ∧ ∃ q x t, pre = q ++ [x] ∧ (∀ y ∈ q, NoneIn S i y.1) ∧ FirstIn S i x.1 t ∧ W.cell? ⟨w.heap.size + 1, 0, none⟩ = some (.int .i64 ((64 * x.1 + t : Nat) : Int)) ∧ W.cell? ⟨w.heap.size + 1 + 1, 0, none⟩ = some (.bool true)) ∧ Below w.heap.size w1 W)
    (OwnFrom.and (Own.from (fun s A B row hs hg hr => ⟨hs.1, cell_kept hs.2.1 hg hr, ⟨cell_kept hs.2.2.1.1 hg hr, (frozen_kept hs.2.2.1.1 hg hr).trans hs.2.2.1.2⟩, ⟨cell_kept hs.2.2.2.1 hg hr, (frozen_kept hs.2.2.2.1 hg hr).trans hs.2.2.2.2⟩⟩) _) (ownFrom_below (by omega) (by omega)))
    (fun c => OwnFrom.and (Own.from (fun s A B row hs hg hr => by
      obtain ⟨hc, q, x, t, h1, h2, h3, h4, h5⟩ := hs
      exact ⟨hc, q, x, t, h1, h2, h3, cell_kept h4 hg hr, cell_kept h5 hg hr⟩) _) (ownFrom_below (by omega) (by omega)))
    ⟨⟨fun x h => (by cases h), v0.cell 0, ⟨v1.cell 0, v1.free 0⟩, ⟨v2.cell 0, v2.free 0⟩⟩, hW⟩
    (fun x => { tmps := #[.pointer (some ⟨b, 0, none⟩), .int .i64 i, undef, .pointer (some ⟨w.heap.size, 0, none⟩), .pointer (some ⟨w.heap.size + 1, 0, none⟩), .pointer (some ⟨w.heap.size + 1 + 1, 0, none⟩), .int .i64 ((x.1 : Int) * 64), .pointer (some ⟨l, x.1, none⟩), undef, .pointer (some ⟨b, 0, none⟩), .int .i64 i, .bool true, .bool false, .pointer (some ⟨b, 0, none⟩), .pointer (some ⟨b, 0, none⟩), .pointer (some ⟨b, 2, none⟩), .tuple #[], .pointer (some ⟨b, 0, none⟩), .pointer (some ⟨b, 0, none⟩), .pointer (some ⟨b, 2, none⟩), .pointer (some ⟨b, 0, none⟩), .pointer (some ⟨b, 0, none⟩), .pointer (some ⟨b, 8, none⟩), .pointer (some ⟨b, 0, none⟩), .pointer (some ⟨b, 0, none⟩), .pointer (some ⟨b, 1, none⟩), .int .i64 0, .int .i64 i, wordsFn (w.heap.size + 3), .int .i64 ((x.1 : Int) * 64), .pointer (some ⟨l, x.1, none⟩), undef, undef, undef, undef, undef, undef, undef, undef, undef, undef, undef, undef, undef, undef, undef, undef], defers := [] }) ?assign ?body ?done ?stop
  case assign =>
    intro l0 x W K hK
    unfold wordArgs
    gi_wp2
    exact hK
  case body =>
    rintro l0 pre x W ⟨⟨hnone, hci, ⟨hc0, hf0⟩, ⟨hc1, hf1⟩⟩, hBl⟩ hlen
    obtain ⟨y, hy, hwy, hby⟩ := hw.2 x.1 x.2
    have hyc : W.cell? ⟨l, x.1, none⟩ = some (.int .u64 y) := ((hBl.cell (p := ⟨l, x.1, none⟩) hllt).trans (hL1.cell _)).trans hwy
    have hd : 1 ≤ n - 1 - 1 := by omega
    have f1 : Fence.wide.fn 68 := trivial
    have f2 : Fence.wide.fn 64 := trivial
    have f3 : Fence.wide.fn 75 := trivial
    have hxn : x.1 < 64 := x.2
    have hnn : NoneIn S i x.1 → ∀ z ∈ pre ++ [x], NoneIn S i z.1 := fun h z hz => by
      rcases List.mem_append.1 hz with h' | h'
      · exact hnone z h'
      · simp at h'; subst h'; exact h
    have hfirst := word_first (i := i) hy hby
    have hzero := word_none (i := i) hby
    by_cases hlow : x.1 * 64 < i
    · have hlI : ((x.1 : Int) * 64) < (i : Int) := by omega
      have hand := leftOf_andNot i x.1 y hy hlow
      have hLlt := leftOf_lt i x.1 y hy
      generalize leftOf i x.1 y = L at *
      by_cases hL0 : L = 0
      · have hb0 : (((L : Nat) : Int) != 0) = false := by rw [bne_eq_false_iff_eq]; omega
        have hN := hnn (hzero hL0)
        clear hfirst hzero hL0
        gi_wp2_with fail
        refine (CallsIn.inRound l0 (callsIn_wide.2 (uload_any _ y _ hyc))).mono ?_
        rintro e w' ⟨rfl, rfl⟩
        gi_wp2_with fail
        refine (CallsIn.inRound l0 (callsIn_wide.2 (bitOf_any i _ (by omega)))).mono ?_
        rintro e w' ⟨rfl, rfl⟩
        gi_wp2_with fail
        exact ⟨KeepsOthers.refl _, KeepsWalks.refl _, ⟨hN, hci, ⟨hc0, hf0⟩, ⟨hc1, hf1⟩⟩, hBl⟩
      · have hb0 : (((L : Nat) : Int) != 0) = true := by rw [bne_iff_ne]; omega
        have hF := hfirst hL0
        have htabW : TabAt W := fun j hj => (hBl.cell (p := ⟨1, j, none⟩) hglt).trans (hTab1 j hj)
        have htz := tz_any L hLlt hL0 W htabW
        have ht64 := hF.1
        clear hfirst hzero hL0 hnn
        generalize Lib.ctz 64 L = t at *
        gi_wp2_with fail
        refine (CallsIn.inRound l0 (callsIn_wide.2 (uload_any _ y _ hyc))).mono ?_
        rintro e w' ⟨rfl, rfl⟩
        gi_wp2_with fail
        refine (CallsIn.inRound l0 (callsIn_wide.2 (bitOf_any i _ (by omega)))).mono ?_
        rintro e w' ⟨rfl, rfl⟩
        gi_wp2_with fail
        refine (CallsIn.inRound l0 (callsIn_wide.2 htz)).mono ?_
        rintro e w' ⟨rfl, rfl⟩
        gi_wp2_with fail
        exact next_round S i pre x t w w1 W hnone hF hc0 hc1 hBl
    · have hlI : ¬ ((x.1 : Int) * 64) < (i : Int) := by omega
      have hLy : leftOf i x.1 y = y := by unfold leftOf; rw [if_neg hlow]
      rw [hLy] at hfirst hzero
      clear hLy
      by_cases hL0 : y = 0
      · have hb0 : (((y : Nat) : Int) != 0) = false := by rw [bne_eq_false_iff_eq]; omega
        have hN := hnn (hzero hL0)
        clear hfirst hzero hL0
        gi_wp2_with fail
        refine (CallsIn.inRound l0 (callsIn_wide.2 (uload_any _ y _ hyc))).mono ?_
        rintro e w' ⟨rfl, rfl⟩
        gi_wp2_with fail
        exact ⟨KeepsOthers.refl _, KeepsWalks.refl _, ⟨hN, hci, ⟨hc0, hf0⟩, ⟨hc1, hf1⟩⟩, hBl⟩
      · have hb0 : (((y : Nat) : Int) != 0) = true := by rw [bne_iff_ne]; omega
        have hF := hfirst hL0
        have htabW : TabAt W := fun j hj => (hBl.cell (p := ⟨1, j, none⟩) hglt).trans (hTab1 j hj)
        have htz := tz_any y hy hL0 W htabW
        have ht64 := hF.1
        clear hfirst hzero hL0 hnn
        generalize Lib.ctz 64 y = t at *
        gi_wp2_with fail
        refine (CallsIn.inRound l0 (callsIn_wide.2 (uload_any _ y _ hyc))).mono ?_
        rintro e w' ⟨rfl, rfl⟩
        gi_wp2_with fail
        refine (CallsIn.inRound l0 (callsIn_wide.2 htz)).mono ?_
        rintro e w' ⟨rfl, rfl⟩
        gi_wp2_with fail
        exact next_round S i pre x t w w1 W hnone hF hc0 hc1 hBl
  case done =>
    rintro D xs W hD rfl ⟨⟨hN, hci, ⟨hc0, hf0⟩, ⟨hc1, hf1⟩⟩, hBl⟩ hK
    gi_wp2_with fail
    have hBl2 : Below w.heap.size w1 ((W.setCell ⟨w.heap.size + 1, 0, none⟩ (.int .i64 0)).setCell ⟨w.heap.size + 1 + 1, 0, none⟩ (.bool false)) := (hBl.setCell (p := ⟨w.heap.size + 1, 0, none⟩) (by simp) _).setCell (p := ⟨w.heap.size + 1 + 1, 0, none⟩) (by simp; omega) _
    have hd0 : ((W.setCell ⟨w.heap.size + 1, 0, none⟩ (.int .i64 0)).setCell ⟨w.heap.size + 1 + 1, 0, none⟩ (.bool false)).cell? ⟨w.heap.size + 1, 0, none⟩ = some (.int .i64 0) := by
      rw [World.cell?_setCell_other _ ⟨w.heap.size + 1 + 1, 0, none⟩ ⟨w.heap.size + 1, 0, none⟩ _ (by simp)]
      exact World.cell?_setCell_same _ _ _ hc0
    have hd1 : ((W.setCell ⟨w.heap.size + 1, 0, none⟩ (.int .i64 0)).setCell ⟨w.heap.size + 1 + 1, 0, none⟩ (.bool false)).cell? ⟨w.heap.size + 1 + 1, 0, none⟩ = some (.bool false) :=
      World.cell?_setCell_same _ _ _ ((World.cell?_setCell_other _ ⟨w.heap.size + 1, 0, none⟩ ⟨w.heap.size + 1 + 1, 0, none⟩ _ (by simp)).trans hc1)
    have hK2 := ((KeepsOthers.setCell W ⟨w.heap.size + 1, 0, none⟩ (.int .i64 0)).trans (KeepsOthers.setCell _ ⟨w.heap.size + 1 + 1, 0, none⟩ (.bool false))).same D _ hK rfl
    generalize (W.setCell ⟨w.heap.size + 1, 0, none⟩ (.int .i64 0)).setCell ⟨w.heap.size + 1 + 1, 0, none⟩ (.bool false) = V at *
    obtain ⟨hBV, hLV, hTV, hr0, hr1⟩ := next_door (D := D) (w := w) hblt hllt hB1 hL1 hT1 hBl2 (by omega) _ _ hd0 hd1
    refine ⟨by simp, .inl ⟨D, _, rfl, run_takeDeferred hK2, ?_⟩⟩
    generalize V.putObj D (.deferred none) = W2 at *
    refine ⟨by simp, .inr ⟨_, _, 63, #[.pointer (some ⟨b, 2, none⟩)], rfl, by simp [go_sem], ?_⟩⟩
    refine (runlock_deferred Tryz.rwRLib b 2 1 _ _ .returning _ (hBV.cell 2) (hBV.cell 4) (hBV.cell 6) (hBV.free 6) (by rw [wrap32_down]; decide)).mono ?_
    rintro e u' w'' ⟨rfl, rfl, rfl⟩
    rw [wrap32_down]
    refine ⟨.tuple #[.int .i64 0, .bool false], ?_, .inr ⟨next_none (fun j hj => by have := hSn j hj; omega) hN, rfl⟩, ⟨hn, hSn, hBV.setAt 6 _, hne, ws, hLV.setOther _ _ hne, hw⟩, hTV.set _ _ (.inr rfl)⟩
    simp [results, Tryz.f58, go_sem, hr0, hr1]
  case stop =>
    rintro D c pre W hD ⟨q, hq, hpre⟩ ⟨⟨rfl, q', x, t, hpre2, hNq, hF, hc0, hc1⟩, hBl⟩ hK
    have hx : q' = wks (i / 64) q ∧ x = wk (i / 64 + q) := by
      rw [hpre, wks_snoc] at hpre2
      have := List.append_inj' hpre2 rfl
      exact ⟨this.1.symm, by simpa using this.2.symm⟩
    obtain ⟨rfl, rfl⟩ := hx
    rw [wk_val (by omega)] at hF hc0
    have hnx := next_found (by omega) hNq hF
    clear hF hNq hpre hpre2
    generalize 64 * (i / 64 + q) + t = jx at *
    gi_wp2_with fail
    have hBl2 := hBl
    have hd0 := hc0
    have hd1 := hc1
    have hK2 := hK
    obtain ⟨hBV, hLV, hTV, hr0, hr1⟩ := next_door (D := D) (w := w) hblt hllt hB1 hL1 hT1 hBl2 (by omega) _ _ hd0 hd1
    refine ⟨by simp, .inl ⟨D, _, rfl, run_takeDeferred hK2, ?_⟩⟩
    generalize W.putObj D (.deferred none) = W2 at *
    refine ⟨by simp, .inr ⟨_, _, 63, #[.pointer (some ⟨b, 2, none⟩)], rfl, by simp [go_sem], ?_⟩⟩
    refine (runlock_deferred Tryz.rwRLib b 2 1 _ _ .returning _ (hBV.cell 2) (hBV.cell 4) (hBV.cell 6) (hBV.free 6) (by rw [wrap32_down]; decide)).mono ?_
    rintro e u' w'' ⟨rfl, rfl, rfl⟩
    rw [wrap32_down]
    refine ⟨.tuple #[.int .i64 (jx : Int), .bool true], ?_, .inl ⟨jx, hnx, rfl⟩, ⟨hn, hSn, hBV.setAt 6 _, hne, ws, hLV.setOther _ _ hne, hw⟩, hTV.set _ _ (.inr rfl)⟩
    simp [results, Tryz.f58, go_sem, hr0, hr1]
/-- The world in which next is left, behind the loop's mark. -/
theorem next_door_nil {b m D : Nat} {w w1 V : World} (hb : b < w.heap.size) (hB1 : Blk w1 b (setArr m 0 1 0 0 none) 116)
    (hT1 : Turn (fun k => k = b) w w1) (hV : Below w.heap.size w1 V) (hD : w.heap.size + 6 ≤ D) (v0 v1 : Value) (hc0 : V.cell? ⟨w.heap.size + 1, 0, none⟩ = some v0) (hc1 : V.cell? ⟨w.heap.size + 1 + 1, 0, none⟩ = some v1) :
    Blk (V.putObj D (.deferred none)) b (setArr m 0 1 0 0 none) 116 ∧ Turn (fun k => k = b) w (V.putObj D (.deferred none)) ∧
      ((V.putObj D (.deferred none)).setCell ⟨b, 6, none⟩ (.int .i32 0)).cell? ⟨w.heap.size + 1, 0, none⟩ = some v0 ∧ ((V.putObj D (.deferred none)).setCell ⟨b, 6, none⟩ (.int .i32 0)).cell? ⟨w.heap.size + 1 + 1, 0, none⟩ = some v1 := by
  have put : ∀ k, k ≠ D → (V.putObj D (.deferred none)).heap[k]? = V.heap[k]? := fun k hk => World.putObj_heap_other hk
  refine ⟨?_, ?_, ?_, ?_⟩
  · unfold Blk; rw [put b (by omega), hV.block b hb]; exact hB1
  · have hs1 := hT1.size
    refine ⟨hV.os.trans hT1.os, hV.tape.trans hT1.tape, hV.output.trans hT1.output, ?_, fun k hk hn => ?_⟩
    · have := hV.size; simp [World.putObj]; omega
    · rw [put k (by omega), hV.block k hk]; exact hT1.block k hk hn
  · exact cell_setBlock ((World.cell?_of_block (w := V) (put _ (by simp; omega))).trans hc0) (by simp; omega)
  · exact cell_setBlock ((World.cell?_of_block (w := V) (put _ (by simp; omega))).trans hc1) (by simp; omega)

set_option maxRecDepth 100000 in
set_option maxHeartbeats 2000000 in
theorem next_nil (b : Nat) (m : Nat) (S : Nat → Bool) (i : Nat) (hi : i < m) (w : World) (hA : SetAt w b none m S) :
    Calls Tryz.prog 58 #[.pointer (some ⟨b, 0, none⟩), .int .i64 i] w (NextPost b none m S i w) := by
  obtain ⟨hn, hSn, hB0, hS0⟩ := hA
  have hblt := hB0.lt
  obtain ⟨x0, x1, x2⟩ := nextWorld_boxes i w
  have hB : Blk (nextWorld i w) b (setArr m 0 0 0 0 none) 116 := ((hB0.alloc _).alloc _).alloc _
  have hT0 : Turn (fun k => k = b) w (nextWorld i w) := (((Turn.refl _ w).alloc _).alloc _).alloc _
  have c2 : (nextWorld i w).cell? ⟨b, 2, none⟩ = some (.int .i32 0) := hB.cell 2
  have c5 : (nextWorld i w).cell? ⟨b, 5, none⟩ = some (.int .u32 0) := hB.cell 5
  have c6 : (nextWorld i w).cell? ⟨b, 6, none⟩ = some (.int .i32 0) := hB.cell 6
  have z6 : (nextWorld i w).frozen? ⟨b, 6, none⟩ = false := hB.free 6
  have hB1 := hB.setAt 6 (.int .i32 1)
  have y0 := x0.setOther ⟨b, 6, none⟩ (.int .i32 1) (by simp; omega)
  have y1 := x1.setOther ⟨b, 6, none⟩ (.int .i32 1) (by simp; omega)
  have y2 := x2.setOther ⟨b, 6, none⟩ (.int .i32 1) (by simp; omega)
  have hT1 : Turn (fun k => k = b) w ((nextWorld i w).setCell ⟨b, 6, none⟩ (.int .i32 1)) := hT0.set _ _ (.inr rfl)
  have hs1 : ((nextWorld i w).setCell ⟨b, 6, none⟩ (.int .i32 1)).heap.size = w.heap.size + 3 := by simp [nextWorld]
  obtain ⟨n, h1⟩ : ∃ n : Nat, 6 ≤ n := ⟨6, Nat.le_refl _⟩
  refine calls_of_wp_marks Tryz.func58 rfl n ?_
  simp only [Tryz.ntmps58, List.size_toArray, List.length_cons, List.length_nil, Nat.reduceAdd, Nat.reduceSub, Array.replicate_succ, Array.replicate_zero, List.push_toArray, List.append_toArray, List.nil_append, List.cons_append]
  gi_wp2_with fail
  refine ⟨trivial, fun h => (by cases h), ?_⟩
  change CallsIn _ _ _ _ _ (nextWorld i w) _
  refine (callsIn_wide.2 (knows_yes b m i _ (hB.cell 0) (by omega) (by omega))).mono ?_
  rintro e w' ⟨rfl, rfl⟩
  gi_wp2_with fail
  refine ⟨trivial, fun h => (by cases h), ?_⟩
  refine (callsIn_wide.2 (rlock_open Tryz.rwRLib b 2 0 _ _ _ c2 c5 c6 z6 (by rw [wrap32_up]; decide))).mono ?_
  rintro e w' ⟨rfl, rfl⟩
  rw [wrap32_up]
  generalize (nextWorld i w).setCell ⟨b, 2 + 4, none⟩ (.int .i32 1) = w1 at *
  clear c2 c5 c6 z6 x0 x1 x2 hB hT0
  have k1 : w1.cell? ⟨b, 1, none⟩ = some (.int .i64 0) := hB1.cell 1
  have ki : w1.cell? ⟨w.heap.size, 0, none⟩ = some (.int .i64 i) := y0.cell 0
  gi_wp2_with fail
  refine wpIn_wide.2 ?_
  go_region_held3 (fun w' => w'.cell? ⟨b, 1, none⟩ = some (.int .i64 0) ∧ w'.cell? ⟨w.heap.size, 0, none⟩ = some (.int .i64 i)) (first | go_keep | exact hk2)
    (first
      | (go_at_call 74; refine (words_any b 0 i _).mono ?_; rintro e w2 ⟨rfl, rfl⟩; have hk2 : (wordsWorld b 0 i w1.drew).cell? ⟨b, 1, none⟩ = some (.int .i64 0) ∧ (wordsWorld b 0 i w1.drew).cell? ⟨w.heap.size, 0, none⟩ = some (.int .i64 i) := ⟨(((hB1.drew.alloc _).alloc _).alloc _).cell 1, (((y0.drew.alloc _).alloc _).alloc _).cell 0⟩))
  gi_wp2_with fail
  have hW : Below w.heap.size w1 (wordsWorld b 0 i w1.drew) := by
    unfold wordsWorld
    exact (((((Below.refl w.heap.size w1).drew).alloc (by simp; omega) _).alloc (by simp; omega) _).alloc (by simp; omega) _)
  have hs : (wordsWorld b 0 i w1.drew).heap.size = w.heap.size + 6 := by simp [wordsWorld, hs1]
  have hB2 : Blk (wordsWorld b 0 i w1.drew) b (setArr m 0 1 0 0 none) 116 := ((hB1.drew.alloc _).alloc _).alloc _
  have v0 : Blk (wordsWorld b 0 i w1.drew) w.heap.size #[.int .i64 i] 3 := ((y0.drew.alloc _).alloc _).alloc _
  have v1 : Blk (wordsWorld b 0 i w1.drew) (w.heap.size + 1) #[.int .i64 0] 3 := ((y1.drew.alloc _).alloc _).alloc _
  have v2 : Blk (wordsWorld b 0 i w1.drew) (w.heap.size + 1 + 1) #[.bool false] 4 := ((y2.drew.alloc _).alloc _).alloc _
  have e0 : (wordsWorld b 0 i w1.drew).cell? ⟨w.heap.size + 3, 0, none⟩ = some (.pointer (some ⟨b, 8, none⟩)) := by
    have h := ((Blk.new w1.drew #[.pointer (some ⟨b, 8, none⟩)] 144).alloc (.cells #[.int .i64 0] 3)).alloc (.cells #[.int .i64 i] 3)
    simp only [World.size_drew, hs1] at h
    exact h.cell 0
  have e1 : (wordsWorld b 0 i w1.drew).cell? ⟨w.heap.size + 3 + 1, 0, none⟩ = some (.int .i64 0) := by
    have h := (Blk.new (w1.drew.alloc (.cells #[.pointer (some ⟨b, 8, none⟩)] 144)) #[.int .i64 0] 3).alloc (.cells #[.int .i64 i] 3)
    simp only [World.size_drew, World.size_alloc, hs1] at h
    exact h.cell 0
  have e2 : (wordsWorld b 0 i w1.drew).cell? ⟨w.heap.size + 3 + 1 + 1, 0, none⟩ = some (.int .i64 i) := by
    have h := Blk.new ((w1.drew.alloc (.cells #[.pointer (some ⟨b, 8, none⟩)] 144)).alloc (.cells #[.int .i64 0] 3)) #[.int .i64 i] 3
    simp only [World.size_drew, World.size_alloc, hs1] at h
    exact h.cell 0
  generalize wordsWorld b 0 i w1.drew = W0 at *
  clear hk2 k1 ki
  refine wpIn_rangeFunc_ownF rfl (by omega) (gf := 96) (lb := #[.pointer (some ⟨w.heap.size + 3, 0, none⟩), .pointer (some ⟨w.heap.size + 3 + 1, 0, none⟩), .pointer (some ⟨w.heap.size + 3 + 1 + 1, 0, none⟩)]) rfl trivial (enters_of Tryz.func96 (by kernel_rfl) rfl)
    (words_stops_nil (n - 1) b m 0 1 i (by omega) (w.heap.size + 3) W0 e0 e1 e2 (by omega) hB2) walksK_t walksK_b (Below.refl _ _) (fun _ => rfl)
    (fun pre W => ((∀ x ∈ pre, NoneIn S i x.1) ∧ W.cell? ⟨w.heap.size, 0, none⟩ = some (.int .i64 i) ∧ (W.cell? ⟨w.heap.size + 1, 0, none⟩ = some (.int .i64 0) ∧ W.frozen? ⟨w.heap.size + 1, 0, none⟩ = false) ∧ (W.cell? ⟨w.heap.size + 1 + 1, 0, none⟩ = some (.bool false) ∧ W.frozen? ⟨w.heap.size + 1 + 1, 0, none⟩ = false)) ∧ Below w.heap.size w1 W)
    (fun c pre W => (c = .ret ∧ ∃ q x t, pre = q ++ [x] ∧ (∀ y ∈ q, NoneIn S i y.1) ∧ FirstIn S i x.1 t ∧ W.cell? ⟨w.heap.size + 1, 0, none⟩ = some (.int .i64 ((64 * x.1 + t : Nat) : Int)) ∧ W.cell? ⟨w.heap.size + 1 + 1, 0, none⟩ = some (.bool true)) ∧ Below w.heap.size w1 W)
    (OwnFrom.and (Own.from (fun s A B row hs hg hr => ⟨hs.1, cell_kept hs.2.1 hg hr, ⟨cell_kept hs.2.2.1.1 hg hr, (frozen_kept hs.2.2.1.1 hg hr).trans hs.2.2.1.2⟩, ⟨cell_kept hs.2.2.2.1 hg hr, (frozen_kept hs.2.2.2.1 hg hr).trans hs.2.2.2.2⟩⟩) _) (ownFrom_below (by omega) (by omega)))
    (fun c => OwnFrom.and (Own.from (fun s A B row hs hg hr => by
      obtain ⟨hc, q, x, t, h1, h2, h3, h4, h5⟩ := hs
      exact ⟨hc, q, x, t, h1, h2, h3, cell_kept h4 hg hr, cell_kept h5 hg hr⟩) _) (ownFrom_below (by omega) (by omega)))
    ⟨⟨fun x h => (by cases h), v0.cell 0, ⟨v1.cell 0, v1.free 0⟩, ⟨v2.cell 0, v2.free 0⟩⟩, hW⟩
    (fun x => { tmps := #[.pointer (some ⟨b, 0, none⟩), .int .i64 i, undef, .pointer (some ⟨w.heap.size, 0, none⟩), .pointer (some ⟨w.heap.size + 1, 0, none⟩), .pointer (some ⟨w.heap.size + 1 + 1, 0, none⟩), .int .i64 ((x.1 : Int) * 64), .pointer (some ⟨0, x.1, none⟩), undef, .pointer (some ⟨b, 0, none⟩), .int .i64 i, .bool true, .bool false, .pointer (some ⟨b, 0, none⟩), .pointer (some ⟨b, 0, none⟩), .pointer (some ⟨b, 2, none⟩), .tuple #[], .pointer (some ⟨b, 0, none⟩), .pointer (some ⟨b, 0, none⟩), .pointer (some ⟨b, 2, none⟩), .pointer (some ⟨b, 0, none⟩), .pointer (some ⟨b, 0, none⟩), .pointer (some ⟨b, 8, none⟩), .pointer (some ⟨b, 0, none⟩), .pointer (some ⟨b, 0, none⟩), .pointer (some ⟨b, 1, none⟩), .int .i64 0, .int .i64 i, wordsFn (w.heap.size + 3), .int .i64 ((x.1 : Int) * 64), .pointer (some ⟨0, x.1, none⟩), undef, undef, undef, undef, undef, undef, undef, undef, undef, undef, undef, undef, undef, undef, undef, undef], defers := [] }) ?assign ?body ?done ?stop
  case assign =>
    intro l0 x W K hK
    unfold wordArgs
    gi_wp2
    exact hK
  case body =>
    rintro l0 pre x W _ hlen
    exact absurd hlen (Nat.not_lt_zero _)
  case done =>
    rintro D xs W hD rfl ⟨⟨hN, hci, ⟨hc0, hf0⟩, ⟨hc1, hf1⟩⟩, hBl⟩ hK
    gi_wp2_with fail
    have hBl2 : Below w.heap.size w1 ((W.setCell ⟨w.heap.size + 1, 0, none⟩ (.int .i64 0)).setCell ⟨w.heap.size + 1 + 1, 0, none⟩ (.bool false)) := (hBl.setCell (p := ⟨w.heap.size + 1, 0, none⟩) (by simp) _).setCell (p := ⟨w.heap.size + 1 + 1, 0, none⟩) (by simp; omega) _
    have hd0 : ((W.setCell ⟨w.heap.size + 1, 0, none⟩ (.int .i64 0)).setCell ⟨w.heap.size + 1 + 1, 0, none⟩ (.bool false)).cell? ⟨w.heap.size + 1, 0, none⟩ = some (.int .i64 0) := by
      rw [World.cell?_setCell_other _ ⟨w.heap.size + 1 + 1, 0, none⟩ ⟨w.heap.size + 1, 0, none⟩ _ (by simp)]
      exact World.cell?_setCell_same _ _ _ hc0
    have hd1 : ((W.setCell ⟨w.heap.size + 1, 0, none⟩ (.int .i64 0)).setCell ⟨w.heap.size + 1 + 1, 0, none⟩ (.bool false)).cell? ⟨w.heap.size + 1 + 1, 0, none⟩ = some (.bool false) :=
      World.cell?_setCell_same _ _ _ ((World.cell?_setCell_other _ ⟨w.heap.size + 1, 0, none⟩ ⟨w.heap.size + 1 + 1, 0, none⟩ _ (by simp)).trans hc1)
    have hK2 := ((KeepsOthers.setCell W ⟨w.heap.size + 1, 0, none⟩ (.int .i64 0)).trans (KeepsOthers.setCell _ ⟨w.heap.size + 1 + 1, 0, none⟩ (.bool false))).same D _ hK rfl
    generalize (W.setCell ⟨w.heap.size + 1, 0, none⟩ (.int .i64 0)).setCell ⟨w.heap.size + 1 + 1, 0, none⟩ (.bool false) = V at *
    obtain ⟨hBV, hTV, hr0, hr1⟩ := next_door_nil (D := D) (w := w) hblt hB1 hT1 hBl2 (by omega) _ _ hd0 hd1
    refine ⟨by simp, .inl ⟨D, _, rfl, run_takeDeferred hK2, ?_⟩⟩
    generalize V.putObj D (.deferred none) = W2 at *
    refine ⟨by simp, .inr ⟨_, _, 63, #[.pointer (some ⟨b, 2, none⟩)], rfl, by simp [go_sem], ?_⟩⟩
    refine (runlock_deferred Tryz.rwRLib b 2 1 _ _ .returning _ (hBV.cell 2) (hBV.cell 4) (hBV.cell 6) (hBV.free 6) (by rw [wrap32_down]; decide)).mono ?_
    rintro e u' w'' ⟨rfl, rfl, rfl⟩
    rw [wrap32_down]
    refine ⟨.tuple #[.int .i64 0, .bool false], ?_, .inr ⟨fun j _ => hS0 j, rfl⟩, ⟨hn, hSn, hBV.setAt 6 _, hS0⟩, hTV.set _ _ (.inr rfl)⟩
    simp [results, Tryz.f58, go_sem, hr0, hr1]
  case stop =>
    rintro D c pre W hD h _ _
    exact h.elim


/-- next, of a number that there is not. -/
theorem next_out (b : Nat) (lo : Option Nat) (m : Nat) (S : Nat → Bool) (i : Nat) (hi : m ≤ i) (w : World) (hA : SetAt w b lo m S) :
    Calls Tryz.prog 58 #[.pointer (some ⟨b, 0, none⟩), .int .i64 i] w (NextPost b lo m S i w) := by
  have hA1 : SetAt (nextWorld i w) b lo m S := hA.turn ((((Turn.refl (fun _ => False) w).alloc _).alloc _).alloc _) (fun h => h) (fun _ _ h => h)
  have hT1 : Turn (fun k => k = b) w (nextWorld i w) := (((Turn.refl _ w).alloc _).alloc _).alloc _
  obtain ⟨x0, x1, x2⟩ := nextWorld_boxes i w
  have r0 : (nextWorld i w).cell? ⟨w.heap.size + 1, 0, none⟩ = some (.int .i64 0) := x1.cell 0
  have r1 : (nextWorld i w).cell? ⟨w.heap.size + 1 + 1, 0, none⟩ = some (.bool false) := x2.cell 0
  have z0 : (nextWorld i w).frozen? ⟨w.heap.size + 1, 0, none⟩ = false := x1.free 0
  have z1 : (nextWorld i w).frozen? ⟨w.heap.size + 1 + 1, 0, none⟩ = false := x2.free 0
  obtain ⟨n, h1⟩ : ∃ n : Nat, 6 ≤ n := ⟨6, Nat.le_refl _⟩
  refine calls_of_wp_marks Tryz.func58 rfl n ?_
  simp only [Tryz.ntmps58, List.size_toArray, List.length_cons, List.length_nil, Nat.reduceAdd, Nat.reduceSub, Array.replicate_succ, Array.replicate_zero, List.push_toArray, List.append_toArray, List.nil_append, List.cons_append]
  gi_wp2_with fail
  refine ⟨trivial, fun h => (by cases h), ?_⟩
  change CallsIn _ _ _ _ _ (nextWorld i w) _
  refine (callsIn_wide.2 (knows_no b m i _ hA1.2.2.n0 (by omega))).mono ?_
  rintro e w' ⟨rfl, rfl⟩
  gi_wp2_with fail
  have hd0 : (((nextWorld i w).setCell ⟨w.heap.size + 1, 0, none⟩ (.int .i64 0)).setCell ⟨w.heap.size + 1 + 1, 0, none⟩ (.bool false)).cell? ⟨w.heap.size + 1, 0, none⟩ = some (.int .i64 0) := by
    rw [World.cell?_setCell_other _ ⟨w.heap.size + 1 + 1, 0, none⟩ ⟨w.heap.size + 1, 0, none⟩ _ (by simp)]
    exact World.cell?_setCell_same _ _ _ r0
  have hd1 : (((nextWorld i w).setCell ⟨w.heap.size + 1, 0, none⟩ (.int .i64 0)).setCell ⟨w.heap.size + 1 + 1, 0, none⟩ (.bool false)).cell? ⟨w.heap.size + 1 + 1, 0, none⟩ = some (.bool false) :=
    World.cell?_setCell_same _ _ _ ((World.cell?_setCell_other _ ⟨w.heap.size + 1, 0, none⟩ ⟨w.heap.size + 1 + 1, 0, none⟩ _ (by simp)).trans r1)
  have hT2 : Turn (fun k => k = b) w (((nextWorld i w).setCell ⟨w.heap.size + 1, 0, none⟩ (.int .i64 0)).setCell ⟨w.heap.size + 1 + 1, 0, none⟩ (.bool false)) := (hT1.set _ _ (.inl (by simp))).set _ _ (.inl (by simp; omega))
  have hs : w.heap.size + 3 = (nextWorld i w).heap.size := by simp [nextWorld]
  have hT3 : Turn (fun k => k = w.heap.size + 1 ∨ k = w.heap.size + 1 + 1) (nextWorld i w) (((nextWorld i w).setCell ⟨w.heap.size + 1, 0, none⟩ (.int .i64 0)).setCell ⟨w.heap.size + 1 + 1, 0, none⟩ (.bool false)) :=
    ((Turn.refl _ _).set _ _ (.inr (.inl rfl))).set _ _ (.inr (.inr rfl))
  have hlt := hA.lt
  have hA2 := hA1.turn hT3 (by omega) (fun l hl => by have := hlt.2 l hl; omega)
  generalize ((nextWorld i w).setCell ⟨w.heap.size + 1, 0, none⟩ (.int .i64 0)).setCell ⟨w.heap.size + 1 + 1, 0, none⟩ (.bool false) = V at *
  refine ⟨.tuple #[.int .i64 0, .bool false], ?_, .inr ⟨fun j hj => ?_, rfl⟩, hA2, hT2⟩
  · simp [results, Tryz.f58, go_sem, hd0, hd1]
  · cases hs : S j with
    | false => rfl
    | true => exact absurd (hA.2.1 j hs) (by omega)

/-- next, from any number on. -/
theorem next_any (b : Nat) (lo : Option Nat) (m : Nat) (S : Nat → Bool) (i : Nat) (w : World) (hA : SetAt w b lo m S) (hTab : TabAt w) :
    Calls Tryz.prog 58 #[.pointer (some ⟨b, 0, none⟩), .int .i64 i] w (NextPost b lo m S i w) := by
  by_cases hi : i < m
  · cases lo with
    | none => exact next_nil b m S i hi w hA
    | some l => exact next_some b l m S i hi w hA hTab
  · exact next_out b lo m S i (by omega) w hA

/-- A question leaves all that there was as it was. -/
theorem same_below {w w' : World} {b : Nat} {lo : Option Nat} {n : Nat} {S : Nat → Bool} (h : SetAt w b lo n S) (h' : SetAt w' b lo n S) (hT : Turn (fun k => k = b) w w') : Below w.heap.size w w' := by
  refine ⟨hT.os, hT.tape, hT.output, hT.size, fun k hk => ?_⟩
  by_cases e : k = b
  · subst e
    obtain ⟨_, _, h⟩ := h
    obtain ⟨_, _, h'⟩ := h'
    cases lo with
    | none => exact h'.1.trans h.1.symm
    | some l => exact h'.1.trans h.1.symm
  · exact hT.block k hk e
end Go.Proofs.YtidpmplkbgllfaaGreatDoor

namespace Go.Proofs.YtidpmplkbgllfaaGreatDoor
open Go.RowKit Go.Shelf Go.MuLone Go.RwLone
attribute [local go_sem] Oper.semAt_some

theorem all_any (b : Nat) (w : World) :
    Calls Tryz.prog 37 #[.pointer (some ⟨b, 0, none⟩)] w fun e w' => e = .returned (.func (.func 57) #[] #[.pointer (some ⟨w.heap.size, 0, none⟩)]) ∧ w.alloc (.cells #[.pointer (some ⟨b, 0, none⟩)] 63) = w' := by
  go_enter Tryz.func37, Tryz.ntmps37
  go_wp2_with fail
  go_ret
  exact ⟨rfl, rfl⟩

/-- The numbers of S below i, rising. -/
def elems (S : Nat → Bool) (i : Nat) : List Nat := (List.range i).filter S
theorem elems_zero (S : Nat → Bool) : elems S 0 = [] := rfl
theorem elems_gap (S : Nat → Bool) (i : Nat) : ∀ d, (∀ k, i ≤ k → k < i + d → S k = false) → elems S (i + d) = elems S i
  | 0, _ => rfl
  | d + 1, h => by
    rw [← elems_gap S i d (fun k h1 h2 => h k h1 (by omega))]
    unfold elems
    rw [← Nat.add_assoc, List.range_succ, List.filter_append]
    simp [h (i + d) (by omega) (by omega)]
theorem elems_next {S : Nat → Bool} {i j : Nat} (h : NextIs S i j) : elems S (j + 1) = elems S i ++ [j] := by
  obtain ⟨h1, h2, h3⟩ := h
  have e := elems_gap S i (j - i) (fun k hk hk2 => h3 k hk (by omega))
  rw [show i + (j - i) = j by omega] at e
  rw [← e]
  unfold elems
  rw [List.range_succ, List.filter_append]
  simp [h2]
theorem elems_end {S : Nat → Bool} {i m : Nat} (hi : i ≤ m) (h : ∀ k, i ≤ k → S k = false) : elems S m = elems S i := by
  have e := elems_gap S i (m - i) (fun k hk _ => h k hk)
  rw [show i + (m - i) = m by omega] at e
  exact e
theorem elems_length (S : Nat → Bool) (i : Nat) : (elems S i).length ≤ i := by
  unfold elems
  have := List.length_filter_le S (List.range i)
  simpa using this

/-- What a round over a set keeps: the set, the table, the closure's box. -/
def KpSet (b : Nat) (lo : Option Nat) (B : Nat) (W W' : World) : Prop :=
  W'.heap[b]? = W.heap[b]? ∧ (∀ l, lo = some l → W'.heap[l]? = W.heap[l]?) ∧ W'.heap[B]? = W.heap[B]? ∧ W'.heap[(1 : Nat)]? = W.heap[(1 : Nat)]?
theorem KpSet.trans {b : Nat} {lo : Option Nat} {B : Nat} {A C D : World} (h : KpSet b lo B A C) (k : KpSet b lo B C D) : KpSet b lo B A D :=
  ⟨k.1.trans h.1, fun l hl => (k.2.1 l hl).trans (h.2.1 l hl), k.2.2.1.trans h.2.2.1, k.2.2.2.trans h.2.2.2⟩
theorem KpSet.putObj {b : Nat} {lo : Option Nat} {B : Nat} {n0 : Nat} (hb : b < n0) (hl : ∀ l, lo = some l → l < n0) (hB : B < n0) (ht : (1 : Nat) < n0) (W : World) (l : Nat) (o : Obj) (h : n0 ≤ l) : KpSet b lo B W (W.putObj l o) :=
  ⟨World.putObj_heap_other (by omega), fun l' hl' => World.putObj_heap_other (by have := hl l' hl'; omega), World.putObj_heap_other (by omega), World.putObj_heap_other (by have := ht; omega)⟩
theorem KpSet.ofBelow {b : Nat} {lo : Option Nat} {B : Nat} {n0 : Nat} {W W' : World} (h : Below n0 W W') (hb : b < n0) (hl : ∀ l, lo = some l → l < n0) (hB : B < n0) (ht : 1 < n0) : KpSet b lo B W W' :=
  ⟨h.block _ hb, fun l e => h.block _ (hl l e), h.block _ hB, h.block _ ht⟩
theorem SetAt.kp {b : Nat} {lo : Option Nat} {B : Nat} {W W' : World} {m : Nat} {S : Nat → Bool} (h : SetAt W b lo m S) (hk : KpSet b lo B W W') : SetAt W' b lo m S := by
  obtain ⟨h1, h2, h3⟩ := h
  refine ⟨h1, h2, ?_⟩
  cases lo with
  | none => exact ⟨hk.1.trans h3.1, h3.2⟩
  | some l =>
    obtain ⟨h4, h5, ws, h6, h7⟩ := h3
    exact ⟨hk.1.trans h4, h5, ws, (hk.2.1 l rfl).trans h6, h7⟩
theorem TabAt.kp {b : Nat} {lo : Option Nat} {B : Nat} {W W' : World} (h : TabAt W) (hk : KpSet b lo B W W') : TabAt W' := fun j hj =>
  (World.cell?_of_block (w := W) (a := ⟨1, j, none⟩) hk.2.2.2).trans (h j hj)

/-- What holds between two rounds over a set. -/
def AllRel (b : Nat) (lo : Option Nat) (B m : Nat) (S : Nat → Bool) (J : List Nat → World → Prop) (vi vok : Value) (W : World) : Prop :=
  SetAt W b lo m S ∧ TabAt W ∧ W.cell? ⟨B, 0, none⟩ = some (.pointer (some ⟨b, 0, none⟩)) ∧
    ∃ i, i ≤ m ∧ J (elems S i) W ∧ ((∃ j, NextIs S i j ∧ vi = .int .i64 (j : Int) ∧ vok = .bool true) ∨ ((∀ j, i ≤ j → S j = false) ∧ vi = .int .i64 0 ∧ vok = .bool false))
/-- What every round lowers. -/
def allMu (m : Nat) (vi vok : Value) : Nat := match vok with | .bool true => m + 1 - (intOf vi).toNat | _ => 0

theorem allRel_next {b : Nat} {lo : Option Nat} {B m : Nat} {S : Nat → Bool} {J : List Nat → World → Prop} {i : Nat} {W W' : World} {e : Ending} {n0 : Nat} (hi : i ≤ m) (hJa : AbidesFrom n0 J) (hA : SetAt W b lo m S) (hT : TabAt W)
    (hB : W.cell? ⟨B, 0, none⟩ = some (.pointer (some ⟨b, 0, none⟩))) (hJ : J (elems S i) W) (hP : NextPost b lo m S i W e W') :
    ∃ vi vok, e = .returned (.tuple #[vi, vok]) ∧ AllRel b lo B m S J vi vok W' ∧ (i = 0 ∨ allMu m vi vok < m + 1 - (i - 1)) := by
  obtain ⟨hres, hA', hTn⟩ := hP
  have hBl := same_below hA hA' hTn
  have hk : W.grownBy W' none := ⟨hBl.os, hBl.tape, hBl.output, hBl.size, fun k hk _ => hBl.block k hk⟩
  have hJ' := hJa _ _ _ _ hJ hk (fun r e => by cases e)
  have hT' : TabAt W' := fun j hj => (hBl.cell (p := ⟨1, j, none⟩) hT.lt).trans (hT j hj)
  have hB' : W'.cell? ⟨B, 0, none⟩ = some (.pointer (some ⟨b, 0, none⟩)) := (hBl.cell (p := ⟨B, 0, none⟩) (World.block_lt_of_cell? W _ hB)).trans hB
  rcases hres with ⟨j, hj, rfl⟩ | ⟨hn, rfl⟩
  · refine ⟨_, _, rfl, ⟨hA', hT', hB', i, hi, hJ', .inl ⟨j, hj, rfl, rfl⟩⟩, ?_⟩
    have h1 := hj.1
    have h2 := hA.2.1 j hj.2.1
    simp [allMu, intOf]; omega
  · refine ⟨_, _, rfl, ⟨hA', hT', hB', i, hi, hJ', .inr ⟨hn, rfl, rfl⟩⟩, ?_⟩
    simp [allMu]; omega

set_option maxRecDepth 100000 in
set_option maxHeartbeats 2000000 in
theorem all1_in (n : Nat) (b : Nat) (lo : Option Nat) (B l m : Nat) (S : Nat → Bool) (J Jx : List Nat → World → Prop) (W : World) (hJa : AbidesFrom W.heap.size J)
    (hY : ∀ pre (x : Nat) W1, x < m → J pre W1 → pre.length < m → YieldAt Fence.wide (n - 1) Tryz.prog l #[.int .i64 (x : Int)] W1 fun e W' =>
      (e = .returned (.bool true) ∧ J (pre ++ [x]) W' ∧ KpSet b lo B W1 W') ∨ (e = .returned (.bool false) ∧ Jx (pre ++ [x]) W'))
    (hA : SetAt W b lo m S) (hT : TabAt W) (hB : W.cell? ⟨B, 0, none⟩ = some (.pointer (some ⟨b, 0, none⟩))) (h0 : J [] W) :
    CallsIn Fence.wide n Tryz.prog 57 #[.func (.yield l) #[] #[], .pointer (some ⟨B, 0, none⟩)] W fun e W' => (∃ v, e = .returned v) ∧
      ((∃ xs, xs = elems S m ∧ J xs W') ∨ (∃ pre, (∃ i j, NextIs S i j ∧ pre = elems S (j + 1)) ∧ Jx pre W')) := by
  have hm4 := hA.1
  refine callsIn_of_wp Tryz.func57 rfl (by trivial) ?_ rfl
  simp only [Tryz.ntmps57, List.size_toArray, List.length_cons, List.length_nil, Nat.reduceAdd, Nat.reduceSub, Array.replicate_succ, Array.replicate_zero, List.push_toArray, List.append_toArray, List.nil_append, List.cons_append]
  gi_wp2_with fail
  refine ⟨trivial, fun h => (by cases h), ?_⟩
  refine (callsIn_wide.2 (next_any b lo m S 0 _ hA hT)).mono ?_
  intro e W1 hP
  obtain ⟨vi, vok, rfl, hR, _⟩ := allRel_next (Nat.zero_le _) hJa hA hT hB h0 hP
  clear hP hA hT hB h0
  gi_wp2_with fail
  gi_loopw [3, 4] (fun vi vok wr => AllRel b lo B m S J vi vok wr) (fun vi vok _ => allMu m vi vok)
  case atStart => exact hR
  case round =>
    obtain ⟨hA, hT, hB, i, hi, hJs, h⟩ := hrel
    rcases h with ⟨j, hj, rfl, rfl⟩ | ⟨hn, rfl, rfl⟩
    · have hjm : j < m := hA.2.1 j hj.2.1
      obtain ⟨fn, tmps, assign, body, hy, hY2⟩ := hY _ j wr hjm hJs (Nat.lt_of_le_of_lt (Nat.le_trans (elems_length S i) hj.1) hjm)
      gi_wp2_with fail
      refine ⟨fun h => (by cases h), ?_⟩
      refine hY2.mono ?_
      rintro e W3 (⟨rfl, hJ3, hk3⟩ | ⟨rfl, hJx3⟩)
      · have hA3 := hA.kp hk3
        have hT3 := hT.kp hk3
        have hB3 : W3.cell? ⟨B, 0, none⟩ = some (.pointer (some ⟨b, 0, none⟩)) := (World.cell?_of_block (w := wr) (a := ⟨B, 0, none⟩) hk3.2.2.1).trans hB
        rw [← elems_next hj] at hJ3
        clear hA hT hB hJs hk3 hy hY2
        gi_wp2_with fail
        refine ⟨trivial, fun h => (by cases h), ?_⟩
        rw [show ((j : Int) + 1) = ((j + 1 : Nat) : Int) by omega]
        refine (callsIn_wide.2 (next_any b lo m S (j + 1) _ hA3 hT3)).mono ?_
        intro e W4 hP
        obtain ⟨vi2, vok2, rfl, hR4, hmu⟩ := allRel_next (Nat.succ_le_of_lt hjm) hJa hA3 hT3 hB3 hJ3 hP
        clear hP
        have HM : Hid (allMu m vi2 vok2 < m + 1 - j) := by rcases hmu with h | h; exact absurd h (by omega); exact h
        clear hmu hA3 hT3 hB3 hJ3
        gi_wp2_with fail
        go_roundw
        case rel => exact hR4
        case measure =>
          have := HM.out
          simp [allMu, intOf] at this ⊢
          omega
      · gi_wp2_with fail
        go_end0
        exact ⟨⟨_, rfl⟩, .inr ⟨_, ⟨i, j, hj, (elems_next hj).symm⟩, hJx3⟩⟩
    · gi_wp2_with fail
      refine ⟨fun _ h => (by cases h), ?_⟩
      gi_wp2_with fail
      go_end0
      exact ⟨⟨_, rfl⟩, .inl ⟨_, rfl, by rw [elems_end hi hn]; exact hJs⟩⟩

theorem SetAt.below {w w' : World} {b : Nat} {lo : Option Nat} {m : Nat} {S : Nat → Bool} {B : Nat} (h : SetAt w b lo m S) (hB : Below B w w') (hb : b < B) (hl : ∀ l, lo = some l → l < B) : SetAt w' b lo m S :=
  h.turn (Turn.ofBelow hB) (by omega) (fun l e => by have := hl l e; omega)

/-- The iterator over a set: all of its numbers, rising. -/
theorem all_stops (n : Nat) (b : Nat) (lo : Option Nat) (B m : Nat) (S : Nat → Bool) (w : World) (hA : SetAt w b lo m S) (hT : TabAt w) (hB : w.cell? ⟨B, 0, none⟩ = some (.pointer (some ⟨b, 0, none⟩))) :
    SeqStopsK Fence.wide n Tryz.prog 57 #[.pointer (some ⟨B, 0, none⟩)] (fun x : Nat => #[.int .i64 (x : Int)]) (KpSet b lo B)
      (fun xs => xs = elems S m) (fun pre => ∃ i j, NextIs S i j ∧ pre = elems S (j + 1)) m w := fun l J Jx W hW hJa _ hY h0 =>
  all1_in n b lo B l m S J Jx W hJa (fun pre x W1 _ => hY pre x W1) (hA.below hW hA.lt.1 hA.lt.2) (fun j hj => (hW.cell (p := ⟨1, j, none⟩) hT.lt).trans (hT j hj))
    ((hW.cell (p := ⟨B, 0, none⟩) (World.block_lt_of_cell? w _ hB)).trans hB) h0

/-- The same, where it is known of each number that it is one of a set's. -/
theorem all_stopsF (n : Nat) (b : Nat) (lo : Option Nat) (B m : Nat) (S : Nat → Bool) (w : World) (hA : SetAt w b lo m S) (hT : TabAt w) (hB : w.cell? ⟨B, 0, none⟩ = some (.pointer (some ⟨b, 0, none⟩))) :
    SeqStopsK Fence.wide n Tryz.prog 57 #[.pointer (some ⟨B, 0, none⟩)] (fun x : Fin 4096 => #[.int .i64 ((x.val : Nat) : Int)]) (KpSet b lo B)
      (fun xs => xs.map Fin.val = elems S m) (fun pre => ∃ i j, NextIs S i j ∧ pre.map Fin.val = elems S (j + 1)) m w := fun l J Jx W hW hJa _ hY h0 => by
  have hm := hA.1
  refine (all1_in n b lo B l m S (fun p W => ∃ q : List (Fin 4096), q.map Fin.val = p ∧ J q W) (fun p W => ∃ q : List (Fin 4096), q.map Fin.val = p ∧ Jx q W) W
    (fun s W1 W2 row ⟨q, hq, hs⟩ hg hr => ⟨q, hq, hJa q W1 W2 row hs hg hr⟩) ?_ (hA.below hW hA.lt.1 hA.lt.2) (fun j hj => (hW.cell (p := ⟨1, j, none⟩) hT.lt).trans (hT j hj))
    ((hW.cell (p := ⟨B, 0, none⟩) (World.block_lt_of_cell? w _ hB)).trans hB) ⟨[], rfl, h0⟩).mono ?_
  · rintro pre x W1 hx ⟨q, rfl, hq⟩ hlen
    refine (hY q ⟨x, by omega⟩ W1 hq (by simpa using hlen)).mono ?_
    rintro e W2 (⟨he, hj, hk⟩ | ⟨he, hj⟩)
    · exact .inl ⟨he, ⟨_, by simp, hj⟩, hk⟩
    · exact .inr ⟨he, ⟨_, by simp, hj⟩⟩
  · rintro e W2 ⟨hv, (⟨xs, hxs, q, hq, hj⟩ | ⟨pre, hp, q, hq, hj⟩)⟩
    · exact ⟨hv, .inl ⟨q, hq.trans hxs, hj⟩⟩
    · obtain ⟨i, j, h1, h2⟩ := hp
      exact ⟨hv, .inr ⟨q, ⟨i, j, h1, hq.trans h2⟩, hj⟩⟩

end Go.Proofs.YtidpmplkbgllfaaGreatDoor

namespace Go.Proofs.YtidpmplkbgllfaaGreatDoor
open Go.RowKit Go.Shelf Go.MuLone Go.RwLone

/-- There is such a number. -/
def may (n : Nat) (x : Int) : Bool := decide (0 ≤ x) && decide (x < n)
def putS (n : Nat) (S : Nat → Bool) (x : Int) : Nat → Bool := fun j => S j || (may n x && decide (j = x.toNat))
def dropS (S : Nat → Bool) (x : Int) : Nat → Bool := fun j => S j && !decide ((j : Int) = x)

theorem turnPost_same {b : Nat} {lo : Option Nat} {n : Nat} {S S' : Nat → Bool} {r : Bool} {w : World} {e : Ending} {w' : World} (hA : SetAt w b lo n S) (hr : r = false) (hS : S' = S) (h : e = .returned (.bool false) ∧ w = w') : TurnPost b lo n r S' w e w' := by
  obtain ⟨rfl, rfl⟩ := h
  subst hr hS
  exact ⟨lo, rfl, hA, .inl rfl, Turn.refl _ _⟩

theorem put_x (b : Nat) (lo : Option Nat) (n : Nat) (S : Nat → Bool) (x : Int) (w : World) (hA : SetAt w b lo n S) :
    Calls Tryz.prog 39 #[.pointer (some ⟨b, 0, none⟩), .int .i64 x] w (TurnPost b lo n (may n x && !S x.toNat) (putS n S x) w) := by
  by_cases h : 0 ≤ x ∧ x < n
  · obtain ⟨i, rfl⟩ : ∃ i : Nat, x = i := ⟨x.toNat, by omega⟩
    have hm : may n i = true := by simp [may]; omega
    exact put_at b lo n S _ _ i w (by omega) hA (by simp [hm]) (by funext j; simp [putS, hm])
  · have hm : may n x = false := by simp [may]; omega
    exact (put_no b lo n S x w (by omega) hA).mono fun e w' hp => turnPost_same hA (by simp [hm]) (by funext j; simp [putS, hm]) hp

theorem drop_x (b : Nat) (lo : Option Nat) (n : Nat) (S : Nat → Bool) (x : Int) (w : World) (hA : SetAt w b lo n S) :
    Calls Tryz.prog 72 #[.pointer (some ⟨b, 0, none⟩), .int .i64 x] w (TurnPost b lo n (may n x && S x.toNat) (dropS S x) w) := by
  by_cases h : 0 ≤ x ∧ x < n
  · obtain ⟨i, rfl⟩ : ∃ i : Nat, x = i := ⟨x.toNat, by omega⟩
    have hm : may n i = true := by simp [may]; omega
    exact drop_at b lo n S _ _ i w (by omega) hA (by simp [hm]) (by
      funext j
      by_cases e : j = i
      · subst e; simp [dropS]
      · have e2 : ¬ (j : Int) = (i : Int) := by omega
        simp [dropS, e, e2])
  · have hm : may n x = false := by simp [may]; omega
    refine (drop_no b lo n S x w (by omega) hA).mono fun e w' hp => turnPost_same hA (by simp [hm]) (by
      funext j
      by_cases hj : S j = true
      · have := hA.2.1 j hj
        have hne : ¬ (j : Int) = x := by omega
        simp [dropS, hne]
      · simp [dropS, hj]) hp

theorem has_x (b : Nat) (lo : Option Nat) (n : Nat) (S : Nat → Bool) (x : Int) (w : World) (hA : SetAt w b lo n S) :
    Calls Tryz.prog 42 #[.pointer (some ⟨b, 0, none⟩), .int .i64 x] w (TurnPost b lo n (may n x && S x.toNat) S w) := by
  by_cases h : 0 ≤ x ∧ x < n
  · obtain ⟨i, rfl⟩ : ∃ i : Nat, x = i := ⟨x.toNat, by omega⟩
    have hm : may n i = true := by simp [may]; omega
    exact has_at b lo n S _ i w (by omega) hA (by simp [hm])
  · have hm : may n x = false := by simp [may]; omega
    exact (has_no b lo n S x w (by omega) hA).mono fun e w' hp => turnPost_same hA (by simp [hm]) rfl hp

theorem Blk.kept {W W' : World} {b : Nat} {cs : Array Value} {T : TypeId} {row : Option Nat} (h : Blk W b cs T) (hg : W.grownBy W' row) (hrow : ∀ r, row = some r → ∃ o : Obj, W.heap[r]? = some o ∧ o.isCells = false) : Blk W' b cs T := by
  unfold Blk at *
  rw [grownBy_keeps_cells hg hrow h rfl]; exact h

theorem SetAt.kept {W W' : World} {b : Nat} {lo : Option Nat} {n : Nat} {S : Nat → Bool} {row : Option Nat} (h : SetAt W b lo n S) (hg : W.grownBy W' row) (hrow : ∀ r, row = some r → ∃ o : Obj, W.heap[r]? = some o ∧ o.isCells = false) : SetAt W' b lo n S := by
  obtain ⟨h1, h2, h3⟩ := h
  refine ⟨h1, h2, ?_⟩
  cases lo with
  | none => exact ⟨Blk.kept h3.1 hg hrow, h3.2⟩
  | some l =>
    obtain ⟨h4, h5, ws, h6, h7⟩ := h3
    exact ⟨Blk.kept h4 hg hrow, h5, ws, Blk.kept h6 hg hrow, h7⟩

/-- A call that turns cells alone leaves loops and deferred calls. -/
theorem SetAt.others {W W' : World} {b : Nat} {lo : Option Nat} {n : Nat} {S : Nat → Bool} (h : SetAt W b lo n S) (hT : Turn (fun k => k = b ∨ lo = some k) W W') : KeepsOthers W W' :=
  ⟨hT.size, fun k o hk ho => by
    have hlt := (Array.getElem?_eq_some_iff.1 hk).1
    by_cases hm : k = b ∨ lo = some k
    · obtain ⟨_, _, h3⟩ := h
      exfalso
      cases lo with
      | none =>
        rcases hm with rfl | e
        · have hh := h3.1; unfold Blk at hh; rw [hh] at hk; cases hk; cases ho
        · cases e
      | some l =>
        obtain ⟨h4, _, ws, h6, _⟩ := h3
        rcases hm with rfl | e
        · unfold Blk at h4; rw [h4] at hk; cases hk; cases ho
        · cases e; unfold Blk at h6; rw [h6] at hk; cases hk; cases ho
    · exact (hT.block k hlt hm).trans hk⟩

/-- A slice of ints that came in: each of its cells. -/
def IntsAt (w : World) (a : Option Addr) (zs : List Int) : Prop :=
  ∀ k, k < zs.length → ∃ b off, a = some ⟨b, off, none⟩ ∧ b < w.heap.size ∧ w.cell? ⟨b, off + k, none⟩ = some (.int .i64 (zs.getD k 0))
end Go.Proofs.YtidpmplkbgllfaaGreatDoor

namespace Go.Proofs.YtidpmplkbgllfaaGreatDoor
open Go Go.RowKit

/-- The table of the classes' words. -/
abbrev wordsRow : Array Value := #[.int .i64 2, .int .i64 4, .int .i64 8]
def TableAt (w : World) : Prop := ∃ T fr, w.heap[(0 : Nat)]? = some (.cells wordsRow T fr)
theorem TableAt.cell {w : World} (h : TableAt w) (j : Nat) : w.cell? ⟨0, j, none⟩ = wordsRow[j]? := by
  obtain ⟨T, fr, h⟩ := h
  simp [World.cell?, h]

/-- How many words a cell of a class has; 0: there is none. -/
def wordsOf (c : Int) : Int := if c = 0 then 2 else if c = 1 then 4 else if c = 2 then 8 else 0
def cellsOfC (c : Int) : Int := if c = 0 then 16 else if c = 1 then 8 else if c = 2 then 4 else 0

theorem ret_num {k : IntKind} {a b : Int} (h : a = b) : Ending.returned (.int k a) = .returned (.int k b) := by rw [h]
theorem words_cases (c : Int) : c = 0 ∨ c = 1 ∨ c = 2 ∨ (c < 0 ∨ 3 ≤ c) := by omega

set_option maxHeartbeats 400000 in
theorem wordsC_any (c : Int) (w : World) (hT : TableAt w) : Calls Tryz.prog 40 #[.int .i64 c] w fun e w' => e = .returned (.int .i64 (wordsOf c)) ∧ w = w' := by
  have h0 := hT.cell 0
  have h1 := hT.cell 1
  have h2 := hT.cell 2
  simp at h0 h1 h2
  rcases words_cases c with rfl | rfl | rfl | h | h
  · go_enter Tryz.func40, Tryz.ntmps40
    go_wp2
    go_ret
    exact ⟨rfl, rfl⟩
  · go_enter Tryz.func40, Tryz.ntmps40
    go_wp2
    go_ret
    exact ⟨rfl, rfl⟩
  · go_enter Tryz.func40, Tryz.ntmps40
    go_wp2
    go_ret
    exact ⟨rfl, rfl⟩
  · have e : wordsOf c = 0 := by unfold wordsOf; rw [if_neg (by omega), if_neg (by omega), if_neg (by omega)]
    rw [e]; clear e
    go_enter Tryz.func40, Tryz.ntmps40
    go_wp2
    go_ret
    exact ⟨rfl, rfl⟩
  · have e : wordsOf c = 0 := by unfold wordsOf; rw [if_neg (by omega), if_neg (by omega), if_neg (by omega)]
    rw [e]; clear e
    have h' : ¬ c < 0 := by omega
    go_enter Tryz.func40, Tryz.ntmps40
    go_wp2
    go_ret
    exact ⟨rfl, rfl⟩

theorem cells_words (c : Int) : wordsOf c = 0 ∧ cellsOfC c = 0 ∨ (wordsOf c = 2 ∧ cellsOfC c = 16 ∨ wordsOf c = 4 ∧ cellsOfC c = 8 ∨ wordsOf c = 8 ∧ cellsOfC c = 4) := by
  unfold wordsOf cellsOfC
  rcases words_cases c with rfl | rfl | rfl | h
  · simp
  · simp
  · simp
  · left
    constructor
    · rw [if_neg (by omega), if_neg (by omega), if_neg (by omega)]
    · rw [if_neg (by omega), if_neg (by omega), if_neg (by omega)]

set_option maxHeartbeats 400000 in
theorem cellsC_any (c : Int) (w : World) (hT : TableAt w) : Calls Tryz.prog 59 #[.int .i64 c] w fun e w' => e = .returned (.int .i64 (cellsOfC c)) ∧ w = w' := by
  have cW := wordsC_any c w hT
  rcases cells_words c with ⟨h1, h2⟩ | ⟨h1, h2⟩ | ⟨h1, h2⟩ | ⟨h1, h2⟩
  all_goals
    rw [h1] at cW
    rw [h2]
    clear h1 h2
    go_enter Tryz.func59, Tryz.ntmps59
    go_wp2_with fail
    refine cW.mono ?_
    rintro e w' ⟨rfl, rfl⟩
    go_wp2_with fail
    go_ret
    exact ⟨rfl, rfl⟩

set_option maxHeartbeats 400000 in
theorem offset_yes (c k : Int) (w : World) (hT : TableAt w) (h0 : 0 ≤ k) (h1 : k < cellsOfC c) : Calls Tryz.prog 60 #[.int .i64 c, .int .i64 k] w fun e w' => e = .returned (.tuple #[.int .i64 (k * wordsOf c), .bool true]) ∧ w = w' := by
  have cW := wordsC_any c w hT
  have cC := cellsC_any c w hT
  rcases cells_words c with ⟨e1, e2⟩ | ⟨e1, e2⟩ | ⟨e1, e2⟩ | ⟨e1, e2⟩
  · omega
  all_goals
    rw [e1] at cW
    rw [e2] at cC h1
    rw [e1]
    clear e1 e2
    go_enter Tryz.func60, Tryz.ntmps60
    go_wp2_with fail
    refine cC.mono ?_
    rintro e w' ⟨rfl, rfl⟩
    go_wp2_with fail
    refine cW.mono ?_
    rintro e w' ⟨rfl, rfl⟩
    go_wp2_with fail
    go_ret2
    exact ⟨rfl, rfl⟩

theorem offset_no (c k : Int) (w : World) (hT : TableAt w) (h : k < 0 ∨ cellsOfC c ≤ k) : Calls Tryz.prog 60 #[.int .i64 c, .int .i64 k] w fun e w' => e = .returned (.tuple #[.int .i64 0, .bool false]) ∧ w = w' := by
  have cC := cellsC_any c w hT
  generalize cellsOfC c = C at *
  by_cases hk : k < 0
  · clear cC
    go_enter Tryz.func60, Tryz.ntmps60
    go_wp2
    go_ret2
    exact ⟨rfl, rfl⟩
  · have hC : C ≤ k := by omega
    clear h
    go_enter Tryz.func60, Tryz.ntmps60
    go_wp2_with fail
    refine cC.mono ?_
    rintro e w' ⟨rfl, rfl⟩
    go_wp2_with fail
    go_ret2
    exact ⟨rfl, rfl⟩

theorem TableAt.drewN {w : World} (h : TableAt w) (n : Nat) : TableAt (w.drewN n) := h
end Go.Proofs.YtidpmplkbgllfaaGreatDoor

namespace Go.Proofs.YtidpmplkbgllfaaGreatDoor
open Go Go.RowKit
set_option linter.unusedSimpArgs false

/-- A row of integers. -/
def row (n : Nat) (f : Nat → Int) : Array Value := Array.ofFn (n := n) fun k => Value.int .i64 (f k.val)
def upd (f : Nat → Int) (p : Nat) (v : Int) : Nat → Int := fun q => if q = p then v else f q
def clr (f : Nat → Int) (r n : Nat) : Nat → Int := fun q => if r ≤ q ∧ q < r + n then 0 else f q
theorem row_size (n : Nat) (f : Nat → Int) : (row n f).size = n := by simp [row]
theorem row_get {n : Nat} (f : Nat → Int) {k : Nat} (h : k < n) : (row n f)[k]? = some (.int .i64 (f k)) := by
  simp [row, Array.getElem?_eq_getElem, h]
theorem row_congr {n : Nat} {f g : Nat → Int} (h : ∀ k, k < n → f k = g k) : row n f = row n g := by
  apply Array.ext
  · simp [row]
  · intro k h1 h2
    simp [row] at h1 ⊢
    exact h k h1
theorem row_set {n : Nat} (f : Nat → Int) {k : Nat} (v : Int) (h : k < n) : (row n f).setIfInBounds k (.int .i64 v) = row n (upd f k v) := by
  apply Array.ext_getElem?
  intro j
  by_cases e : k = j
  · subst e
    rw [Array.getElem?_setIfInBounds_self, row_get _ h, row_size]
    simp [h, upd]
  · rw [Array.getElem?_setIfInBounds_ne e]
    have e2 : ¬ j = k := fun x => e x.symm
    by_cases hj : j < n
    · rw [row_get _ hj, row_get _ hj]; simp [upd, e2]
    · rw [Array.getElem?_eq_none (by rw [row_size]; omega), Array.getElem?_eq_none (by rw [row_size]; omega)]
theorem row_const (n : Nat) (v : Int) : Array.replicate n (Value.int .i64 v) = row n (fun _ => v) := by
  apply Array.ext
  · simp [row]
  · intro k h1 h2; simp [row]

/-- The page in which a Ref lies. -/
def pg (r : Nat) : Nat := (r - 1) / 32
def putN (S : Nat → Bool) (r : Nat) : Nat → Bool := fun j => S j || decide (j = r)
def dropN (S : Nat → Bool) (r : Nat) : Nat → Bool := fun j => S j && !decide (j = r)
def usedIn (S : Nat → Bool) (p : Nat) : Bool := (List.range 32).any fun k => S (32 * p + k + 1)
theorem usedIn_yes {S : Nat → Bool} {p : Nat} : usedIn S p = true ↔ ∃ k, k < 32 ∧ S (32 * p + k + 1) = true := by
  simp [usedIn, List.any_eq_true]
theorem usedIn_pg {S : Nat → Bool} {r : Nat} (h1 : 1 ≤ r) (h : S r = true) : usedIn S (pg r) = true :=
  usedIn_yes.2 ⟨(r - 1) % 32, by omega, by unfold pg; rw [show 32 * ((r - 1) / 32) + (r - 1) % 32 + 1 = r by omega]; exact h⟩

/-- Pages' classes, taken cells, words. -/
structure ArS where
  P : Nat
  cls : Nat → Int
  S : Nat → Bool
  ws : Nat → Int

def okC (c : Int) : Bool := decide (0 ≤ c) && decide (c ≤ 2)
theorem okC_yes {c : Int} (h0 : 0 ≤ c) (h2 : c ≤ 2) : okC c = true := by simp [okC, h0, h2]
theorem okC_no {c : Int} (h : c < 0 ∨ 2 < c) : okC c = false := by simp [okC]; omega
theorem okC_cases {c : Int} (h : okC c = true) : c = 0 ∨ c = 1 ∨ c = 2 := by simp [okC] at h; omega
/-- How long a class's cells are. -/
def wN (c : Int) : Nat := (wordsOf c).toNat

/-- What holds of every arena. -/
structure Fits (s : ArS) : Prop where
  p64 : s.P ≤ 64
  cl : ∀ p, p < s.P → s.cls p = -1 ∨ okC (s.cls p) = true
  at_ : ∀ r, s.S r = true → 1 ≤ r ∧ r ≤ 32 * s.P ∧ okC (s.cls (pg r)) = true ∧ (r - 1) % 32 % wN (s.cls (pg r)) = 0
  used : ∀ p, p < s.P → s.cls p ≠ -1 → usedIn s.S p = true

/-- Is there a free cell of class c with Ref r? -/
def free1 (s : ArS) (c : Int) (r : Nat) : Bool := decide (1 ≤ r) && (decide (r ≤ 32 * s.P) && (decide (s.cls (pg r) = c) && (decide ((r - 1) % 32 % wN c = 0) && !s.S r)))
theorem free1_mk {s : ArS} {c : Int} {r : Nat} (h1 : 1 ≤ r) (h2 : r ≤ 32 * s.P) (h3 : s.cls (pg r) = c) (h4 : (r - 1) % 32 % wN c = 0) (h5 : s.S r = false) : free1 s c r = true := by
  simp [free1, h1, h2, h3, h4, h5]
theorem free1_open {s : ArS} {c : Int} {r : Nat} (h : free1 s c r = true) : 1 ≤ r ∧ r ≤ 32 * s.P ∧ s.cls (pg r) = c ∧ (r - 1) % 32 % wN c = 0 ∧ s.S r = false := by
  simpa [free1] using h

/-- The first free page below p, as its first cell; 0: there is none. -/
def spare (s : ArS) (p : Nat) : Nat := match (List.range p).find? (fun q => s.cls q == -1) with
  | some q => 32 * q + 1
  | none => 0
/-- The Ref that is taken next; 0: there is no room. -/
def seekF (s : ArS) (c : Int) : Nat :=
  if okC c = true then match (List.range (32 * s.P + 1)).find? (free1 s c) with
    | some r => r
    | none => spare s s.P
  else 0

theorem spare_zero (s : ArS) : spare s 0 = 0 := rfl
theorem spare_cases (s : ArS) (p : Nat) : (∃ q, q < p ∧ s.cls q = -1 ∧ (∀ q', q' < q → s.cls q' ≠ -1) ∧ spare s p = 32 * q + 1) ∨ ((∀ q, q < p → s.cls q ≠ -1) ∧ spare s p = 0) := by
  unfold spare
  cases h : (List.range p).find? (fun q => s.cls q == -1) with
  | none =>
    right
    rw [List.find?_eq_none] at h
    exact ⟨fun q hq e => h q (by simpa using hq) (by simp [e]), rfl⟩
  | some q =>
    left
    rw [List.find?_range_eq_some] at h
    obtain ⟨h1, h2, h3⟩ := h
    exact ⟨q, by simpa using h2, by simpa using h1, fun q' hq' => by simpa using h3 q' hq', rfl⟩
theorem spare_first {s : ArS} {p q : Nat} (hq : q < p) (h : s.cls q = -1) (hm : ∀ q', q' < q → s.cls q' ≠ -1) : spare s p = 32 * q + 1 := by
  rcases spare_cases s p with ⟨q2, h1, h2, h3, h4⟩ | ⟨h1, _⟩
  · have : q2 = q := by
      rcases Nat.lt_trichotomy q2 q with x | x | x
      · exact absurd h2 (hm _ x)
      · exact x
      · exact absurd h (h3 _ x)
    rw [h4, this]
  · exact absurd h (h1 q hq)
theorem spare_none {s : ArS} {p : Nat} (h : ∀ q, q < p → s.cls q ≠ -1) : spare s p = 0 := by
  rcases spare_cases s p with ⟨q, h1, h2, _, _⟩ | ⟨_, h2⟩
  · exact absurd h2 (h q h1)
  · exact h2
theorem spare_step {s : ArS} {p : Nat} : spare s (p + 1) = if s.cls p = -1 ∧ spare s p = 0 then 32 * p + 1 else spare s p := by
  rcases spare_cases s p with ⟨q, h1, h2, h3, h4⟩ | ⟨h1, h2⟩
  · rw [if_neg (by omega), h4]
    exact spare_first (by omega) h2 h3
  · by_cases e : s.cls p = -1
    · rw [if_pos ⟨e, h2⟩]
      exact spare_first (by omega) e h1
    · rw [if_neg (fun x => e x.1), h2]
      exact spare_none fun q hq => by
        by_cases x : q = p
        · rw [x]; exact e
        · exact h1 q (by omega)
theorem spare_le (s : ArS) (p : Nat) : spare s p ≤ 32 * p := by
  rcases spare_cases s p with ⟨q, h1, _, _, h4⟩ | ⟨_, h2⟩ <;> omega

theorem seekF_bad {s : ArS} {c : Int} (h : okC c = false) : seekF s c = 0 := by unfold seekF; rw [if_neg (by rw [h]; decide)]
theorem seekF_cell {s : ArS} {c : Int} {r : Nat} (hc : okC c = true) (h : free1 s c r = true) (hm : ∀ r', r' < r → free1 s c r' = false) : seekF s c = r := by
  unfold seekF
  rw [if_pos hc]
  have e : (List.range (32 * s.P + 1)).find? (free1 s c) = some r := by
    rw [List.find?_range_eq_some]
    exact ⟨h, by have := (free1_open h).2.1; simp; omega, fun j hj => by simp [hm j hj]⟩
  rw [e]
theorem seekF_page {s : ArS} {c : Int} (hc : okC c = true) (h : ∀ r, r ≤ 32 * s.P → free1 s c r = false) : seekF s c = spare s s.P := by
  unfold seekF
  rw [if_pos hc]
  have e : (List.range (32 * s.P + 1)).find? (free1 s c) = none := by
    rw [List.find?_eq_none]
    intro r hr
    simp [h r (by simp at hr; omega)]
  rw [e]
theorem seekF_cases (s : ArS) (c : Int) : (okC c = false ∧ seekF s c = 0) ∨ (okC c = true ∧ ((free1 s c (seekF s c) = true ∧ ∀ r', r' < seekF s c → free1 s c r' = false) ∨ ((∀ r, free1 s c r = false) ∧ seekF s c = spare s s.P))) := by
  cases hc : okC c with
  | false => exact .inl ⟨rfl, seekF_bad hc⟩
  | true =>
    refine .inr ⟨rfl, ?_⟩
    cases h : (List.range (32 * s.P + 1)).find? (free1 s c) with
    | none =>
      right
      rw [List.find?_eq_none] at h
      have h' : ∀ r, free1 s c r = false := fun r => by
        cases e : free1 s c r with
        | false => rfl
        | true => exact absurd e (h r (by have := (free1_open e).2.1; simp; omega))
      exact ⟨h', seekF_page hc fun r _ => h' r⟩
    | some r =>
      left
      rw [List.find?_range_eq_some] at h
      obtain ⟨h1, h2, h3⟩ := h
      have e := seekF_cell hc h1 (fun r' hr' => by simpa using h3 r' hr')
      rw [e]
      exact ⟨h1, fun r' hr' => by simpa using h3 r' hr'⟩
/-- What is known of the Ref that is taken. -/
theorem seekF_is {s : ArS} (hF : Fits s) {c : Int} (h : seekF s c ≠ 0) : okC c = true ∧ 1 ≤ seekF s c ∧ seekF s c ≤ 32 * s.P ∧ pg (seekF s c) < s.P ∧ s.S (seekF s c) = false ∧ (seekF s c - 1) % 32 % wN c = 0 ∧ (s.cls (pg (seekF s c)) = c ∨ s.cls (pg (seekF s c)) = -1 ∧ ∀ k, k < 32 → s.S (32 * pg (seekF s c) + k + 1) = false) := by
  rcases seekF_cases s c with ⟨_, h0⟩ | ⟨hc, h1 | ⟨_, h1⟩⟩
  · exact absurd h0 h
  · obtain ⟨a1, a2, a3, a4, a5⟩ := free1_open h1.1
    exact ⟨hc, a1, a2, by unfold pg; omega, a5, a4, .inl a3⟩
  · rcases spare_cases s s.P with ⟨q, b1, b2, _, b4⟩ | ⟨_, b2⟩
    · rw [h1, b4]
      have e : pg (32 * q + 1) = q := by unfold pg; omega
      have hfree : ∀ k, k < 32 → s.S (32 * q + k + 1) = false := fun k hk => by
        cases hS : s.S (32 * q + k + 1) with
        | false => rfl
        | true =>
          have := (hF.at_ _ hS).2.2.1
          rw [show pg (32 * q + k + 1) = q by unfold pg; omega, b2] at this
          simp [okC] at this
      refine ⟨hc, by omega, by omega, by rw [e]; exact b1, hfree 0 (by omega), by rw [show (32 * q + 1 - 1) % 32 = 0 by omega]; simp, ?_⟩
      rw [e]
      exact .inr ⟨b2, hfree⟩
    · rw [h1] at h; exact absurd b2 h

def ArS.take (s : ArS) (c : Int) : ArS := if seekF s c = 0 then s else { s with cls := upd s.cls (pg (seekF s c)) c, S := putN s.S (seekF s c), ws := clr s.ws (seekF s c) (wN c) }
def giveCls (s : ArS) (r : Nat) : Nat → Int := if usedIn (dropN s.S r) (pg r) = true then s.cls else upd s.cls (pg r) (-1)
def ArS.give (s : ArS) (r : Nat) : ArS := if s.S r = true then { s with cls := giveCls s r, S := dropN s.S r } else s
theorem take_P (s : ArS) (c : Int) : (s.take c).P = s.P := by unfold ArS.take; split <;> rfl
theorem give_P (s : ArS) (r : Nat) : (s.give r).P = s.P := by unfold ArS.give; split <;> rfl
theorem take_none {s : ArS} {c : Int} (h : seekF s c = 0) : s.take c = s := by unfold ArS.take; rw [if_pos h]
theorem take_some {s : ArS} {c : Int} (h : seekF s c ≠ 0) : s.take c = { s with cls := upd s.cls (pg (seekF s c)) c, S := putN s.S (seekF s c), ws := clr s.ws (seekF s c) (wN c) } := by unfold ArS.take; rw [if_neg h]

theorem Fits.take {s : ArS} (h : Fits s) (c : Int) : Fits (s.take c) := by
  by_cases h0 : seekF s c = 0
  · rw [take_none h0]; exact h
  · obtain ⟨hc, h1, h2, h3, h4, h5, h6⟩ := seekF_is h h0
    rw [take_some h0]
    generalize seekF s c = r at *
    refine ⟨h.p64, fun p hp => ?_, fun j hj => ?_, fun p hp hne => ?_⟩
    · show upd s.cls (pg r) c p = -1 ∨ _
      unfold upd
      by_cases e : p = pg r
      · right; simp only [e, if_true]; exact hc
      · simp only [e, if_false]; exact h.cl p hp
    · show 1 ≤ j ∧ j ≤ 32 * s.P ∧ okC (upd s.cls (pg r) c (pg j)) = true ∧ (j - 1) % 32 % wN (upd s.cls (pg r) c (pg j)) = 0
      have hj' : s.S j = true ∨ j = r := by simpa [putN] using hj
      rcases hj' with hj' | rfl
      · obtain ⟨g1, g2, g3, g4⟩ := h.at_ j hj'
        unfold upd
        by_cases e : pg j = pg r
        · simp only [e, if_true]
          rcases h6 with h6 | ⟨_, h6⟩
          · rw [e, h6] at g4
            exact ⟨g1, g2, hc, g4⟩
          · have := h6 ((j - 1) % 32) (by omega)
            rw [show 32 * pg r + (j - 1) % 32 + 1 = j by rw [← e]; unfold pg; omega, hj'] at this
            cases this
        · simp only [e, if_false]; exact ⟨g1, g2, g3, g4⟩
      · unfold upd
        simp only [if_true]
        exact ⟨h1, h2, hc, h5⟩
    · show usedIn (putN s.S r) p = true
      by_cases e : p = pg r
      · subst e
        exact usedIn_pg h1 (by simp [putN])
      · have hne' : s.cls p ≠ -1 := by
          have : upd s.cls (pg r) c p ≠ -1 := hne
          unfold upd at this
          rwa [if_neg e] at this
        obtain ⟨k, hk, hS⟩ := usedIn_yes.1 (h.used p hp hne')
        exact usedIn_yes.2 ⟨k, hk, by simp [putN, hS]⟩

theorem Fits.give {s : ArS} (h : Fits s) (r : Nat) : Fits (s.give r) := by
  unfold ArS.give
  by_cases h0 : s.S r = true
  · rw [if_pos h0]
    obtain ⟨a1, a2, a3, a4⟩ := h.at_ r h0
    by_cases hu : usedIn (dropN s.S r) (pg r) = true
    · have e : giveCls s r = s.cls := by unfold giveCls; rw [if_pos hu]
      rw [e]
      refine ⟨h.p64, h.cl, fun j hj => h.at_ j (by simp [dropN] at hj; exact hj.1), fun p hp hne => ?_⟩
      by_cases e2 : p = pg r
      · rw [e2]; exact hu
      · obtain ⟨k, hk, hS⟩ := usedIn_yes.1 (h.used p hp hne)
        refine usedIn_yes.2 ⟨k, hk, ?_⟩
        have : ¬ 32 * p + k + 1 = r := fun x => e2 (by rw [← x]; unfold pg; omega)
        simp [dropN, hS, this]
    · have e : giveCls s r = upd s.cls (pg r) (-1) := by unfold giveCls; rw [if_neg hu]
      rw [e]
      refine ⟨h.p64, fun p hp => ?_, fun j hj => ?_, fun p hp hne => ?_⟩
      · show upd s.cls (pg r) (-1) p = -1 ∨ okC (upd s.cls (pg r) (-1) p) = true
        unfold upd
        by_cases e2 : p = pg r
        · left; simp only [e2, if_true]
        · simp only [e2, if_false]; exact h.cl p hp
      · have hj' : s.S j = true := by simp [dropN] at hj; exact hj.1
        obtain ⟨g1, g2, g3, g4⟩ := h.at_ j hj'
        have e2 : ¬ pg j = pg r := fun x => hu (by rw [← x]; exact usedIn_pg g1 hj)
        show 1 ≤ j ∧ j ≤ 32 * s.P ∧ okC (upd s.cls (pg r) (-1) (pg j)) = true ∧ (j - 1) % 32 % wN (upd s.cls (pg r) (-1) (pg j)) = 0
        unfold upd
        simp only [e2, if_false]
        exact ⟨g1, g2, g3, g4⟩
      · have hne2 : upd s.cls (pg r) (-1) p ≠ -1 := hne
        unfold upd at hne2
        by_cases e2 : p = pg r
        · rw [if_pos e2] at hne2; exact absurd rfl hne2
        · rw [if_neg e2] at hne2
          obtain ⟨k, hk, hS⟩ := usedIn_yes.1 (h.used p hp hne2)
          refine usedIn_yes.2 ⟨k, hk, ?_⟩
          have : ¬ 32 * p + k + 1 = r := fun x => e2 (by rw [← x]; unfold pg; omega)
          simp [dropN, hS, this]
  · rw [if_neg h0]; exact h

/-- An arena of free pages. -/
def ArS.new (P : Nat) : ArS := ⟨P, fun _ => -1, fun _ => false, fun _ => 0⟩
theorem fits_new {P : Nat} (h : P ≤ 64) : Fits (.new P) :=
  ⟨h, fun _ _ => .inl rfl, fun _ hr => (by cases hr), fun _ _ hne => absurd rfl hne⟩
end Go.Proofs.YtidpmplkbgllfaaGreatDoor

namespace Go.Proofs.YtidpmplkbgllfaaGreatDoor
open Go.RowKit Go.Shelf Go.MuLone Go.RwLone

/-- What a question leaves: r, and the set as it was. -/
def SamePost (b : Nat) (lo : Option Nat) (n : Nat) (r : Bool) (S : Nat → Bool) (w : World) (e : Ending) (w' : World) : Prop :=
  e = .returned (.bool r) ∧ SetAt w' b lo n S ∧ Turn (fun k => k = b) w w'

set_option maxRecDepth 100000 in
set_option maxHeartbeats 1600000 in
/-- Has, where nothing is laid. -/
theorem has_nilB (b : Nat) (n : Nat) (S : Nat → Bool) (i : Nat) (w : World) (hi : i < n) (hA : SetAt w b none n S) :
    Calls Tryz.prog 42 #[.pointer (some ⟨b, 0, none⟩), .int .i64 i] w (SamePost b none n false S w) := by
  obtain ⟨hn, hSn, hB, hS0⟩ := hA
  have c2 : w.cell? ⟨b, 2, none⟩ = some (.int .i32 0) := hB.cell 2
  have c5 : w.cell? ⟨b, 5, none⟩ = some (.int .u32 0) := hB.cell 5
  have c6 : w.cell? ⟨b, 6, none⟩ = some (.int .i32 0) := hB.cell 6
  have z6 : w.frozen? ⟨b, 6, none⟩ = false := hB.free 6
  have hB1 := hB.setAt 6 (.int .i32 1)
  have hT1 : Turn (fun k => k = b) w (w.setCell ⟨b, 6, none⟩ (.int .i32 1)) := (Turn.refl _ w).set _ _ (.inr rfl)
  go_enter_defers Tryz.func42, Tryz.ntmps42
  go_wp2_with fail
  refine (knows_yes b n i _ (hB.cell 0) (by omega) (by omega)).mono ?_
  rintro e w' ⟨rfl, rfl⟩
  go_wp2_with fail
  refine (rlock_open Tryz.rwRLib b 2 0 _ _ _ c2 c5 c6 z6 (by rw [wrap32_up]; decide)).mono ?_
  rintro e w' ⟨rfl, rfl⟩
  rw [wrap32_up]
  generalize w.setCell ⟨b, 2 + 4, none⟩ (.int .i32 1) = w1 at *
  have k1 : w1.cell? ⟨b, 1, none⟩ = some (.int .i64 0) := hB1.cell 1
  clear c2 c5 c6 z6 hB
  go_wp2_with fail
  go_region_held3 (fun w' => w'.cell? ⟨b, 1, none⟩ = some (.int .i64 0)) (first | go_keep)
    (first
      | (go_at_call 67; refine (find_nil b n 0 1 i _ ?_).mono ?_; exact hB1; rintro e w2 ⟨rfl, rfl⟩))
  replace hB1 := hB1.drew
  replace hT1 := hT1.drew
  generalize w1.drew = w1 at *
  go_wp2_with fail
  refine leaves_cons (f := 63) (args := #[.pointer (some ⟨b, 2, none⟩)]) (by simp) (by simp [go_sem]) ?_
  refine (runlock_deferred Tryz.rwRLib b 2 1 _ _ .returning _ (hB1.cell 2) (hB1.cell 4) (hB1.cell 6) (hB1.free 6) (by rw [wrap32_down]; decide)).mono ?_
  rintro e u' w'' ⟨rfl, rfl, rfl⟩
  rw [wrap32_down]
  refine ⟨_, results_tmp rfl _ _ _, ?_⟩
  exact ⟨rfl, ⟨hn, hSn, hB1.setAt 6 _, hS0⟩, hT1.set _ _ (.inr rfl)⟩

set_option maxRecDepth 100000 in
set_option maxHeartbeats 1600000 in
/-- Has, where the leaf is laid. -/
theorem has_someB (b l : Nat) (n : Nat) (S : Nat → Bool) (i : Nat) (w : World) (hi : i < n) (hA : SetAt w b (some l) n S) :
    Calls Tryz.prog 42 #[.pointer (some ⟨b, 0, none⟩), .int .i64 i] w (SamePost b (some l) n (S i) S w) := by
  obtain ⟨hn, hSn, hB, hne, ws, hL, hw⟩ := hA
  have c2 : w.cell? ⟨b, 2, none⟩ = some (.int .i32 0) := hB.cell 2
  have c5 : w.cell? ⟨b, 5, none⟩ = some (.int .u32 0) := hB.cell 5
  have c6 : w.cell? ⟨b, 6, none⟩ = some (.int .i32 0) := hB.cell 6
  have z6 : w.frozen? ⟨b, 6, none⟩ = false := hB.free 6
  have hB1 := hB.setAt 6 (.int .i32 1)
  have hL1 := hL.setOther ⟨b, 6, none⟩ (.int .i32 1) hne
  have hT1 : Turn (fun k => k = b) w (w.setCell ⟨b, 6, none⟩ (.int .i32 1)) := (Turn.refl _ w).set _ _ (.inr rfl)
  obtain ⟨x, hx, hwx, hbx⟩ := hw.2 (i / 64) (by omega)
  have hx1 : (bits .and .u64 (x : Int) ((bitN (i : Int) : Nat) : Int) != 0) = S i := by
    rw [and_bit_ne x i hx, hbx (i % 64) (by omega), show 64 * (i / 64) + i % 64 = i by omega]
  have ei : ((i : Int) / 64).toNat = i / 64 := by omega
  go_enter_defers Tryz.func42, Tryz.ntmps42
  go_wp2_with fail
  refine (knows_yes b n i _ (hB.cell 0) (by omega) (by omega)).mono ?_
  rintro e w' ⟨rfl, rfl⟩
  go_wp2_with fail
  refine (rlock_open Tryz.rwRLib b 2 0 _ _ _ c2 c5 c6 z6 (by rw [wrap32_up]; decide)).mono ?_
  rintro e w' ⟨rfl, rfl⟩
  rw [wrap32_up]
  generalize w.setCell ⟨b, 2 + 4, none⟩ (.int .i32 1) = w1 at *
  have k1 : w1.cell? ⟨b, 1, none⟩ = some (.int .i64 0) := hB1.cell 1
  clear c2 c5 c6 z6 hB hL
  go_wp2_with fail
  go_region_held3 (fun w' => w'.cell? ⟨b, 1, none⟩ = some (.int .i64 0)) (first | go_keep | exact hk2)
    (first
      | (go_at_call 67; refine (find_some b l n 0 1 ws hw.1 i (by omega) (by omega) _ ?_ ?_).mono ?_; exact hB1; exact hL1; rintro e w2 ⟨rfl, hT2⟩; rw [ei]; have hB2 := hB1.drew.turn (M := fun _ => False) hT2 (fun h => h); have hL2 := hL1.drew.turn (M := fun _ => False) hT2 (fun h => h); have hk2 : w2.cell? ⟨b, 1, none⟩ = some (.int .i64 0) := hB2.cell 1))
  have kx : w2.cell? ⟨l, i / 64, none⟩ = some (.int .u64 x) := (hL2.cell _).trans hwx
  go_wp2_with fail
  refine (uload_any _ x _ kx).mono ?_
  rintro e w' ⟨rfl, rfl⟩
  go_wp2_with fail
  refine (bitOf_any i _ (by omega)).mono ?_
  rintro e w' ⟨rfl, rfl⟩
  go_wp2_with fail
  refine leaves_cons (f := 63) (args := #[.pointer (some ⟨b, 2, none⟩)]) (by simp) (by simp [go_sem]) ?_
  refine (runlock_deferred Tryz.rwRLib b 2 1 _ _ .returning _ (hB2.cell 2) (hB2.cell 4) (hB2.cell 6) (hB2.free 6) (by rw [wrap32_down]; decide)).mono ?_
  rintro e u' w'' ⟨rfl, rfl, rfl⟩
  rw [wrap32_down]
  refine ⟨_, results_tmp rfl _ _ _, ?_⟩
  exact ⟨rfl, ⟨hn, hSn, hB2.setAt 6 _, hne, ws, hL2.setOther _ _ hne, hw⟩, (hT1.drew.trans hT2 (fun _ _ h => h.elim)).set _ _ (.inr rfl)⟩

/-- Has, of any number: all that there was is as it was. -/
theorem has_q (b : Nat) (lo : Option Nat) (n : Nat) (S : Nat → Bool) (x : Int) (w : World) (hA : SetAt w b lo n S) :
    Calls Tryz.prog 42 #[.pointer (some ⟨b, 0, none⟩), .int .i64 x] w fun e w' => e = .returned (.bool (may n x && S x.toNat)) ∧ Below w.heap.size w w' := by
  by_cases h : 0 ≤ x ∧ x < n
  · obtain ⟨i, rfl⟩ : ∃ i : Nat, x = i := ⟨x.toNat, by omega⟩
    have hm : may n i = true := by simp [may]; omega
    rw [hm, Bool.true_and, Int.toNat_natCast]
    have fin : ∀ e w', SamePost b lo n (S i) S w e w' → e = .returned (.bool (S i)) ∧ Below w.heap.size w w' := fun e w' ⟨he, hA', hT⟩ => ⟨he, same_below hA hA' hT⟩
    cases lo with
    | none => rw [hA.2.2.2 i] at fin ⊢; exact (has_nilB b n S i w (by omega) hA).mono fin
    | some l => exact (has_someB b l n S i w (by omega) hA).mono fin
  · have hm : may n x = false := by simp [may]; omega
    rw [hm, Bool.false_and]
    exact (has_no b lo n S x w (by omega) hA).mono fun e w' ⟨he, hw⟩ => ⟨he, hw ▸ Below.refl _ _⟩
end Go.Proofs.YtidpmplkbgllfaaGreatDoor
