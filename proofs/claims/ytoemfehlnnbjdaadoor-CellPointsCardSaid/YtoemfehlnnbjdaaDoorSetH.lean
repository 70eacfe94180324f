/- The iterator over a set's words, at this seat's numbers. -/
import Derived.RangeFuncNested
import Derived.RangeFuncBound
import Derived.RangeFuncCalls
import Derived.RangeFuncLeaves
import Derived.Shelf.Abstract
import Derived.Shelf.RegionOpen
import Derived.OwnWalkIn
import Derived.TacticsInMore
import Derived.LoopNIn
import Derived.LoopIn
import Derived.Test.YtoemfehlnnbjdaaDoorBitsF
import Derived.Laws.Bits128
namespace Go.Proofs.YtoemfehlnnbjdaaDoor
open Go.RowKit Go.Shelf Go.MuLone Go.RwLone
attribute [local go_sem] Oper.semAt_some

/-- What a round over the words is handed: the word's first number, and where it lies. -/
def wordArgs (lf : Nat) (k : Fin 64) : Array Value := #[.int .i64 ((k.1 : Int) * 64), .pointer (some ⟨lf, k.1, none⟩)]
/-- Word k. -/
def wk (k : Nat) : Fin 64 := ⟨k % 64, Nat.mod_lt _ (by decide)⟩
theorem wk_val {k : Nat} (h : k < 64) : (wk k).1 = k := Nat.mod_eq_of_lt h
/-- The words from a on. -/
def wks (a m : Nat) : List (Fin 64) := (List.range' a m).map wk
theorem wks_snoc (a m : Nat) : wks a (m + 1) = wks a m ++ [wk (a + m)] := by unfold wks; rw [List.range'_1_concat]; simp
theorem wks_length (a m : Nat) : (wks a m).length = m := by simp [wks]
theorem wks_zero (a : Nat) : wks a 0 = [] := rfl

set_option maxRecDepth 100000 in
set_option maxHeartbeats 2000000 in
theorem tellLeaf_in (n : Nat) (lf l fr : Nat) (hfr : fr ≤ 64) (J Jx : List (Fin 64) → World → Prop)
    (hY : ∀ pre x W, J pre W → pre.length < 64 - fr → YieldAt Fence.wide (n - 1) Tryd.prog l (wordArgs lf x) W fun e W' =>
      (e = .returned (.bool true) ∧ J (pre ++ [x]) W' ∧ KeepsWalks W W') ∨ (e = .returned (.bool false) ∧ Jx (pre ++ [x]) W'))
    (W : World) (h0 : J [] W) :
    CallsIn Fence.wide n Tryd.prog 108 #[.pointer (some ⟨lf, 0, none⟩), .int .i64 0, .int .i64 fr, .func (.yield l) #[] #[]] W fun e W' =>
      (e = .returned (.bool true) ∧ J (wks fr (64 - fr)) W') ∨ (e = .returned (.bool false) ∧ ∃ k, k < 64 - fr ∧ Jx (wks fr (k + 1)) W') := by
  refine callsIn_of_wp Tryd.func108 rfl (by trivial) ?_ rfl
  simp only [Tryd.ntmps108, List.size_toArray, List.length_cons, List.length_nil, Nat.reduceAdd, Nat.reduceSub, Array.replicate_succ, Array.replicate_zero, List.push_toArray, List.append_toArray, List.nil_append, List.cons_append]
  gi_wp2
  gi_loopw [9] (fun i wr => ∃ k : Nat, fr ≤ k ∧ k ≤ 64 ∧ i = .int .i64 k ∧ J (wks fr (k - fr)) wr)
    (fun i _ => 64 - (intOf i).toNat)
  case atStart => exact ⟨fr, Nat.le_refl _, hfr, rfl, by rw [Nat.sub_self, wks_zero]; exact h0⟩
  case round =>
    obtain ⟨k, hk0, hk, rfl, hJs⟩ := hrel
    by_cases hlt : k < 64
    · obtain ⟨fn, tmps, assign, body, hy, hR⟩ := hY _ (wk k) wr hJs (by rw [wks_length]; omega)
      unfold wordArgs at hy
      rw [wk_val hlt] at hy
      have k0 : 0 ≤ (k : Int) := by omega
      have k1 : (k : Int) < 64 := by omega
      gi_wp2
      refine ⟨fun h => (by cases h), ?_⟩
      refine hR.mono ?_
      rintro e W3 (⟨rfl, hJ3, _⟩ | ⟨rfl, hJx3⟩)
      · gi_wp2
        go_roundw
        case rel => exact ⟨k + 1, by omega, by omega, by simp, by rw [show k + 1 - fr = (k - fr) + 1 by omega, wks_snoc, show fr + (k - fr) = k by omega]; exact hJ3⟩
        case measure => simp [intOf]; omega
      · gi_wp2
        go_ret
        exact .inr ⟨rfl, k - fr, by omega, by rw [wks_snoc, show fr + (k - fr) = k by omega]; exact hJx3⟩
    · obtain rfl : k = 64 := by omega
      gi_wp2
      go_ret
      exact .inl ⟨rfl, hJs⟩

/-- tellLeaf of nothing. -/
theorem tellLeaf_nil (a b : Int) (fv : Value) (W : World) :
    Calls Tryd.prog 108 #[.pointer none, .int .i64 a, .int .i64 b, fv] W fun e W' => e = .returned (.bool true) ∧ W = W' := by
  go_enter Tryd.func108, Tryd.ntmps108
  go_wp2
  go_ret
  exact ⟨rfl, rfl⟩

/-- tell, of a node of height 0 with its leaf, from number i on. -/
theorem tell_in (n : Nat) (b lf l : Nat) (N lw rc : Int) (i : Nat) (hi : i < 4096) (J Jx : List (Fin 64) → World → Prop)
    (hY : ∀ pre x W, J pre W → pre.length < 64 - i / 64 → YieldAt Fence.wide (n - 1 - 1) Tryd.prog l (wordArgs lf x) W fun e W' =>
      (e = .returned (.bool true) ∧ J (pre ++ [x]) W' ∧ KeepsWalks W W') ∨ (e = .returned (.bool false) ∧ Jx (pre ++ [x]) W'))
    (W : World) (hB : Blk W b (setArr N lw rc 1 0 (some ⟨lf, 0, none⟩)) 113) (hL : W.shape? lf = some (156, 64)) (h0 : J [] W) :
    CallsIn Fence.wide n Tryd.prog 83 #[.pointer (some ⟨b, 8, none⟩), .int .i64 0, .int .i64 0, .int .i64 i, .func (.yield l) #[] #[]] W fun e W' =>
      (e = .returned (.bool true) ∧ J (wks (i / 64) (64 - i / 64)) W') ∨ (e = .returned (.bool false) ∧ ∃ k, k < 64 - i / 64 ∧ Jx (wks (i / 64) (k + 1)) W') := by
  have hi0 : 0 ≤ (i : Int) := by omega
  have hp : ∀ w, Calls Tryd.prog 102 #[.int .i64 0, .int .i64 i] w fun e w' => e = .returned (.int .i64 ((i / 64 : Nat) : Int)) ∧ w = w' := fun w =>
    (part_zero i w (by omega) (by omega)).mono fun e w' ⟨h1, h2⟩ => ⟨by rw [h1]; exact ret_i64 (by omega), h2⟩
  have hlf := tellLeaf_in (n - 1) lf l (i / 64) (by omega) J Jx hY W h0
  have hld := pload_some ⟨b, 11, none⟩ lf W (hB.cell 11) hL
  by_cases hpos : 0 < i
  · refine callsIn_of_wp Tryd.func83 rfl (by trivial) ?_ rfl
    simp only [Tryd.ntmps83, List.size_toArray, List.length_cons, List.length_nil, Nat.reduceAdd, Nat.reduceSub, Array.replicate_succ, Array.replicate_zero, List.push_toArray, List.append_toArray, List.nil_append, List.cons_append]
    gi_wp2_with fail
    refine ⟨trivial, fun h => (by cases h), ?_⟩
    refine (callsIn_wide.2 (hp _)).mono ?_
    rintro e w' ⟨rfl, rfl⟩
    gi_wp2_with fail
    refine ⟨trivial, fun h => (by cases h), ?_⟩
    refine (callsIn_wide.2 hld).mono ?_
    rintro e w' ⟨rfl, rfl⟩
    gi_wp2_with fail
    refine ⟨trivial, fun h => (by cases h), ?_⟩
    refine hlf.mono ?_
    rintro e W3 (⟨rfl, hJ3⟩ | ⟨rfl, k, hk, hJx3⟩)
    · gi_wp2_with fail
      go_ret
      exact .inl ⟨rfl, hJ3⟩
    · gi_wp2_with fail
      go_ret
      exact .inr ⟨rfl, k, hk, hJx3⟩
  · obtain rfl : i = 0 := by omega
    refine callsIn_of_wp Tryd.func83 rfl (by trivial) ?_ rfl
    simp only [Tryd.ntmps83, List.size_toArray, List.length_cons, List.length_nil, Nat.reduceAdd, Nat.reduceSub, Array.replicate_succ, Array.replicate_zero, List.push_toArray, List.append_toArray, List.nil_append, List.cons_append]
    gi_wp2_with fail
    refine ⟨trivial, fun h => (by cases h), ?_⟩
    refine (callsIn_wide.2 hld).mono ?_
    rintro e w' ⟨rfl, rfl⟩
    gi_wp2_with fail
    refine ⟨trivial, fun h => (by cases h), ?_⟩
    refine hlf.mono ?_
    rintro e W3 (⟨rfl, hJ3⟩ | ⟨rfl, k, hk, hJx3⟩)
    · gi_wp2_with fail
      go_ret
      exact .inl ⟨rfl, hJ3⟩
    · gi_wp2_with fail
      go_ret
      exact .inr ⟨rfl, k, hk, hJx3⟩

/-- tell, of a node of height 0 without a leaf. -/
theorem tell_nil (b : Nat) (N lw rc : Int) (i : Nat) (hi : i < 4096) (fv : Value) (W : World) (hB : Blk W b (setArr N lw rc 0 0 none) 113) :
    Calls Tryd.prog 83 #[.pointer (some ⟨b, 8, none⟩), .int .i64 0, .int .i64 0, .int .i64 i, fv] W fun e W' => e = .returned (.bool true) ∧ W = W' := by
  have hld := pload_nil ⟨b, 11, none⟩ W (hB.cell 11)
  by_cases hpos : 0 < i
  · go_enter Tryd.func83, Tryd.ntmps83
    go_wp2_with fail
    refine (part_zero i _ (by omega) (by omega)).mono ?_
    rintro e w' ⟨rfl, rfl⟩
    go_wp2_with fail
    refine hld.mono ?_
    rintro e w' ⟨rfl, rfl⟩
    go_wp2_with fail
    refine (tellLeaf_nil _ _ _ _).mono ?_
    rintro e w' ⟨rfl, rfl⟩
    go_wp2_with fail
    go_ret
    exact ⟨rfl, rfl⟩
  · obtain rfl : i = 0 := by omega
    go_enter Tryd.func83, Tryd.ntmps83
    go_wp2_with fail
    refine hld.mono ?_
    rintro e w' ⟨rfl, rfl⟩
    go_wp2_with fail
    refine (tellLeaf_nil _ _ _ _).mono ?_
    rintro e w' ⟨rfl, rfl⟩
    go_wp2_with fail
    go_ret
    exact ⟨rfl, rfl⟩

/-- The world behind words: three boxes. -/
def wordsWorld (b : Nat) (h i : Int) (W : World) : World :=
  ((W.alloc (.cells #[.pointer (some ⟨b, 8, none⟩)] 137)).alloc (.cells #[.int .i64 h] 3)).alloc (.cells #[.int .i64 i] 3)
/-- What words hands back: the closure over three boxes from block B on. -/
def wordsFn (B : Nat) : Value := .func (.func 82) #[] #[.pointer (some ⟨B, 0, none⟩), .pointer (some ⟨B + 1, 0, none⟩), .pointer (some ⟨B + 1 + 1, 0, none⟩)]

/-- words: three boxes, and the closure over them. -/
theorem words_any (b : Nat) (h i : Int) (W : World) :
    Calls Tryd.prog 47 #[.pointer (some ⟨b, 8, none⟩), .int .i64 h, .int .i64 i] W fun e W' => e = .returned (wordsFn W.heap.size) ∧ wordsWorld b h i W = W' := by
  go_enter Tryd.func47, Tryd.ntmps47
  go_wp2_with fail
  go_ret
  exact ⟨rfl, rfl⟩

theorem room_wide (k : Nat) : Fence.wide.room k := fun d h => by cases h
theorem RoundIn.anyWide {m m' : Nat} {P : Program} {l : Nat} {f : FuncId} {tmps : Array Value} {assign body : Code} {w : World} {R : Ending → World → Prop}
    (h : RoundIn Fence.wide m P l f tmps assign body w R) : RoundIn Fence.wide m' P l f tmps assign body w R := ⟨h.1, fun c cs _ => h.2 c cs (room_wide _)⟩
theorem YieldAt.anyWide {m : Nat} (m' : Nat) {P : Program} {l : Nat} {args : Array Value} {W : World} {R : Ending → World → Prop} (h : YieldAt Fence.wide m P l args W R) : YieldAt Fence.wide m' P l args W R := by
  obtain ⟨fn, tmps, assign, body, hy, hR⟩ := h
  exact ⟨fn, tmps, assign, body, hy, RoundIn.anyWide hR⟩

/-- The iterator over a set's words, from number i on. -/
theorem words_stops (n : Nat) (b lf : Nat) (N lw rc : Int) (i : Nat) (hi : i < 4096) (B : Nat) (ws : Array Value) (hws : ws.size = 64) (w : World)
    (c0 : w.cell? ⟨B, 0, none⟩ = some (.pointer (some ⟨b, 8, none⟩))) (c1 : w.cell? ⟨B + 1, 0, none⟩ = some (.int .i64 0)) (c2 : w.cell? ⟨B + 1 + 1, 0, none⟩ = some (.int .i64 i)) (hlt : B + 1 + 1 < w.heap.size)
    (hB : Blk w b (setArr N lw rc 1 0 (some ⟨lf, 0, none⟩)) 113) (hL : Blk w lf ws 156) :
    SeqStopsA Fence.wide n Tryd.prog 82 #[.pointer (some ⟨B, 0, none⟩), .pointer (some ⟨B + 1, 0, none⟩), .pointer (some ⟨B + 1 + 1, 0, none⟩)] (wordArgs lf)
      (fun xs => xs = wks (i / 64) (64 - i / 64)) (fun pre => ∃ k, k < 64 - i / 64 ∧ pre = wks (i / 64) (k + 1)) (64 - i / 64) w := fun l J Jx W hW _ _ hY h0 => by
  have d0 := (hW.cell (p := ⟨B, 0, none⟩) (by simp; omega)).trans c0
  have d1 := (hW.cell (p := ⟨B + 1, 0, none⟩) (by simp; omega)).trans c1
  have d2 := (hW.cell (p := ⟨B + 1 + 1, 0, none⟩) hlt).trans c2
  have hB' : Blk W b (setArr N lw rc 1 0 (some ⟨lf, 0, none⟩)) 113 := by unfold Blk; rw [hW.block b hB.lt]; exact hB
  have hL' : Blk W lf ws 156 := by unfold Blk; rw [hW.block lf hL.lt]; exact hL
  have htl := tell_in (n - 1) b lf l N lw rc i hi J Jx (fun pre x W1 hJ hl => YieldAt.anyWide _ (hY pre x W1 hJ hl)) W hB' (by rw [hL'.shape, hws]) h0
  clear hB hL hB' hL'
  refine callsIn_of_wp Tryd.func82 rfl (by trivial) ?_ rfl
  simp only [Tryd.ntmps82, List.size_toArray, List.length_cons, List.length_nil, Nat.reduceAdd, Nat.reduceSub, Array.replicate_succ, Array.replicate_zero, List.push_toArray, List.append_toArray, List.nil_append, List.cons_append]
  gi_wp2_with fail
  refine ⟨trivial, fun h => (by cases h), ?_⟩
  refine htl.mono ?_
  rintro e W3 (⟨rfl, hJ3⟩ | ⟨rfl, k, hk, hJx3⟩)
  · gi_wp2_with fail
    go_end0
    exact ⟨⟨_, rfl⟩, .inl ⟨_, rfl, hJ3⟩⟩
  · gi_wp2_with fail
    go_end0
    exact ⟨⟨_, rfl⟩, .inr ⟨_, ⟨k, hk, rfl⟩, hJx3⟩⟩

/-- The iterator over a set's words, where nothing is laid. -/
theorem words_stops_nil (n : Nat) (b : Nat) (N lw rc : Int) (i : Nat) (hi : i < 4096) (B : Nat) (w : World)
    (c0 : w.cell? ⟨B, 0, none⟩ = some (.pointer (some ⟨b, 8, none⟩))) (c1 : w.cell? ⟨B + 1, 0, none⟩ = some (.int .i64 0)) (c2 : w.cell? ⟨B + 1 + 1, 0, none⟩ = some (.int .i64 i)) (hlt : B + 1 + 1 < w.heap.size)
    (hB : Blk w b (setArr N lw rc 0 0 none) 113) :
    SeqStopsA Fence.wide n Tryd.prog 82 #[.pointer (some ⟨B, 0, none⟩), .pointer (some ⟨B + 1, 0, none⟩), .pointer (some ⟨B + 1 + 1, 0, none⟩)] (wordArgs 0)
      (fun xs => xs = []) (fun _ => False) 0 w := fun l J Jx W hW _ _ _ h0 => by
  have d0 := (hW.cell (p := ⟨B, 0, none⟩) (by simp; omega)).trans c0
  have d1 := (hW.cell (p := ⟨B + 1, 0, none⟩) (by simp; omega)).trans c1
  have d2 := (hW.cell (p := ⟨B + 1 + 1, 0, none⟩) hlt).trans c2
  have hB' : Blk W b (setArr N lw rc 0 0 none) 113 := by unfold Blk; rw [hW.block b hB.lt]; exact hB
  refine callsIn_wide.2 ?_
  show Calls _ _ #[.func (.yield l) #[] #[], .pointer (some ⟨B, 0, none⟩), .pointer (some ⟨B + 1, 0, none⟩), .pointer (some ⟨B + 1 + 1, 0, none⟩)] _ _
  go_enter Tryd.func82, Tryd.ntmps82
  go_wp2_with fail
  refine (tell_nil b N lw rc i hi _ _ hB').mono ?_
  rintro e w' ⟨rfl, rfl⟩
  go_wp2_with fail
  go_end0
  exact ⟨⟨_, rfl⟩, .inl ⟨_, rfl, h0⟩⟩
end Go.Proofs.YtoemfehlnnbjdaaDoor
