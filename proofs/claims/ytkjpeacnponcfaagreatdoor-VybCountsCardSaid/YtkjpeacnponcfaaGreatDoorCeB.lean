/- Points: the iterator over an object's fields that aren't 0, at this seat's numbers. -/
import Derived.Test.YtkjpeacnponcfaaGreatDoorCeA
namespace Go.Proofs.YtkjpeacnponcfaaGreatDoor
open Go Go.RowKit Go.Shelf Go.MuLone Go.RwLone
set_option linter.unusedSimpArgs false
set_option linter.unusedVariables false
attribute [local go_sem] Oper.semAt_some

theorem ptsfn_any (a : Nat) (r : Int) (w : World) :
    Calls Tryz.prog 28 #[.pointer (some ⟨a, 0, none⟩), .int .i64 r] w fun e w' => e = .returned (.func (.func 47) #[] #[.pointer (some ⟨w.heap.size, 0, none⟩), .pointer (some ⟨w.heap.size + 1, 0, none⟩)]) ∧ (w.alloc (.cells #[.pointer (some ⟨a, 0, none⟩)] 28)).alloc (.cells #[.int .i64 r] 39) = w' := by
  go_enter Tryz.func28, Tryz.ntmps28
  go_wp2_with fail
  go_ret
  exact ⟨rfl, rfl⟩

/-- What a round over an object's fields keeps: the arena, the closure's boxes, the classes' table. -/
def KpPt (X : ArB) (B : Nat) (W W' : World) : Prop := KpAr X B W W' ∧ W'.heap[(0 : Nat)]? = W.heap[(0 : Nat)]?
theorem KpPt.trans {X : ArB} {B : Nat} {A C D : World} (h : KpPt X B A C) (k : KpPt X B C D) : KpPt X B A D := ⟨h.1.trans k.1, k.2.trans h.2⟩
theorem KpPt.putObj {X : ArB} {B : Nat} {n0 : Nat} (hX : ∀ k, X.has k → k < n0) (hB : B + 1 < n0) (hg : (0 : Nat) < n0) (W : World) (l : Nat) (o : Obj) (h : n0 ≤ l) : KpPt X B W (W.putObj l o) :=
  ⟨KpAr.putObj hX hB W l o h, World.putObj_heap_other (by omega)⟩
theorem KpPt.ofBelow {X : ArB} {B : Nat} {n0 : Nat} {W W' : World} (h : Below n0 W W') (hX : ∀ k, X.has k → k < n0) (hB : B + 1 < n0) (hg : (0 : Nat) < n0) : KpPt X B W W' :=
  ⟨KpAr.ofBelow h hX hB, h.block _ hg⟩

def nz (F : Nat → Int) (j : Nat) : Bool := !decide (F j = 0)
def ptArgs (F : Nat → Int) (x : Fin 6) : Array Value := #[.int .i64 (F x.val)]
/-- What is read of an object, or of none: k fields, which are F. -/
structure Reads (s : ArS) (r : Int) (k : Nat) (F : Nat → Int) : Prop where
  n : wordI s r 0 = (k : Int)
  k6 : k ≤ 6
  at_ : ∀ i : Nat, i < k → fldV s r (i : Int) = F i
theorem ObjAt.fldE {s : ArS} {r k : Nat} {v : Int} {F : Nat → Int} (h : ObjAt s r k v F) (hF : Fits s) {i : Nat} (hi : i < k) : fldE s (r : Int) (i : Int) = 0 := by
  unfold Go.Proofs.YtkjpeacnponcfaaGreatDoor.fldE
  rw [if_neg (by have := (h.pos hF).1; omega), h.fields hF, if_neg (by omega)]
theorem ObjAt.reads {s : ArS} {r k : Nat} {v : Int} {F : Nat → Int} (h : ObjAt s r k v F) (hF : Fits s) : Reads s (r : Int) k F :=
  ⟨h.fields hF, h.k6 hF, fun i hi => by unfold fldV; rw [if_pos (h.fldE hF hi)]; exact h.field hF hi⟩
theorem reads_nil {s : ArS} (hF : Fits s) : Reads s 0 0 (fun _ => 0) := ⟨wordI_nil hF 0, by omega, fun i hi => absurd hi (by omega)⟩

/-- What holds between two fields. -/
def PtRel (X : ArB) (s : ArS) (B k : Nat) (r : Int) (F : Nat → Int) (J : List (Fin 6) → World → Prop) (v10 : Value) (W : World) : Prop :=
  ArAt W X s ∧ TableAt W ∧ W.cell? ⟨B, 0, none⟩ = some (.pointer (some ⟨X.a, 0, none⟩)) ∧ W.cell? ⟨B + 1, 0, none⟩ = some (.int .i64 r) ∧
    ∃ j : Nat, j ≤ k ∧ v10 = .int .i64 (j : Int) ∧ ∃ q : List (Fin 6), q.map Fin.val = elems (nz F) j ∧ J q W

theorem ArAt.sameA {w w' : World} {X : ArB} {s : ArS} (h : ArAt w X s) (hT : TableAt w) {B : Nat} (k : KpPt X B w w') : ArAt w' X s ∧ TableAt w' := by
  refine ⟨h.same k.1.1, ?_⟩
  obtain ⟨T, fr, hT⟩ := hT
  exact ⟨T, fr, k.2.trans hT⟩

set_option maxRecDepth 100000 in
set_option maxHeartbeats 4000000 in
theorem pts1_in (n : Nat) {X : ArB} {s : ArS} (B l k : Nat) (r : Int) (F : Nat → Int) (hO : Reads s r k F) (J Jx : List (Fin 6) → World → Prop) (W : World) (hJa : AbidesFrom W.heap.size J)
    (hY : ∀ pre (x : Fin 6) W1, J pre W1 → pre.length < 6 → YieldAt Fence.wide (n - 1) Tryz.prog l (ptArgs F x) W1 fun e W' =>
      (e = .returned (.bool true) ∧ J (pre ++ [x]) W' ∧ KpPt X B W1 W') ∨ (e = .returned (.bool false) ∧ Jx (pre ++ [x]) W'))
    (hA : ArAt W X s) (hT : TableAt W) (hB0 : W.cell? ⟨B, 0, none⟩ = some (.pointer (some ⟨X.a, 0, none⟩))) (hB1 : W.cell? ⟨B + 1, 0, none⟩ = some (.int .i64 r)) (h0 : J [] W) :
    CallsIn Fence.wide n Tryz.prog 47 #[.func (.yield l) #[] #[], .pointer (some ⟨B, 0, none⟩), .pointer (some ⟨B + 1, 0, none⟩)] W fun e W' => (∃ v, e = .returned v) ∧
      ((∃ xs : List (Fin 6), xs.map Fin.val = elems (nz F) k ∧ J xs W') ∨ (∃ pre : List (Fin 6), (∃ j, j < k ∧ nz F j = true ∧ pre.map Fin.val = elems (nz F) (j + 1)) ∧ Jx pre W')) := by
  have hk6 := hO.k6
  refine callsIn_of_wp Tryz.func47 rfl (by trivial) ?_ rfl
  simp only [Tryz.ntmps47, List.size_toArray, List.length_cons, List.length_nil, Nat.reduceAdd, Nat.reduceSub, Array.replicate_succ, Array.replicate_zero, List.push_toArray, List.append_toArray, List.nil_append, List.cons_append]
  have cF := ceFields0 hA hT r (k : Int) hO.n
  gi_wp2_with fail
  refine ⟨trivial, fun h => (by cases h), ?_⟩
  refine (callsIn_wide.2 cF).mono ?_
  rintro e W0 ⟨rfl, hBl⟩
  have hA' := hA.below hBl
  have hT' := hT.below hBl
  have hB0' : W0.cell? ⟨B, 0, none⟩ = some (.pointer (some ⟨X.a, 0, none⟩)) := (hBl.cell (p := ⟨B, 0, none⟩) (World.block_lt_of_cell? W _ hB0)).trans hB0
  have hB1' : W0.cell? ⟨B + 1, 0, none⟩ = some (.int .i64 r) := (hBl.cell (p := ⟨B + 1, 0, none⟩) (World.block_lt_of_cell? W _ hB1)).trans hB1
  have h0' := abides_below hJa h0 hBl
  clear cF hA hT hB0 hB1 h0 hBl
  gi_wp2_with fail
  gi_loopw [10] (fun v10 wr => PtRel X s B k r F J v10 wr) (fun v10 _ => k - (intOf v10).toNat)
  case atStart => exact ⟨hA', hT', hB0', hB1', 0, by omega, rfl, [], rfl, h0'⟩
  case round =>
    clear hA' hT' hB0' hB1' h0'
    obtain ⟨hA, hT, hB0, hB1, j, hj, rfl, q, hq, hJ⟩ := hrel
    have HQ := Lib.hid hq
    clear hq
    by_cases hlt : j < k
    · have hJ1 : (j : Int) < (k : Int) := by omega
      have cR := ceField0 hA hT r (j : Int) (by rw [hO.n]; omega)
      rw [hO.at_ j hlt] at cR
      obtain ⟨y, hy⟩ : ∃ y, F j = y := ⟨_, rfl⟩
      rw [hy] at cR
      have HY := Lib.hid hy
      clear hy
      generalize fldE s r (j : Int) = e0 at *
      gi_wp2_with fail
      refine ⟨trivial, fun h => (by cases h), ?_⟩
      refine (callsIn_wide.2 cR).mono ?_
      rintro e w4 ⟨rfl, hBl⟩
      have hA4 := hA.below hBl
      have hT4 := hT.below hBl
      have hB04 : w4.cell? ⟨B, 0, none⟩ = some (.pointer (some ⟨X.a, 0, none⟩)) := (hBl.cell (p := ⟨B, 0, none⟩) (World.block_lt_of_cell? wr _ hB0)).trans hB0
      have hB14 : w4.cell? ⟨B + 1, 0, none⟩ = some (.int .i64 r) := (hBl.cell (p := ⟨B + 1, 0, none⟩) (World.block_lt_of_cell? wr _ hB1)).trans hB1
      have hJ4 := abides_below hJa hJ hBl
      clear cR hA hT hB0 hB1 hJ
      by_cases hy0 : y = 0
      · have hnz : nz F j = false := by unfold nz; rw [HY.out, hy0]; rfl
        have HNZ := Lib.hid hnz
        subst hy0
        clear hnz
        gi_wp2_with fail
        refine ⟨fun f h => (by cases h), ?_⟩
        gi_wp2_with fail
        go_roundw
        case rel => exact ⟨hA4, hT4, hB04, hB14, j + 1, by omega, by go_num, q, by rw [elems_no (T := nz F) HNZ.out]; exact HQ.out, hJ4⟩
        case measure => simp [intOf]; omega
      · have hnz : nz F j = true := by unfold nz; rw [HY.out, decide_eq_false hy0]; rfl
        have HNZ := Lib.hid hnz
        have hlen : q.length < 6 := by
          have h1 := congrArg List.length HQ.out
          rw [List.length_map] at h1
          have h2 := elems_length (nz F) j
          omega
        have hY' := hY q ⟨j, by omega⟩ w4 hJ4 hlen
        unfold ptArgs at hY'
        rw [show F (⟨j, by omega⟩ : Fin 6).val = y from HY.out] at hY'
        obtain ⟨fn, tmps, assign, body, hy, hY2⟩ := hY'
        clear hJ4 hBl hnz
        gi_wp2_with fail
        refine ⟨fun h => (by cases h), ?_⟩
        refine hY2.mono ?_
        rintro e W3 (⟨rfl, hJ3, hk3⟩ | ⟨rfl, hJx3⟩)
        · obtain ⟨hA3, hT3⟩ := hA4.sameA hT4 hk3
          have hB03 : W3.cell? ⟨B, 0, none⟩ = some (.pointer (some ⟨X.a, 0, none⟩)) := (World.cell?_of_block (w := w4) (a := ⟨B, 0, none⟩) hk3.1.2.1).trans hB04
          have hB13 : W3.cell? ⟨B + 1, 0, none⟩ = some (.int .i64 r) := (World.cell?_of_block (w := w4) (a := ⟨B + 1, 0, none⟩) hk3.1.2.2).trans hB14
          clear hA4 hT4 hB04 hB14 hk3 hy hY2
          gi_wp2_with fail
          go_roundw
          case rel => exact ⟨hA3, hT3, hB03, hB13, j + 1, by omega, by go_num, _, by rw [elems_yes (T := nz F) HNZ.out, List.map_append, HQ.out]; rfl, hJ3⟩
          case measure => simp [intOf]; omega
        · gi_wp2_with fail
          refine bodyPost_ret (results_none rfl _ _ _) rfl ?_
          exact ⟨⟨_, rfl⟩, .inr ⟨_, ⟨j, hlt, HNZ.out, by rw [elems_yes (T := nz F) HNZ.out, List.map_append, HQ.out]; rfl⟩, hJx3⟩⟩
    · obtain rfl : j = k := by omega
      gi_wp2_with fail
      go_end0
      exact ⟨⟨_, rfl⟩, .inl ⟨q, HQ.out, hJ⟩⟩

/-- The iterator over an object's fields. -/
theorem pts_stops (n : Nat) {X : ArB} {s : ArS} (B k : Nat) (r : Int) (F : Nat → Int) (hO : Reads s r k F) (w : World) (hA : ArAt w X s) (hT : TableAt w) (hB0 : w.cell? ⟨B, 0, none⟩ = some (.pointer (some ⟨X.a, 0, none⟩))) (hB1 : w.cell? ⟨B + 1, 0, none⟩ = some (.int .i64 r)) :
    SeqStopsK Fence.wide n Tryz.prog 47 #[.pointer (some ⟨B, 0, none⟩), .pointer (some ⟨B + 1, 0, none⟩)] (ptArgs F) (KpPt X B)
      (fun xs => xs.map Fin.val = elems (nz F) k) (fun pre => ∃ j, j < k ∧ nz F j = true ∧ pre.map Fin.val = elems (nz F) (j + 1)) 6 w := fun l J Jx W hW hJa _ hY h0 =>
  pts1_in n B l k r F hO J Jx W hJa hY (hA.below hW) (hT.below hW) ((hW.cell (p := ⟨B, 0, none⟩) (World.block_lt_of_cell? w _ hB0)).trans hB0) ((hW.cell (p := ⟨B + 1, 0, none⟩) (World.block_lt_of_cell? w _ hB1)).trans hB1) h0
end Go.Proofs.YtkjpeacnponcfaaGreatDoor
