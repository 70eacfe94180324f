/- Points: its iterator, where each element is known to be one of the fields that aren't 0; at this seat's numbers. -/
import Derived.Test.YtkjpeacnponcfaaGreatDoorCeB
namespace Go.Proofs.YtkjpeacnponcfaaGreatDoor
open Go Go.RowKit Go.Shelf Go.MuLone Go.RwLone
set_option linter.unusedSimpArgs false
set_option linter.unusedVariables false
attribute [local go_sem] Oper.semAt_some

abbrev InPt (F : Nat → Int) (k : Nat) : Type := { x : Fin 6 // x.val < k ∧ nz F x.val = true }
def ptaArgs {F : Nat → Int} {k : Nat} (x : InPt F k) : Array Value := #[.int .i64 (F x.1.val)]
def ptaVals {F : Nat → Int} {k : Nat} (q : List (InPt F k)) : List Nat := q.map fun x => x.1.val
theorem ptaVals_append {F : Nat → Int} {k : Nat} (p q : List (InPt F k)) : ptaVals (p ++ q) = ptaVals p ++ ptaVals q := by unfold ptaVals; exact List.map_append
theorem ptaVals_length {F : Nat → Int} {k : Nat} (q : List (InPt F k)) : (ptaVals q).length = q.length := by unfold ptaVals; exact List.length_map _
/-- What holds between two fields. -/
def PtaRel (X : ArB) (s : ArS) (B k : Nat) (r : Int) (F : Nat → Int) (J : List (InPt F k) → World → Prop) (v10 : Value) (W : World) : Prop :=
  ArAt W X s ∧ TableAt W ∧ W.cell? ⟨B, 0, none⟩ = some (.pointer (some ⟨X.a, 0, none⟩)) ∧ W.cell? ⟨B + 1, 0, none⟩ = some (.int .i64 r) ∧
    ∃ j : Nat, j ≤ k ∧ v10 = .int .i64 (j : Int) ∧ ∃ q : List (InPt F k), ptaVals q = elems (nz F) j ∧ J q W

set_option maxRecDepth 100000 in
set_option maxHeartbeats 4000000 in
theorem pta1_in (n : Nat) {X : ArB} {s : ArS} (B l k : Nat) (r : Int) (F : Nat → Int) (hO : Reads s r k F) (J Jx : List (InPt F k) → World → Prop) (W : World) (hJa : AbidesFrom W.heap.size J)
    (hY : ∀ pre (x : InPt F k) W1, J pre W1 → pre.length < 6 → YieldAt Fence.wide (n - 1) Tryz.prog l (ptaArgs x) W1 fun e W' =>
      (e = .returned (.bool true) ∧ J (pre ++ [x]) W' ∧ KpPt X B W1 W') ∨ (e = .returned (.bool false) ∧ Jx (pre ++ [x]) W'))
    (hA : ArAt W X s) (hT : TableAt W) (hB0 : W.cell? ⟨B, 0, none⟩ = some (.pointer (some ⟨X.a, 0, none⟩))) (hB1 : W.cell? ⟨B + 1, 0, none⟩ = some (.int .i64 r)) (h0 : J [] W) :
    CallsIn Fence.wide n Tryz.prog 47 #[.func (.yield l) #[] #[], .pointer (some ⟨B, 0, none⟩), .pointer (some ⟨B + 1, 0, none⟩)] W fun e W' => (∃ v, e = .returned v) ∧
      ((∃ xs : List (InPt F k), ptaVals xs = elems (nz F) k ∧ J xs W') ∨ (∃ pre : List (InPt F k), (∃ j, j < k ∧ nz F j = true ∧ ptaVals pre = elems (nz F) (j + 1)) ∧ Jx pre W')) := by
  have hk6 := hO.k6
  refine callsIn_of_wp Tryz.func47 rfl (by trivial) ?_ rfl
  simp only [Tryz.ntmps47, List.size_toArray, List.length_cons, List.length_nil, Nat.reduceAdd, Nat.reduceSub, Array.replicate_succ, Array.replicate_zero, List.push_toArray, List.append_toArray, List.nil_append, List.cons_append]
  have cF := ceFields0 hA hT r (k : Int) hO.n
  gi_wp2_with fail
  refine ⟨trivial, fun h => (by cases h), ?_⟩
  refine (callsIn_wide.2 cF).mono ?_
  rintro e W0 ⟨rfl, hBl⟩
  have hA' := hA.below hBl
  have hT' := hT.below hBl
  have hB0' : W0.cell? ⟨B, 0, none⟩ = some (.pointer (some ⟨X.a, 0, none⟩)) := (hBl.cell (p := ⟨B, 0, none⟩) (World.block_lt_of_cell? W _ hB0)).trans hB0
  have hB1' : W0.cell? ⟨B + 1, 0, none⟩ = some (.int .i64 r) := (hBl.cell (p := ⟨B + 1, 0, none⟩) (World.block_lt_of_cell? W _ hB1)).trans hB1
  have h0' := abides_below hJa h0 hBl
  clear cF hA hT hB0 hB1 h0 hBl
  gi_wp2_with fail
  gi_loopw [10] (fun v10 wr => PtaRel X s B k r F J v10 wr) (fun v10 _ => k - (intOf v10).toNat)
  case atStart => exact ⟨hA', hT', hB0', hB1', 0, by omega, rfl, [], rfl, h0'⟩
  case round =>
    clear hA' hT' hB0' hB1' h0'
    obtain ⟨hA, hT, hB0, hB1, j, hj, rfl, q, hq, hJ⟩ := hrel
    have HQ := Lib.hid hq
    clear hq
    by_cases hlt : j < k
    · have hJ1 : (j : Int) < (k : Int) := by omega
      have cR := ceField0 hA hT r (j : Int) (by rw [hO.n]; omega)
      rw [hO.at_ j hlt] at cR
      obtain ⟨y, hy⟩ : ∃ y, F j = y := ⟨_, rfl⟩
      rw [hy] at cR
      have HY := Lib.hid hy
      clear hy
      generalize fldE s r (j : Int) = e0 at *
      gi_wp2_with fail
      refine ⟨trivial, fun h => (by cases h), ?_⟩
      refine (callsIn_wide.2 cR).mono ?_
      rintro e w4 ⟨rfl, hBl⟩
      have hA4 := hA.below hBl
      have hT4 := hT.below hBl
      have hB04 : w4.cell? ⟨B, 0, none⟩ = some (.pointer (some ⟨X.a, 0, none⟩)) := (hBl.cell (p := ⟨B, 0, none⟩) (World.block_lt_of_cell? wr _ hB0)).trans hB0
      have hB14 : w4.cell? ⟨B + 1, 0, none⟩ = some (.int .i64 r) := (hBl.cell (p := ⟨B + 1, 0, none⟩) (World.block_lt_of_cell? wr _ hB1)).trans hB1
      have hJ4 := abides_below hJa hJ hBl
      clear cR hA hT hB0 hB1 hJ
      by_cases hy0 : y = 0
      · have hnz : nz F j = false := by unfold nz; rw [HY.out, hy0]; rfl
        have HNZ := Lib.hid hnz
        subst hy0
        clear hnz
        gi_wp2_with fail
        refine ⟨fun f h => (by cases h), ?_⟩
        gi_wp2_with fail
        go_roundw
        case rel => exact ⟨hA4, hT4, hB04, hB14, j + 1, by omega, by go_num, q, by rw [elems_no (T := nz F) HNZ.out]; exact HQ.out, hJ4⟩
        case measure => simp [intOf]; omega
      · have hnz : nz F j = true := by unfold nz; rw [HY.out, decide_eq_false hy0]; rfl
        have HNZ := Lib.hid hnz
        have hlen : q.length < 6 := by
          have h1 := congrArg List.length HQ.out
          rw [ptaVals_length] at h1
          have h2 := elems_length (nz F) j
          omega
        have hY' := hY q ⟨⟨j, by omega⟩, hlt, HNZ.out⟩ w4 hJ4 hlen
        unfold ptaArgs at hY'
        rw [show F ((⟨⟨j, by omega⟩, hlt, HNZ.out⟩ : InPt F k).1.val) = y from HY.out] at hY'
        obtain ⟨fn, tmps, assign, body, hy, hY2⟩ := hY'
        clear hJ4 hBl hnz
        gi_wp2_with fail
        refine ⟨fun h => (by cases h), ?_⟩
        refine hY2.mono ?_
        rintro e W3 (⟨rfl, hJ3, hk3⟩ | ⟨rfl, hJx3⟩)
        · obtain ⟨hA3, hT3⟩ := hA4.sameA hT4 hk3
          have hB03 : W3.cell? ⟨B, 0, none⟩ = some (.pointer (some ⟨X.a, 0, none⟩)) := (World.cell?_of_block (w := w4) (a := ⟨B, 0, none⟩) hk3.1.2.1).trans hB04
          have hB13 : W3.cell? ⟨B + 1, 0, none⟩ = some (.int .i64 r) := (World.cell?_of_block (w := w4) (a := ⟨B + 1, 0, none⟩) hk3.1.2.2).trans hB14
          clear hA4 hT4 hB04 hB14 hk3 hy hY2
          gi_wp2_with fail
          go_roundw
          case rel => exact ⟨hA3, hT3, hB03, hB13, j + 1, by omega, by go_num, _, by rw [elems_yes (T := nz F) HNZ.out, ptaVals_append, HQ.out]; rfl, hJ3⟩
          case measure => simp [intOf]; omega
        · gi_wp2_with fail
          refine bodyPost_ret (results_none rfl _ _ _) rfl ?_
          exact ⟨⟨_, rfl⟩, .inr ⟨_, ⟨j, hlt, HNZ.out, by rw [elems_yes (T := nz F) HNZ.out, ptaVals_append, HQ.out]; rfl⟩, hJx3⟩⟩
    · obtain rfl : j = k := by omega
      gi_wp2_with fail
      go_end0
      exact ⟨⟨_, rfl⟩, .inl ⟨q, HQ.out, hJ⟩⟩

/-- The iterator over an object's fields. -/
theorem pta_stops (n : Nat) {X : ArB} {s : ArS} (B k : Nat) (r : Int) (F : Nat → Int) (hO : Reads s r k F) (w : World) (hA : ArAt w X s) (hT : TableAt w) (hB0 : w.cell? ⟨B, 0, none⟩ = some (.pointer (some ⟨X.a, 0, none⟩))) (hB1 : w.cell? ⟨B + 1, 0, none⟩ = some (.int .i64 r)) :
    SeqStopsK Fence.wide n Tryz.prog 47 #[.pointer (some ⟨B, 0, none⟩), .pointer (some ⟨B + 1, 0, none⟩)] (ptaArgs (F := F) (k := k)) (KpPt X B)
      (fun xs : List (InPt F k) => ptaVals xs = elems (nz F) k) (fun pre : List (InPt F k) => ∃ j, j < k ∧ nz F j = true ∧ ptaVals pre = elems (nz F) (j + 1)) 6 w := fun l J Jx W hW hJa _ hY h0 =>
  pta1_in n B l k r F hO J Jx W hJa hY (hA.below hW) (hT.below hW) ((hW.cell (p := ⟨B, 0, none⟩) (World.block_lt_of_cell? w _ hB0)).trans hB0) ((hW.cell (p := ⟨B + 1, 0, none⟩) (World.block_lt_of_cell? w _ hB1)).trans hB1) h0
end Go.Proofs.YtkjpeacnponcfaaGreatDoor
