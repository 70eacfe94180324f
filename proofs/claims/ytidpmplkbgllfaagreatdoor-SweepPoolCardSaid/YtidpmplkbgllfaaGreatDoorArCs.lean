/- Cells' iterator, each element known to be taken; at this seat's numbers. -/
import Derived.Test.YtidpmplkbgllfaaGreatDoorUc
namespace Go.Proofs.YtidpmplkbgllfaaGreatDoor
open Go Go.RowKit Go.Shelf Go.MuLone Go.RwLone
set_option linter.unusedSimpArgs false
set_option linter.unusedVariables false
attribute [local go_sem] Oper.semAt_some

/-- A taken cell's place in page p. -/
abbrev InPg (S : Nat → Bool) (p : Nat) : Type := { x : Fin 32 // S (32 * p + x.val + 1) = true }
def pgArgs {S : Nat → Bool} {p : Nat} (x : InPg S p) : Array Value := #[.int .i64 ((32 * p + x.1.val + 1 : Nat) : Int)]
def pgVals {S : Nat → Bool} {p : Nat} (q : List (InPg S p)) : List Nat := q.map fun x => x.1.val
def PgRel (X : ArB) (s : ArS) (B p : Nat) (J : List (InPg s.S p) → World → Prop) (v10 : Value) (W : World) : Prop :=
  ArMem W X s ∧ W.cell? ⟨B, 0, none⟩ = some (.pointer (some ⟨X.a, 0, none⟩)) ∧ W.cell? ⟨B + 1, 0, none⟩ = some (.int .i64 (p : Int)) ∧
    ∃ j : Nat, j ≤ 32 ∧ v10 = .int .i64 (j : Int) ∧ ∃ q : List (InPg s.S p), pgVals q = elems (inPage s.S p) j ∧ J q W

set_option maxRecDepth 100000 in
set_option maxHeartbeats 4000000 in
theorem pg1_in (n : Nat) {X : ArB} {s : ArS} (B l p : Nat) (hp : p < s.P) (J Jx : List (InPg s.S p) → World → Prop) (W : World) (hJa : AbidesFrom W.heap.size J)
    (hY : ∀ pre (x : InPg s.S p) W1, J pre W1 → pre.length < 32 → YieldAt Fence.wide (n - 1) Tryz.prog l (pgArgs x) W1 fun e W' =>
      (e = .returned (.bool true) ∧ J (pre ++ [x]) W' ∧ KpAr X B W1 W') ∨ (e = .returned (.bool false) ∧ Jx (pre ++ [x]) W'))
    (hA : ArMem W X s) (hB0 : W.cell? ⟨B, 0, none⟩ = some (.pointer (some ⟨X.a, 0, none⟩))) (hB1 : W.cell? ⟨B + 1, 0, none⟩ = some (.int .i64 (p : Int))) (h0 : J [] W) :
    CallsIn Fence.wide n Tryz.prog 44 #[.func (.yield l) #[] #[], .pointer (some ⟨B, 0, none⟩), .pointer (some ⟨B + 1, 0, none⟩)] W fun e W' => (∃ v, e = .returned v) ∧
      ((∃ xs : List (InPg s.S p), pgVals xs = elems (inPage s.S p) 32 ∧ J xs W') ∨ (∃ pre : List (InPg s.S p), (∃ j, inPage s.S p j = true ∧ pgVals pre = elems (inPage s.S p) (j + 1)) ∧ Jx pre W')) := by
  have hp64 := hA.p64
  refine callsIn_of_wp Tryz.func44 rfl (by trivial) ?_ rfl
  simp only [Tryz.ntmps44, List.size_toArray, List.length_cons, List.length_nil, Nat.reduceAdd, Nat.reduceSub, Array.replicate_succ, Array.replicate_zero, List.push_toArray, List.append_toArray, List.nil_append, List.cons_append]
  have cK := knowsP_any hA (p : Int)
  rw [decide_eq_true (by omega)] at cK
  gi_wp2_with fail
  refine ⟨trivial, fun h => (by cases h), ?_⟩
  refine (callsIn_wide.2 cK).mono ?_
  rintro e w' ⟨rfl, rfl⟩
  clear cK
  gi_wp2_with fail
  gi_loopw [10] (fun v10 wr => PgRel X s B p J v10 wr) (fun v10 _ => 32 - (intOf v10).toNat)
  case atStart => exact ⟨hA, hB0, hB1, 0, by omega, rfl, [], rfl, h0⟩
  case round =>
    clear hA hB0 hB1
    obtain ⟨hA, hB0, hB1, j, hj, rfl, q, hq, hJ⟩ := hrel
    have HQ := Lib.hid hq
    clear hq
    by_cases hlt : j < 32
    · have hJ1 : (j : Int) < 32 := by omega
      have cR := ref_any (w := wr) (p : Int) (j : Int) (by omega) (by omega) (by omega) (by omega)
      gi_wp2_with fail
      refine ⟨trivial, fun h => (by cases h), ?_⟩
      refine (callsIn_wide.2 cR).mono ?_
      rintro e w' ⟨rfl, rfl⟩
      clear cR
      gi_wp2_with fail
      refine ⟨trivial, fun h => (by cases h), ?_⟩
      cases hS : s.S (32 * p + j + 1) with
      | false =>
        have HS := Lib.hid hS
        clear hS
        refine (callsIn_wide.2 (hasW hA (32 * p + j + 1) _ false (by omega) HS.out)).mono ?_
        rintro e w4 ⟨rfl, hBl⟩
        have hA4 := hA.below hBl
        have hB04 : w4.cell? ⟨B, 0, none⟩ = some (.pointer (some ⟨X.a, 0, none⟩)) := (hBl.cell (p := ⟨B, 0, none⟩) (World.block_lt_of_cell? wr _ hB0)).trans hB0
        have hB14 : w4.cell? ⟨B + 1, 0, none⟩ = some (.int .i64 (p : Int)) := (hBl.cell (p := ⟨B + 1, 0, none⟩) (World.block_lt_of_cell? wr _ hB1)).trans hB1
        have hJ4 := abides_below hJa hJ hBl
        clear hA hB0 hB1 hJ
        gi_wp2_with fail
        refine ⟨fun f h => (by cases h), ?_⟩
        gi_wp2_with fail
        go_roundw
        case rel => exact ⟨hA4, hB04, hB14, j + 1, by omega, by go_num, q, by rw [elems_no (T := inPage s.S p) HS.out]; exact HQ.out, hJ4⟩
        case measure => simp [intOf]; omega
      | true =>
        have HS := Lib.hid hS
        clear hS
        refine (callsIn_wide.2 (hasW hA (32 * p + j + 1) _ true (by omega) HS.out)).mono ?_
        rintro e w4 ⟨rfl, hBl⟩
        have hA4 := hA.below hBl
        have hB04 : w4.cell? ⟨B, 0, none⟩ = some (.pointer (some ⟨X.a, 0, none⟩)) := (hBl.cell (p := ⟨B, 0, none⟩) (World.block_lt_of_cell? wr _ hB0)).trans hB0
        have hB14 : w4.cell? ⟨B + 1, 0, none⟩ = some (.int .i64 (p : Int)) := (hBl.cell (p := ⟨B + 1, 0, none⟩) (World.block_lt_of_cell? wr _ hB1)).trans hB1
        have hJ4 := abides_below hJa hJ hBl
        have hlen : q.length < 32 := by
          have h1 := congrArg List.length HQ.out
          unfold pgVals at h1
          rw [List.length_map] at h1
          have h2 := elems_length (inPage s.S p) j
          omega
        have hY' := hY q ⟨⟨j, hlt⟩, HS.out⟩ w4 hJ4 hlen
        unfold pgArgs at hY'
        rw [show ((32 * p + ((⟨⟨j, hlt⟩, HS.out⟩ : InPg s.S p)).1.val + 1 : Nat) : Int) = (p : Int) * 32 + (j : Int) + 1 by show ((32 * p + j + 1 : Nat) : Int) = _; omega] at hY'
        obtain ⟨fn, tmps, assign, body, hy, hY2⟩ := hY'
        clear hA hB0 hB1 hJ hJ4 hBl
        gi_wp2_with fail
        refine ⟨fun h => (by cases h), ?_⟩
        refine hY2.mono ?_
        rintro e W3 (⟨rfl, hJ3, hk3⟩ | ⟨rfl, hJx3⟩)
        · have hA3 := hA4.same hk3.1
          have hB03 : W3.cell? ⟨B, 0, none⟩ = some (.pointer (some ⟨X.a, 0, none⟩)) := (World.cell?_of_block (w := w4) (a := ⟨B, 0, none⟩) hk3.2.1).trans hB04
          have hB13 : W3.cell? ⟨B + 1, 0, none⟩ = some (.int .i64 (p : Int)) := (World.cell?_of_block (w := w4) (a := ⟨B + 1, 0, none⟩) hk3.2.2).trans hB14
          clear hA4 hB04 hB14 hk3 hy hY2
          gi_wp2_with fail
          go_roundw
          case rel => exact ⟨hA3, hB03, hB13, j + 1, by omega, by go_num, _, by unfold pgVals; rw [elems_yes (T := inPage s.S p) HS.out, List.map_append]; unfold pgVals at HQ; rw [HQ.out]; rfl, hJ3⟩
          case measure => simp [intOf]; omega
        · gi_wp2_with fail
          refine bodyPost_ret (results_none rfl _ _ _) rfl ?_
          exact ⟨⟨_, rfl⟩, .inr ⟨_, ⟨j, HS.out, by unfold pgVals; rw [elems_yes (T := inPage s.S p) HS.out, List.map_append]; unfold pgVals at HQ; rw [HQ.out]; rfl⟩, hJx3⟩⟩
    · obtain rfl : j = 32 := by omega
      gi_wp2_with fail
      go_end0
      exact ⟨⟨_, rfl⟩, .inl ⟨q, HQ.out, hJ⟩⟩
/-- The iterator over a page's cells. -/
theorem pg_stops (n : Nat) {X : ArB} {s : ArS} (B p : Nat) (hp : p < s.P) (w : World) (hA : ArMem w X s) (hB0 : w.cell? ⟨B, 0, none⟩ = some (.pointer (some ⟨X.a, 0, none⟩))) (hB1 : w.cell? ⟨B + 1, 0, none⟩ = some (.int .i64 (p : Int))) :
    SeqStopsK Fence.wide n Tryz.prog 44 #[.pointer (some ⟨B, 0, none⟩), .pointer (some ⟨B + 1, 0, none⟩)] (pgArgs (S := s.S) (p := p)) (KpAr X B)
      (fun xs => pgVals xs = elems (inPage s.S p) 32) (fun pre => ∃ j, inPage s.S p j = true ∧ pgVals pre = elems (inPage s.S p) (j + 1)) 32 w := fun l J Jx W hW hJa _ hY h0 =>
  pg1_in n B l p hp J Jx W hJa hY (hA.below hW) ((hW.cell (p := ⟨B, 0, none⟩) (World.block_lt_of_cell? w _ hB0)).trans hB0) ((hW.cell (p := ⟨B + 1, 0, none⟩) (World.block_lt_of_cell? w _ hB1)).trans hB1) h0
end Go.Proofs.YtidpmplkbgllfaaGreatDoor
