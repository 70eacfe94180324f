/- law 16's roots: an iterator over a row of references; at this seat's numbers. -/
import Derived.Test.YtooddbhlanjfbaaGreatDoorUn
import Derived.Test.YtooddbhlanjfbaaGreatDoorUk
namespace Go.Proofs.YtooddbhlanjfbaaGreatDoor
open Go Go.RowKit Go.Shelf Go.MuLone Go.RwLone
set_option linter.unusedSimpArgs false
set_option linter.unusedVariables false
attribute [local go_sem] Oper.semAt_some

abbrev InRt (R : List Int) : Type := { i : Nat // i < R.length }
def rtArgs {R : List Int} (x : InRt R) : Array Value := #[.int .i64 (R[x.1]'x.2)]
def rtVals {R : List Int} (q : List (InRt R)) : List Nat := q.map fun x => x.1
theorem rtVals_append {R : List Int} (p q : List (InRt R)) : rtVals (p ++ q) = rtVals p ++ rtVals q := by unfold rtVals; exact List.map_append
theorem rtVals_length {R : List Int} (q : List (InRt R)) : (rtVals q).length = q.length := by unfold rtVals; exact List.length_map _
/-- What was told. -/
def rtL {R : List Int} (q : List (InRt R)) : List Int := q.map fun x => R[x.1]'x.2
theorem rtL_snoc {R : List Int} (q : List (InRt R)) (x : InRt R) : rtL (q ++ [x]) = rtL q ++ [R[x.1]'x.2] := by unfold rtL; exact List.map_append
theorem rtL_all {R : List Int} {q : List (InRt R)} (h : rtVals q = List.range R.length) : rtL q = R := by
  have hl : q.length = R.length := by rw [← rtVals_length, h, List.length_range]
  apply List.ext_getElem?
  intro i
  unfold rtL
  rw [List.getElem?_map]
  by_cases h2 : i < R.length
  · have h3 : (rtVals q)[i]? = some i := by rw [h, List.getElem?_range h2]
    unfold rtVals at h3
    rw [List.getElem?_map] at h3
    have h4 : i < q.length := by omega
    rw [List.getElem?_eq_getElem h4] at h3 ⊢
    have h5 : (q[i]).1 = i := by simpa using h3
    rw [List.getElem?_eq_getElem h2]
    show some (R[(q[i]).1]'(q[i]).2) = some R[i]
    congr 1
    exact getElem_congr_idx h5
  · rw [List.getElem?_eq_none (by omega), List.getElem?_eq_none (by omega)]; rfl
/-- The box and the row stay. -/
def KpRt (B : Nat) (v : Value) (W W' : World) : Prop := W'.heap[B]? = W.heap[B]? ∧ ∀ k, v.ownBlock = some k → W'.heap[k]? = W.heap[k]?
theorem KpRt.trans {B : Nat} {v : Value} {A C D : World} (h : KpRt B v A C) (k : KpRt B v C D) : KpRt B v A D := ⟨k.1.trans h.1, fun j e => (k.2 j e).trans (h.2 j e)⟩
theorem KpRt.putObj {B n0 : Nat} {v : Value} (hB : B < n0) (hv : ∀ k, v.ownBlock = some k → k < n0) (W : World) (l : Nat) (o : Obj) (hl : n0 ≤ l) : KpRt B v W (W.putObj l o) :=
  ⟨World.putObj_heap_other (by omega), fun k e => World.putObj_heap_other (by have := hv k e; omega)⟩
def RtRel (R : List Int) (v : Value) (B : Nat) (J : List (InRt R) → World → Prop) (v7 : Value) (W : World) : Prop :=
  RefRow W v R ∧ W.cell? ⟨B, 0, none⟩ = some v ∧ ∃ j : Nat, j ≤ R.length ∧ v7 = .int .i64 (j : Int) ∧ ∃ q : List (InRt R), rtVals q = List.range j ∧ J q W
set_option maxRecDepth 100000 in
set_option maxHeartbeats 4000000 in
theorem rt1_in (n : Nat) (R : List Int) (v : Value) (B l : Nat) (J Jx : List (InRt R) → World → Prop) (W : World) (hJa : AbidesFrom W.heap.size J)
    (hY : ∀ pre (x : InRt R) W1, J pre W1 → pre.length < R.length → YieldAt Fence.wide (n - 1) Tryz.prog l (rtArgs x) W1 fun e W' =>
      (e = .returned (.bool true) ∧ J (pre ++ [x]) W' ∧ KpRt B v W1 W') ∨ (e = .returned (.bool false) ∧ Jx (pre ++ [x]) W'))
    (hR : RefRow W v R) (hB0 : W.cell? ⟨B, 0, none⟩ = some v) (h0 : J [] W) :
    CallsIn Fence.wide n Tryz.prog 53 #[.func (.yield l) #[] #[], .pointer (some ⟨B, 0, none⟩)] W fun e W' => (∃ v, e = .returned v) ∧
      ((∃ xs : List (InRt R), rtVals xs = List.range R.length ∧ J xs W') ∨ (∃ pre : List (InRt R), True ∧ Jx pre W')) := by
  refine callsIn_of_wp Tryz.func53 rfl (by trivial) ?_ rfl
  simp only [Tryz.ntmps53, List.size_toArray, List.length_cons, List.length_nil, Nat.reduceAdd, Nat.reduceSub, Array.replicate_succ, Array.replicate_zero, List.push_toArray, List.append_toArray, List.nil_append, List.cons_append]
  have hlen := hR.lenRun 3
  obtain ⟨m, hm⟩ : ∃ m, R.length = m := ⟨_, rfl⟩
  rw [hm] at hlen
  have HM := Lib.hid hm
  clear hm
  gi_wp2_with fail
  clear hlen
  gi_loopw [7] (fun v7 wr => RtRel R v B J v7 wr) (fun v7 _ => m - (intOf v7).toNat)
  case atStart => exact ⟨hR, hB0, 0, Nat.zero_le _, rfl, [], rfl, h0⟩
  case round =>
    clear hR hB0 h0
    obtain ⟨hR, hB0, j, hj, rfl, q, hq, hJ⟩ := hrel
    rw [HM.out] at hj
    have hj0 : (0 : Int) ≤ (j : Int) := by omega
    have HQ := Lib.hid hq
    clear hq
    by_cases hlt : j < m
    · have hJ1 : (j : Int) < (m : Int) := by omega
      have hjR : j < R.length := by rw [HM.out]; exact hlt
      obtain ⟨y, hy⟩ : ∃ y, R[j]'hjR = y := ⟨_, rfl⟩
      rcases hR.is with ⟨_, e⟩ | ⟨g, cap, cur, hv, hg, hlc, hcm, hcs, hcell⟩
      · rw [e] at hjR; exact absurd hjR (by simp)
      have hca := hcell j hjR
      rw [hy] at hca
      rw [HM.out] at hv
      have hlenq : q.length < R.length := by
        have h1 := congrArg List.length HQ.out
        rw [rtVals_length, List.length_range] at h1
        omega
      have hY' := hY q ⟨j, hjR⟩ wr hJ hlenq
      unfold rtArgs at hY'
      rw [show R[(⟨j, hjR⟩ : InRt R).1]'(⟨j, hjR⟩ : InRt R).2 = y from hy] at hY'
      obtain ⟨fn, tmps, assign, body, hyy, hY2⟩ := hY'
      have HR := Lib.hid (And.intro hR (And.intro hB0 (And.intro hy hv)))
      have hsub := HR.out.2.2.2
      have hmx : m ≤ 9223372036854775807 := by have := HM.out; omega
      subst hsub
      clear hg hlc hcm hcs hcell hlenq hJ hR hB0 hy
      gi_wp2_with fail
      refine ⟨fun h => (by cases h), ?_⟩
      refine hY2.mono ?_
      rintro e W3 (⟨rfl, hJ3, hk3⟩ | ⟨rfl, hJx3⟩)
      · have hR3 := HR.out.1.keepG (fun k e => hk3.2 k e)
        have hB3 := (World.cell?_of_block (a := ⟨B, 0, none⟩) hk3.1).trans HR.out.2.1
        clear hk3 hyy hY2 hca
        gi_wp2_with fail
        go_roundw
        case rel => exact ⟨hR3, hB3, j + 1, by rw [HM.out]; omega, by go_num, _, by rw [rtVals_append, HQ.out, List.range_succ]; rfl, hJ3⟩
        case measure => simp [intOf]; omega
      · gi_wp2_with fail
        refine bodyPost_ret (results_none rfl _ _ _) rfl ?_
        exact ⟨⟨_, rfl⟩, .inr ⟨_, trivial, hJx3⟩⟩
    · have hJ1 : ¬ (j : Int) < (m : Int) := by omega
      have hjm : j = m := by omega
      have HE := Lib.hid (And.intro hjm hJ)
      clear hjm hJ hR hB0
      gi_wp2_with fail
      go_end0
      exact ⟨⟨_, rfl⟩, .inl ⟨q, by rw [HQ.out, HM.out, HE.out.1], HE.out.2⟩⟩
/-- The iterator. -/
theorem rt_stops (n : Nat) (R : List Int) (v : Value) (B : Nat) (w : World) (hR : RefRow w v R) (hB0 : w.cell? ⟨B, 0, none⟩ = some v) :
    SeqStopsK Fence.wide n Tryz.prog 53 #[.pointer (some ⟨B, 0, none⟩)] (rtArgs (R := R)) (KpRt B v) (fun xs => rtVals xs = List.range R.length) (fun _ => True) R.length w := fun l J Jx W hW hJa _ hY h0 =>
  rt1_in n R v B l J Jx W hJa hY (hR.keepG fun k e => hW.block k (hR.lt e)) ((hW.cell (p := ⟨B, 0, none⟩) (World.block_lt_of_cell? w _ hB0)).trans hB0) h0
end Go.Proofs.YtooddbhlanjfbaaGreatDoor
