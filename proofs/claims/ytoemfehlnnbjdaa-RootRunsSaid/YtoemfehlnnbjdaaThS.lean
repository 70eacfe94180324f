/- Roots: the stack's part, and the whole; at this seat's numbers. -/
import Derived.Test.YtoemfehlnnbjdaaThR
namespace Go.Proofs.Ytoemfehlnnbjdaa
open Go Go.RowKit Go.Shelf
set_option linter.unusedSimpArgs false
set_option linter.unusedVariables false
attribute [local go_sem] Oper.semAt_some

def nz (l : List Int) : List Int := l.filter (fun r => r != 0)
theorem nz_next {st : List Int} {i : Nat} {r : Int} (h : st[i]? = some r) : nz (st.take (i + 1)) = nz (st.take i) ++ (if r = 0 then [] else [r]) := by
  unfold nz
  rw [List.take_add_one, h, List.filter_append]
  by_cases h0 : r = 0
  · subst h0; simp
  · simp [h0]
theorem nz_take {st : List Int} {i : Nat} {r : Int} (h : st[i]? = some r) (h0 : r ≠ 0) : (nz (st.take i)).length < (nz st).length ∧ (nz st).take ((nz (st.take i)).length + 1) = nz (st.take (i + 1)) := by
  have e := nz_next h
  rw [if_neg h0] at e
  have e2 : nz st = nz (st.take (i + 1)) ++ nz (st.drop (i + 1)) := by
    unfold nz; rw [← List.filter_append, List.take_append_drop]
  have hl : (nz (st.take (i + 1))).length = (nz (st.take i)).length + 1 := by rw [e]; simp
  refine ⟨by rw [e2, List.length_append]; omega, ?_⟩
  rw [e2, ← hl]; exact List.take_left

set_option maxRecDepth 100000 in
set_option maxHeartbeats 4000000 in
theorem tellStack_in (n : Nat) {T : ThB} {regs room : Int} {f : Nat → Int} {st : List Int} (B b0 l : Nat) (J Jx : List Int → World → Prop) (W : World) (hb : b0 ≤ W.heap.size) (hJa : AbidesFrom W.heap.size J)
    (hY : ∀ pre (x : Int) W1, J pre W1 → pre.length < 100000 → YieldAt Fence.wide (n - 1) Try.prog l #[.int .i64 x] W1 fun e W' =>
      (e = .returned (.bool true) ∧ J (pre ++ [x]) W' ∧ KpTh T B b0 W1 W') ∨ (e = .returned (.bool false) ∧ Jx (pre ++ [x]) W'))
    (hA : ThAt W T regs room f st) (hB : B < W.heap.size) (p0 : List Int) (hp0 : p0.length ≤ 5000) (h0 : J p0 W) :
    CallsIn Fence.wide n Try.prog 39 #[.pointer (some ⟨T.t, 0, none⟩), .func (.yield l) #[] #[]] W fun e W' => (∃ v, e = .returned v) ∧
      (J (p0 ++ nz st) W' ∨ ∃ k, k < (nz st).length ∧ Jx (p0 ++ (nz st).take (k + 1)) W') := by
  have hTl := hA.lt
  have hdeep := hA.deep
  refine callsIn_of_wp Try.func39 rfl (by trivial) ?_ rfl
  simp only [Try.ntmps39, List.size_toArray, List.length_cons, List.length_nil, Nat.reduceAdd, Nat.reduceSub, Array.replicate_succ, Array.replicate_zero, List.push_toArray, List.append_toArray, List.nil_append, List.cons_append]
  gi_wp2_with fail
  gi_loopw [4] (fun v4 wr => ∃ i : Nat, v4 = .int .i64 (i : Int) ∧ i ≤ st.length ∧ J (p0 ++ nz (st.take i)) wr ∧ KpTh T B b0 W wr) (fun v4 _ => st.length - (intOf v4).toNat)
  case atStart => exact ⟨0, rfl, Nat.zero_le _, by simpa [nz] using h0, ⟨fun _ _ => rfl, rfl, fun _ _ _ h => h⟩⟩
  case round =>
    obtain ⟨i, rfl, hi, hJ, hkp⟩ := hrel
    have hA1 := hA.keep hkp.th
    have c3 := hA1.c3
    have cD := hA1.depth
    by_cases hlt : i < st.length
    · obtain ⟨r, hr⟩ : ∃ r, st[i]? = some r := ⟨_, List.getElem?_eq_getElem hlt⟩
      have hrg : st[i] = r := by rw [List.getElem?_eq_getElem hlt] at hr; exact Option.some.inj hr
      rcases hA1.stk.is with ⟨_, e⟩ | ⟨g, cap, cur, hvk, hg, hlc, hcm, hcs, hcl⟩
      · rw [e] at hlt; exact absurd hlt (Nat.not_lt_zero _)
      · have d := hcl i hlt
        rw [hrg] at d
        rw [hvk] at c3
        have hi1 : (i : Int) < (st.length : Int) := by omega
        have hi0 : (0 : Int) ≤ (i : Int) := by omega
        have hnx := nz_next hr
        have HKP := Lib.hid hkp
        by_cases hr0 : r = 0
        · subst hr0
          rw [if_pos rfl, List.append_nil] at hnx
          rw [← hnx] at hJ
          clear hcl hcs hr hrg hA1 hnx hvk hkp
          gi_wp2_with fail
          refine ⟨trivial, fun h => (by cases h), ?_⟩
          refine (callsIn_wide.2 cD).mono ?_
          rintro e W1 ⟨rfl, rfl⟩
          clear cD
          gi_wp2_with fail
          refine ⟨fun _ h => (by cases h), ?_⟩
          gi_wp2_with fail
          go_roundw
          case rel => exact ⟨i + 1, by go_num, hlt, hJ, HKP.out⟩
          case measure => simp [intOf]; omega
        · have hb1 : (r != 0) = true := by simpa using hr0
          rw [if_neg hr0] at hnx
          obtain ⟨t1, t2⟩ := nz_take hr hr0
          have hlen4 : (p0 ++ nz (st.take i)).length < 100000 := by
            rw [List.length_append]
            have := List.length_filter_le (fun r => r != 0) (st.take i)
            rw [List.length_take] at this
            unfold nz
            omega
          obtain ⟨fn, tmps, assign, body, hy, hY2⟩ := hY _ r _ hJ hlen4
          rw [List.append_assoc, ← hnx] at hY2
          have T1 := Lib.hid t1
          have T2 := Lib.hid t2
          clear hcl hcs hr hrg hA1 hnx hvk hkp hJ hlen4 t1 t2
          gi_wp2_with fail
          refine ⟨trivial, fun h => (by cases h), ?_⟩
          refine (callsIn_wide.2 cD).mono ?_
          rintro e W1 ⟨rfl, rfl⟩
          clear cD
          gi_wp2_with fail
          refine ⟨fun h => (by cases h), ?_⟩
          refine hY2.mono ?_
          rintro e W3 (⟨rfl, hJ3, hk3⟩ | ⟨rfl, hJx3⟩)
          · have HK3 := Lib.hid (HKP.out.trans hk3)
            clear hy hY2 d c3 hk3
            gi_wp2_with fail
            go_roundw
            case rel => exact ⟨i + 1, by go_num, hlt, hJ3, HK3.out⟩
            case measure => simp [intOf]; omega
          · gi_wp2_with fail
            refine bodyPost_ret (results_none rfl _ _ _) rfl ?_
            exact ⟨⟨_, rfl⟩, .inr ⟨_, T1.out, by rw [T2.out]; exact hJx3⟩⟩
    · obtain rfl : i = st.length := by omega
      rw [List.take_of_length_le (Nat.le_refl _)] at hJ
      clear hA1 hkp hlt hi
      gi_wp2_with fail
      refine ⟨trivial, fun h => (by cases h), ?_⟩
      refine (callsIn_wide.2 cD).mono ?_
      rintro e W1 ⟨rfl, rfl⟩
      clear cD
      gi_wp2_with fail
      go_end0
      exact ⟨⟨_, rfl⟩, .inl hJ⟩

theorem rootsfn_any (t : Nat) (w : World) :
    Calls Try.prog 25 #[.pointer (some ⟨t, 0, none⟩)] w fun e w' => e = .returned (.func (.func 37) #[] #[.pointer (some ⟨w.heap.size, 0, none⟩)]) ∧ w.alloc (.cells #[.pointer (some ⟨t, 0, none⟩)] 38) = w' := by
  go_enter Try.func25, Try.ntmps25
  go_wp2_with fail
  go_ret
  exact ⟨rfl, rfl⟩

set_option maxRecDepth 100000 in
set_option maxHeartbeats 4000000 in
/-- The iterator over a thread's roots. -/
theorem roots_stops (n : Nat) {T : ThB} {regs room : Int} {f : Nat → Int} {st : List Int} (B : Nat) (w : World) (hA : ThAt w T regs room f st) (hB : w.cell? ⟨B, 0, none⟩ = some (.pointer (some ⟨T.t, 0, none⟩))) :
    SeqStopsK Fence.wide n Try.prog 37 #[.pointer (some ⟨B, 0, none⟩)] (fun x : Int => #[.int .i64 x]) (KpTh T B w.heap.size)
      (fun xs => xs = rootsOf f regs.toNat st) (fun pre => ∃ k, k < (rootsOf f regs.toNat st).length ∧ pre = (rootsOf f regs.toNat st).take (k + 1)) 100000 w := fun l J Jx W hW hJa _ hY h0 => by
  have hBl := World.block_lt_of_cell? w _ hB
  have hA1 := hA.below hW
  have hB1 := (hW.cell (p := ⟨B, 0, none⟩) hBl).trans hB
  have hBW := World.block_lt_of_cell? W _ hB1
  have hrl : (regRoots f regs.toNat).length ≤ 5000 := by unfold regRoots; rw [List.length_map]; have := hA.seg; omega
  have cR := tellRegs_in (n - 1) B w.heap.size l J Jx W hW.size hJa (fun pre x W1 hj hl => YieldAt.anyWideT _ (hY pre x W1 hj hl)) hA1 hBW h0
  refine callsIn_of_wp Try.func37 rfl (by trivial) ?_ rfl
  simp only [Try.ntmps37, List.size_toArray, List.length_cons, List.length_nil, Nat.reduceAdd, Nat.reduceSub, Array.replicate_succ, Array.replicate_zero, List.push_toArray, List.append_toArray, List.nil_append, List.cons_append]
  gi_wp2_with fail
  refine ⟨trivial, fun h => (by cases h), ?_⟩
  refine cR.mono ?_
  rintro e W1 (⟨rfl, hJ1, hk1, hs1⟩ | ⟨rfl, k, hk, hJx⟩)
  · have hB2 : W1.cell? ⟨B, 0, none⟩ = some (.pointer (some ⟨T.t, 0, none⟩)) := (World.cell?_of_block (w := W) (a := ⟨B, 0, none⟩) hk1.box).trans hB1
    have hA2 := hA1.keep hk1.th
    have hJ2 : AbidesFrom W1.heap.size J := fun s A C row h hg hr => hJa s A C row h hg (fun r e => by have := hr r e; exact ⟨by omega, this.2⟩)
    have cS := tellStack_in (n - 1) B w.heap.size l J Jx W1 (by have := hW.size; omega) hJ2 (fun pre x W1 hj hl => YieldAt.anyWideT _ (hY pre x W1 hj hl)) hA2 (World.block_lt_of_cell? W1 _ hB2) (regRoots f regs.toNat) hrl hJ1
    clear cR hA2 hJ1 hk1 hB1
    gi_wp2_with fail
    refine ⟨trivial, fun h => (by cases h), ?_⟩
    refine cS.mono ?_
    rintro e W2 ⟨⟨v, rfl⟩, hJ | ⟨k, hk, hJx⟩⟩
    · clear cS hB2
      gi_wp2_with fail
      go_end0
      exact ⟨⟨_, rfl⟩, .inl ⟨_, rfl, hJ⟩⟩
    · clear cS hB2
      gi_wp2_with fail
      go_end0
      refine ⟨⟨_, rfl⟩, .inr ⟨_, ⟨(regRoots f regs.toNat).length + k, ?_, ?_⟩, hJx⟩⟩
      · unfold rootsOf; rw [List.length_append]; have : (nz st).length = (st.filter (fun r => r != 0)).length := rfl; omega
      · show _ = (regRoots f regs.toNat ++ nz st).take _
        rw [Nat.add_assoc, List.take_length_add_append]
  · clear cR
    gi_wp2_with fail
    go_end0
    refine ⟨⟨_, rfl⟩, .inr ⟨_, ⟨k, ?_, ?_⟩, hJx⟩⟩
    · unfold rootsOf; rw [List.length_append]; omega
    · unfold rootsOf; rw [List.take_append_of_le_length (by omega)]
end Go.Proofs.Ytoemfehlnnbjdaa
