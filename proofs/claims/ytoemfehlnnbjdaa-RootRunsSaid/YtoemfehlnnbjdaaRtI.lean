/- A table's iterators: globals, threads; how many live; at this seat's numbers. -/
import Derived.Test.YtoemfehlnnbjdaaRtA
import Derived.Test.YtoemfehlnnbjdaaThU
namespace Go.Proofs.Ytoemfehlnnbjdaa
open Go Go.RowKit Go.Shelf
set_option linter.unusedSimpArgs false
set_option linter.unusedVariables false
attribute [local go_sem] Oper.semAt_some

/-- What a round over a table keeps: the table, the closure's box, and what registers were told since. -/
structure KpRt (R : RtB) (th : Nat → Option TM) (Bx b0 : Nat) (W W' : World) : Prop where
  th : ∀ k, R.has th k → W'.heap[k]? = W.heap[k]?
  box : W'.heap[Bx]? = W.heap[Bx]?
  late : ∀ (k : Nat) (cs : Array Value), b0 ≤ k → Blk W k cs 67 → Blk W' k cs 67
section
variable {R : RtB} {th : Nat → Option TM} {Bx b0 N : Nat} {regs stk : Int} {gl : List Int} {wb : World}
theorem KpRt.refl (W : World) : KpRt R th Bx b0 W W := ⟨fun _ _ => rfl, rfl, fun _ _ _ h => h⟩
theorem KpRt.trans {A C D : World} (h : KpRt R th Bx b0 A C) (k : KpRt R th Bx b0 C D) : KpRt R th Bx b0 A D :=
  ⟨fun i hi => (k.th i hi).trans (h.th i hi), k.box.trans h.box, fun i cs hb ho => k.late i cs hb (h.late i cs hb ho)⟩
theorem KpRt.putObj {n0 : Nat} (hT : ∀ k, R.has th k → k < n0) (hB : Bx < n0) (W : World) (l : Nat) (o o' : Obj) (h : n0 ≤ l) (ho : W.heap[l]? = some o) (hc : o.isCells = false) : KpRt R th Bx b0 W (W.putObj l o') :=
  ⟨fun k hk => World.putObj_heap_other (by have := hT k hk; omega), World.putObj_heap_other (by omega), fun k cs _ h2 => by
    have hne : k ≠ l := fun e => by subst e; unfold Blk at h2; rw [ho] at h2; cases h2; cases hc
    exact (World.putObj_heap_other (by omega)).trans h2⟩
theorem KpRt.ofBelow {W W' : World} (hT : ∀ k, R.has th k → k < W.heap.size) (hB : Bx < W.heap.size) (h : Below W.heap.size W W') : KpRt R th Bx b0 W W' :=
  ⟨fun k hk => h.block k (hT k hk), h.block Bx hB, fun k cs _ ho => (h.block k ho.lt).trans ho⟩
theorem KpRt.ofTurn {M : Nat → Prop} {W W' : World} (hT : ∀ k, R.has th k → k < W.heap.size) (hB : Bx < W.heap.size) (h : Turn M W W') (h1 : ∀ k, R.has th k → ¬ M k) (h2 : ¬ M Bx) (h3 : ∀ k, b0 ≤ k → ¬ M k) : KpRt R th Bx b0 W W' :=
  ⟨fun k hk => h.block k (hT k hk) (h1 k hk), h.block Bx hB h2, fun k cs hb ho => (h.block k ho.lt (h3 k hb)).trans ho⟩
theorem RtAt.keep {W W' : World} (h : RtAt W R N regs stk gl th) (k : ∀ k, R.has th k → W'.heap[k]? = W.heap[k]?) : RtAt W' R N regs stk gl th := by
  have hb : ∀ {b cs X}, Blk W b cs X → R.has th b → Blk W' b cs X := fun {b cs X} hb ht => by unfold Blk at hb ⊢; rw [k b ht]; exact hb
  exact ⟨hb h.head (.inl rfl), hb h.glob (.inr (.inl rfl)), fun i m hi => ⟨(h.thr i m hi).1, (h.thr i m hi).2.keep fun j hj => k j (.inr (.inr ⟨i, m, hi, hj⟩))⟩, h.own, h.apart, h.tg, h.live, h.few, h.gfew, h.rfew, h.sfew⟩
end

theorem globalsfn_any (t : Nat) (w : World) :
    Calls Try.prog 23 #[.pointer (some ⟨t, 0, none⟩)] w fun e w' => e = .returned (.func (.func 36) #[] #[.pointer (some ⟨w.heap.size, 0, none⟩)]) ∧ w.alloc (.cells #[.pointer (some ⟨t, 0, none⟩)] 27) = w' := by
  go_enter Try.func23, Try.ntmps23
  go_wp2_with fail
  go_ret
  exact ⟨rfl, rfl⟩
theorem threadsfn_any (t : Nat) (w : World) :
    Calls Try.prog 21 #[.pointer (some ⟨t, 0, none⟩)] w fun e w' => e = .returned (.func (.func 34) #[] #[.pointer (some ⟨w.heap.size, 0, none⟩)]) ∧ w.alloc (.cells #[.pointer (some ⟨t, 0, none⟩)] 27) = w' := by
  go_enter Try.func21, Try.ntmps21
  go_wp2_with fail
  go_ret
  exact ⟨rfl, rfl⟩
theorem rootallfn_any (t : Nat) (w : World) :
    Calls Try.prog 22 #[.pointer (some ⟨t, 0, none⟩)] w fun e w' => e = .returned (.func (.func 35) #[] #[.pointer (some ⟨w.heap.size, 0, none⟩)]) ∧ w.alloc (.cells #[.pointer (some ⟨t, 0, none⟩)] 27) = w' := by
  go_enter Try.func22, Try.ntmps22
  go_wp2_with fail
  go_ret
  exact ⟨rfl, rfl⟩

set_option maxRecDepth 100000 in
set_option maxHeartbeats 4000000 in
/-- The iterator over globals. -/
theorem globals_stops (n : Nat) {R : RtB} {N : Nat} {regs stk : Int} {gl : List Int} {th : Nat → Option TM} (Bx : Nat) (w : World) (hA : RtAt w R N regs stk gl th) (hB : w.cell? ⟨Bx, 0, none⟩ = some (.pointer (some ⟨R.t, 0, none⟩))) :
    SeqStopsK Fence.wide n Try.prog 36 #[.pointer (some ⟨Bx, 0, none⟩)] (fun x : Int => #[.int .i64 x]) (KpRt R th Bx w.heap.size)
      (fun xs => xs = nz gl) (fun pre => ∃ k, k < (nz gl).length ∧ pre = (nz gl).take (k + 1)) 5 w := fun l J Jx W hW hJa _ hY h0 => by
  have hBl := World.block_lt_of_cell? w _ hB
  replace hA := hA.below hW
  have hB1 := (hW.cell (p := ⟨Bx, 0, none⟩) hBl).trans hB
  have c0 := hA.c0
  have hg4 := hA.gfew
  refine callsIn_of_wp Try.func36 rfl (by trivial) ?_ rfl
  simp only [Try.ntmps36, List.size_toArray, List.length_cons, List.length_nil, Nat.reduceAdd, Nat.reduceSub, Array.replicate_succ, Array.replicate_zero, List.push_toArray, List.append_toArray, List.nil_append, List.cons_append]
  gi_wp2_with fail
  gi_loopw [10] (fun v10 wr => ∃ i : Nat, v10 = .int .i64 (i : Int) ∧ i ≤ gl.length ∧ J (nz (gl.take i)) wr ∧ KpRt R th Bx w.heap.size W wr) (fun v10 _ => gl.length - (intOf v10).toNat)
  case atStart => exact ⟨0, rfl, Nat.zero_le _, by simpa [nz] using h0, KpRt.refl _⟩
  case round =>
    obtain ⟨i, rfl, hi, hJ, hkp⟩ := hrel
    have hA1 := hA.keep hkp.th
    by_cases hlt : i < gl.length
    · obtain ⟨r, hr⟩ : ∃ r, gl[i]? = some r := ⟨_, List.getElem?_eq_getElem hlt⟩
      have hrg : gl.getD i 0 = r := by simp [List.getD, hr]
      have d := hA1.cG i hlt
      rw [hrg] at d
      have hi1 : (i : Int) < (gl.length : Int) := by omega
      have hi0 : (0 : Int) ≤ (i : Int) := by omega
      have hnx := nz_next hr
      have HKP := Lib.hid hkp
      by_cases hr0 : r = 0
      · subst hr0
        rw [if_pos rfl, List.append_nil] at hnx
        rw [← hnx] at hJ
        clear hr hrg hA1 hnx hkp c0
        gi_wp2_with fail
        refine ⟨fun _ h => (by cases h), ?_⟩
        gi_wp2_with fail
        go_roundw
        case rel => exact ⟨i + 1, by go_num, hlt, hJ, HKP.out⟩
        case measure => simp [intOf]; omega
      · have hb1 : (r != 0) = true := by simpa using hr0
        rw [if_neg hr0] at hnx
        obtain ⟨t1, t2⟩ := nz_take hr hr0
        have hlen4 : (nz (gl.take i)).length < 5 := by
          have := List.length_filter_le (fun r => r != 0) (gl.take i)
          rw [List.length_take] at this
          unfold nz
          omega
        obtain ⟨fn, tmps, assign, body, hy, hY2⟩ := hY _ r _ hJ hlen4
        rw [← hnx] at hY2
        have T1 := Lib.hid t1
        have T2 := Lib.hid t2
        clear hr hrg hA1 hnx hkp hJ hlen4 t1 t2 c0
        gi_wp2_with fail
        refine ⟨fun h => (by cases h), ?_⟩
        refine hY2.mono ?_
        rintro e W3 (⟨rfl, hJ3, hk3⟩ | ⟨rfl, hJx3⟩)
        · have HK3 := Lib.hid (HKP.out.trans hk3)
          clear hy hY2 d hk3
          gi_wp2_with fail
          go_roundw
          case rel => exact ⟨i + 1, by go_num, hlt, hJ3, HK3.out⟩
          case measure => simp [intOf]; omega
        · gi_wp2_with fail
          refine bodyPost_ret (results_none rfl _ _ _) rfl ?_
          exact ⟨⟨_, rfl⟩, .inr ⟨_, ⟨_, T1.out, rfl⟩, by rw [T2.out]; exact hJx3⟩⟩
    · obtain rfl : i = gl.length := by omega
      rw [List.take_of_length_le (Nat.le_refl _)] at hJ
      clear hA1 hkp hlt hi c0
      gi_wp2_with fail
      go_end0
      exact ⟨⟨_, rfl⟩, .inl hJ⟩

/-- Those that live, up to a number. -/
def oneT (th : Nat → Option TM) (i : Nat) : List (Nat × TM) := match th i with | none => [] | some m => [(i, m)]
def liveT (th : Nat → Option TM) : Nat → List (Nat × TM)
  | 0 => []
  | n + 1 => liveT th n ++ oneT th n
theorem liveT_length (th : Nat → Option TM) : ∀ n, (liveT th n).length ≤ n
  | 0 => Nat.le_refl _
  | n + 1 => by
    have := liveT_length th n
    have h1 : (oneT th n).length ≤ 1 := by unfold oneT; cases th n <;> simp
    show (liveT th n ++ oneT th n).length ≤ n + 1
    rw [List.length_append]; omega
theorem liveT_mem {th : Nat → Option TM} {p : Nat × TM} : ∀ {n}, p ∈ liveT th n → p.1 < n ∧ th p.1 = some p.2
  | 0, h => by cases h
  | n + 1, h => by
    rcases List.mem_append.1 h with h | h
    · have := liveT_mem h; exact ⟨by omega, this.2⟩
    · unfold oneT at h
      cases e : th n with
      | none => rw [e] at h; cases h
      | some m =>
        rw [e] at h
        have e2 : p = (n, m) := by simpa using h
        rw [e2]; exact ⟨by omega, e⟩
theorem liveT_some {th : Nat → Option TM} {i : Nat} {m : TM} (h : th i = some m) : liveT th (i + 1) = liveT th i ++ [(i, m)] := by
  show liveT th i ++ oneT th i = _
  unfold oneT; rw [h]
theorem liveT_none {th : Nat → Option TM} {i : Nat} (h : th i = none) : liveT th (i + 1) = liveT th i := by
  show liveT th i ++ oneT th i = _
  unfold oneT; rw [h]; simp
abbrev LiveOf (th : Nat → Option TM) := {x : Nat × TM // th x.1 = some x.2}

set_option maxRecDepth 100000 in
set_option maxHeartbeats 4000000 in
/-- The iterator over threads. -/
theorem threads_stops (n : Nat) {R : RtB} {N : Nat} {regs stk : Int} {gl : List Int} {th : Nat → Option TM} (Bx : Nat) (w : World) (hA : RtAt w R N regs stk gl th) (hB : w.cell? ⟨Bx, 0, none⟩ = some (.pointer (some ⟨R.t, 0, none⟩))) :
    SeqStopsK Fence.wide n Try.prog 34 #[.pointer (some ⟨Bx, 0, none⟩)] (fun x : LiveOf th => #[.int .i64 ((x.val.1 : Nat) : Int), .pointer (some ⟨x.val.2.t, 0, none⟩)]) (KpRt R th Bx w.heap.size)
      (fun xs => xs.map Subtype.val = liveT th 4) (fun pre => ∃ i m, i < 4 ∧ th i = some m ∧ pre.map Subtype.val = liveT th i ++ [(i, m)]) 5 w := fun l J Jx W hW hJa _ hY h0 => by
  have hBl := World.block_lt_of_cell? w _ hB
  replace hA := hA.below hW
  have hB1 := (hW.cell (p := ⟨Bx, 0, none⟩) hBl).trans hB
  refine callsIn_of_wp Try.func34 rfl (by trivial) ?_ rfl
  simp only [Try.ntmps34, List.size_toArray, List.length_cons, List.length_nil, Nat.reduceAdd, Nat.reduceSub, Array.replicate_succ, Array.replicate_zero, List.push_toArray, List.append_toArray, List.nil_append, List.cons_append]
  gi_wp2_with fail
  gi_loopw [5] (fun v5 wr => ∃ (i : Nat) (xs : List (LiveOf th)), v5 = .int .i64 (i : Int) ∧ i ≤ 4 ∧ xs.map Subtype.val = liveT th i ∧ J xs wr ∧ KpRt R th Bx w.heap.size W wr) (fun v5 _ => 4 - (intOf v5).toNat)
  case atStart => exact ⟨0, [], rfl, Nat.zero_le _, rfl, h0, KpRt.refl _⟩
  case round =>
    obtain ⟨i, xs, rfl, hi, hxs, hJ, hkp⟩ := hrel
    have hA1 := hA.keep hkp.th
    have hbx := (World.cell?_of_block (w := W) (a := ⟨Bx, 0, none⟩) hkp.box).trans hB1
    by_cases hlt : i < 4
    · have hi1 : (i : Int) < 4 := by omega
      have hi0 : (0 : Int) ≤ (i : Int) := by omega
      have cO := hA1.ofI (i : Int)
      rw [atI_nat] at cO
      have HKP := Lib.hid hkp
      have HXS := Lib.hid hxs
      cases e : th i with
      | none =>
        rw [e] at cO
        have cO2 : Calls Try.prog 13 #[.pointer (some ⟨R.t, 0, none⟩), .int .i64 (i : Int)] wr fun e w' => e = .returned (.pointer none) ∧ wr = w' := cO
        have HN := Lib.hid (liveT_none e)
        clear cO e hA1 hkp hxs
        gi_wp2_with fail
        refine ⟨trivial, fun h => (by cases h), ?_⟩
        refine (callsIn_wide.2 cO2).mono ?_
        rintro e w1 ⟨rfl, rfl⟩
        clear cO2
        gi_wp2_with fail
        refine ⟨fun _ h => (by cases h), ?_⟩
        gi_wp2_with fail
        go_roundw
        case rel => exact ⟨i + 1, xs, by go_num, hlt, by rw [HN.out]; exact HXS.out, hJ, HKP.out⟩
        case measure => simp [intOf]; omega
      | some m =>
        rw [e] at cO
        have cO2 : Calls Try.prog 13 #[.pointer (some ⟨R.t, 0, none⟩), .int .i64 (i : Int)] wr fun e w' => e = .returned (.pointer (some ⟨m.t, 0, none⟩)) ∧ wr = w' := cO
        have hlen4 : xs.length < 5 := by
          have h1 := liveT_length th i
          rw [← hxs, List.length_map] at h1
          omega
        obtain ⟨fn, tmps, assign, body, hy, hY2⟩ := hY _ ⟨(i, m), e⟩ _ hJ hlen4
        have hmap : (xs ++ [(⟨(i, m), e⟩ : LiveOf th)]).map Subtype.val = liveT th i ++ [(i, m)] := by rw [List.map_append, hxs]; rfl
        have HS := Lib.hid (liveT_some e)
        have HE := Lib.hid e
        have HM := Lib.hid hmap
        generalize xs ++ [(⟨(i, m), e⟩ : LiveOf th)] = ys at *
        clear cO hA1 hkp hxs hmap hlen4 hJ
        gi_wp2_with fail
        refine ⟨trivial, fun h => (by cases h), ?_⟩
        refine (callsIn_wide.2 cO2).mono ?_
        rintro e w1 ⟨rfl, rfl⟩
        clear cO2
        gi_wp2_with fail
        refine ⟨fun h => (by cases h), ?_⟩
        refine hY2.mono ?_
        rintro e W3 (⟨rfl, hJ3, hk3⟩ | ⟨rfl, hJx3⟩)
        · have HK3 := Lib.hid (HKP.out.trans hk3)
          clear hy hY2 hk3 hbx
          gi_wp2_with fail
          go_roundw
          case rel => exact ⟨i + 1, ys, by go_num, hlt, by rw [HS.out]; exact HM.out, hJ3, HK3.out⟩
          case measure => simp [intOf]; omega
        · gi_wp2_with fail
          refine bodyPost_ret (results_none rfl _ _ _) rfl ?_
          exact ⟨⟨_, rfl⟩, .inr ⟨ys, ⟨i, hlt, m, HE.out, HM.out⟩, hJx3⟩⟩
    · obtain rfl : i = 4 := by omega
      clear hA1 hkp hlt hi
      gi_wp2_with fail
      go_end0
      exact ⟨⟨_, rfl⟩, .inl ⟨xs, hxs, hJ⟩⟩
end Go.Proofs.Ytoemfehlnnbjdaa
