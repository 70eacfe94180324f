/- RootThreads, walked; at this seat's numbers. -/
import Derived.Test.YtoemfehlnnbjdaaRtO
import Derived.LaidEqlPtr
namespace Go.Proofs.Ytoemfehlnnbjdaa
open Go Go.RowKit Go.Shelf
set_option linter.unusedSimpArgs false
set_option linter.unusedVariables false
attribute [local go_sem] Oper.semAt_some

theorem neq_same {P : Program} (w : World) {tp te : TypeId} {j : TypeInfo} (a : Addr) (hp : P.underlying tp = some (.pointer te)) (hte : P.info? te = some j) :
    (binOp .neq tp (.pointer (some a)) (.pointer (some a))).run P w = .ok (.bool false) w := by
  have h : ∀ d : Nat, (Op.equalIn (d + 1) tp (.pointer (some a)) (.pointer (some a))).run P w = .ok true w := fun d => by
    simp [Op.equalIn, run_underlying hp, sizeOf, typeInfo, hte, run_sameAddr_same]
  simp only [binOp]
  simp [Op.equal, Op.maxDepth, h 9999]
theorem neq_thread (u : Nat) (w : World) : (binOp .neq 38 (.pointer (some ⟨u, 0, none⟩)) (.pointer (some ⟨u, 0, none⟩))).run Try.prog w = .ok (.bool false) w := by
  obtain ⟨j, hj⟩ := Option.isSome_iff_exists.1 (show (Try.prog.info? 69).isSome = true by kernel_rfl)
  exact neq_same w _ Try.underlying38 hj
theorem wpIn_endsT {F : Fence} {n : Nat} {P : Program} {c : Code} {Q : Exit → Act → World → Prop} {a : Act} {w : World} (id : Nat) (R : Nat → World → Prop)
    (hc : c.wpIn F n P (fun e a' w' => (e = .normal ∨ e = .exit id) ∧ ∃ D, a' = { a with defers := { target := .collected D, args := #[] } :: a.defers } ∧ R D w') a w)
    (hq : ∀ a' w', Q .normal a' w' → Q (.exit id) a' w') (hk : ∀ D w', R D w' → Q .normal { a with defers := { target := .collected D, args := #[] } :: a.defers } w') : c.wpIn F n P Q a w := by
  refine wpIn_mono hc ?_
  rintro e a' w' ⟨he, D, ha, hR⟩
  subst ha
  rcases he with rfl | rfl
  · exact hk D w' hR
  · exact hq _ _ (hk D w' hR)
theorem Marks.turned {B hi : Nat} {ds : List Deferred} {V7 V : World} {M : Nat → Prop} (h : Marks B hi ds V7) (hT : Turn M V7 V) (hM : ∀ k, M k → ∃ cs T, Blk V7 k cs T) : Marks B hi ds V := h.keep fun k _ _ hk => (hT.block k (Array.getElem?_eq_some_iff.1 hk).1 (fun e => by
  obtain ⟨cs, T, hb⟩ := hM k e
  unfold Blk at hb
  rw [hb] at hk; cases hk)).trans hk
theorem Marks.below {B hi : Nat} {ds : List Deferred} {V7 V : World} (h : Marks B hi ds V7) (hB : Below V7.heap.size V7 V) : Marks B hi ds V := h.keep fun k _ _ hk => (hB.block k (Array.getElem?_eq_some_iff.1 hk).1).trans hk
def lastI {th : Nat → Option TM} (pre : List (LiveOf th)) : Int := match pre.getLast? with
  | none => -1
  | some y => ((y.val.1 : Nat) : Int)
theorem lastI_nil {th : Nat → Option TM} : lastI ([] : List (LiveOf th)) = -1 := rfl
theorem lastI_snoc {th : Nat → Option TM} (pre : List (LiveOf th)) (x : LiveOf th) : lastI (pre ++ [x]) = ((x.val.1 : Nat) : Int) := by unfold lastI; simp
theorem lastI_lt {th : Nat → Option TM} {q : List (LiveOf th)} {x : LiveOf th} {i : Nat} {m : TM} (h : (q ++ [x]).map Subtype.val = liveT th i ++ [(i, m)]) : lastI q < ((x.val.1 : Nat) : Int) := by
  rw [List.map_append] at h
  obtain ⟨h1, h2⟩ := List.append_inj' h rfl
  have e2 : x.val = (i, m) := by simpa using h2
  rw [e2]
  unfold lastI
  cases e : q.getLast? with
  | none => show (-1 : Int) < ((i : Nat) : Int); omega
  | some y =>
    have hy : y ∈ q := List.mem_of_getLast? e
    have h3 : y.val ∈ liveT th i := by rw [← h1]; exact List.mem_map_of_mem hy
    have := (liveT_mem h3).1
    show ((y.val.1 : Nat) : Int) < ((i : Nat) : Int)
    omega
theorem RtIn.setGlobalLen {B t N : Nat} {F : Nat → Prop} {regs stk : Int} {gl : List Int} {th : Nat → Option TM} {wb wr : World} (h : RtIn B F t N regs stk gl th wb wr) (i : Nat) (x r : Int) (hx : x = i) : Calls Try.prog 15 #[.pointer (some ⟨t, 0, none⟩), .int .i64 x, .int .i64 r] wr fun e w' =>
    ∃ z gl', e = .returned (.int .i64 z) ∧ gl'.length = gl.length ∧ RtIn B F t N regs stk gl' th wb w' ∧ Keep F wr w' := by
  by_cases hi : i < gl.length
  · refine (h.setGlobal i hi x r hx).mono ?_
    rintro e w1 ⟨rfl, h1, hk⟩
    exact ⟨_, _, rfl, by simp, h1, hk⟩
  · refine (h.setGlobalNo x (by omega) r).mono ?_
    rintro e w1 ⟨rfl, rfl⟩
    exact ⟨_, _, rfl, rfl, h, ⟨Nat.le_refl _, fun _ _ => rfl⟩⟩
/-- Between two threads told: the number of the latest one, and how many they are. -/
structure ThrI {th : Nat → Option TM} (bl bk : Nat) (pre : List (LiveOf th)) (V7 V : World) : Prop where
  last : Blk V bl #[.int .i64 (lastI pre)] 3
  num : Blk V bk #[.int .i64 (pre.length : Int)] 3
  turn : Turn (fun k => k = bl ∨ k = bk) V7 V
theorem ThrI.grown {th : Nat → Option TM} {bl bk : Nat} {pre : List (LiveOf th)} {V7 V V' : World} {row : Option Nat} (h : ThrI bl bk pre V7 V) (hg : V.grownBy V' row) (hr : ∀ r, row = some r → V7.heap.size ≤ r ∧ ∃ o : Obj, V.heap[r]? = some o ∧ o.isCells = false) : ThrI bl bk pre V7 V' :=
  ⟨h.last.keptT hg (fun r e => (hr r e).2), h.num.keptT hg (fun r e => (hr r e).2), h.turn.grown (Nat.le_refl _) hg (fun r e => (hr r e).1)⟩
/-- What stays behind the first range. -/
structure ThrF (B t bt bk br bl : Nat) (gl : List Int) (th : Nat → Option TM) (c1 lv : Nat) (F : Nat → Prop) (wb V : World) : Prop where
  h : RtIn B F t 4 2 2 gl th wb V
  tb : Blk V bt #[.pointer (some ⟨t, 0, none⟩)] 27
  kb : Blk V bk #[.int .i64 (c1 : Int)] 3
  rb : Blk V br #[.bool false] 4
  lb : Blk V bl #[.int .u8 (lv : Int)] 5
section
variable {B t bt bk br bl : Nat} {gl : List Int} {th : Nat → Option TM} {c1 lv : Nat} {F : Nat → Prop} {wb V V' : World}
theorem ThrF.ask (h : ThrF B t bt bk br bl gl th c1 lv F wb V) (hB : Below V.heap.size V V') : ThrF B t bt bk br bl gl th c1 lv F wb V' :=
  ⟨h.h.ask hB, h.tb.turn (Turn.ofBelow hB) (by have := h.tb.lt; omega), h.kb.turn (Turn.ofBelow hB) (by have := h.kb.lt; omega), h.rb.turn (Turn.ofBelow hB) (by have := h.rb.lt; omega), h.lb.turn (Turn.ofBelow hB) (by have := h.lb.lt; omega)⟩
theorem ThrF.box (h : ThrF B t bt bk br bl gl th c1 lv F wb V) (o : Obj) : ThrF B t bt bk br bl gl th c1 lv (fun k => k = V.heap.size) wb (V.alloc o) :=
  ⟨h.h.add ((Below.refl _ V).alloc (Nat.le_refl _) o) (fun k hk => .inr ⟨Nat.le_of_eq hk.symm, by rw [hk]; simp⟩), h.tb.alloc o, h.kb.alloc o, h.rb.alloc o, h.lb.alloc o⟩
theorem ThrF.alloc (h : ThrF B t bt bk br bl gl th c1 lv F wb V) (o : Obj) : ThrF B t bt bk br bl gl th c1 lv F wb (V.alloc o) := h.ask ((Below.refl _ V).alloc (Nat.le_refl _) o)
theorem ThrF.turned {x : Nat} (h : ThrF B t bt bk br bl gl th c1 lv (fun k => k = x) wb V) (hT : Turn (fun k => k = x) V V') (hB : B ≤ x) (h1 : bt ≠ x) (h2 : bk ≠ x) (h3 : br ≠ x) (h4 : bl ≠ x) : ThrF B t bt bk br bl gl th c1 lv (fun k => k = x) wb V' :=
  ⟨h.h.turned hT (fun k e => ⟨e, (show k = x from e) ▸ hB⟩), h.tb.turn hT h1, h.kb.turn hT h2, h.rb.turn hT h3, h.lb.turn hT h4⟩
end
theorem live9 {B t : Nat} {F : Nat → Prop} {gl : List Int} {th : Nat → Option TM} {wb wr : World} (h : RtIn B F t 4 2 2 gl th wb wr) : (atI th 9).isSome = false := by
  cases e : atI th 9 with
  | none => rfl
  | some m =>
    have h1 := h.ltN (i := 9) (m := m) (by simpa [atI] using e)
    omega
theorem of4 {B t : Nat} {F : Nat → Prop} {gl : List Int} {th : Nat → Option TM} {wb wr : World} (h : RtIn B F t 4 2 2 gl th wb wr) : Calls Try.prog 13 #[.pointer (some ⟨t, 0, none⟩), .int .i64 4] wr fun e w' => e = .returned (.pointer none) ∧ wr = w' := by
  have h1 := h.of 4
  cases e : atI th 4 with
  | none => rw [e] at h1; exact h1
  | some m =>
    have h2 := h.ltN (i := 4) (m := m) (by simpa [atI] using e)
    omega
structure ThrA (B t bt len : Nat) (wb : World) (v : Value) (wr : World) : Prop where
  ex : ∃ (i : Nat) (gl : List Int) (th : Nat → Option TM), i ≤ len ∧ v = .int .i64 (i : Int) ∧ gl.length = 3 ∧ RtIn B (fun k => k = bt) t 4 2 2 gl th wb wr
  box : Blk wr bt #[.pointer (some ⟨t, 0, none⟩)] 27
theorem u8_natR {a : Int} (h : (Lit.int .u8 a).wf = true) : ∃ n : Nat, a = (n : Int) ∧ n < 256 := by
  have h2 : 0 ≤ a ∧ a ≤ 255 := by
    simp [Lit.wf, IntKind.min, IntKind.max, IntKind.signed, IntKind.bits] at h
    omega
  exact ⟨a.toNat, by omega, by omega⟩

set_option maxRecDepth 100000 in
set_option maxHeartbeats 16000000 in
theorem threads_true (a0 : Option Addr) (len cap : Nat) (Q : Nat → Nat → Int) (lv : Nat) (hlv : lv < 256) (w : World) (_ : len ≤ 9223372036854775807) (hZ : QuadAt w a0 len Q) :
    Calls Try.prog 4 #[.slice a0 len cap, .int .u8 (lv : Int)] w fun e w' => e = .returned (.bool true) ∧ Below w.heap.size w w' := by
  have HZ := Lib.hid hZ
  clear hZ
  obtain ⟨M, hM⟩ : ∃ M : Nat, 14 ≤ M := ⟨14, Nat.le_refl _⟩
  obtain ⟨lm, hlm⟩ : ∃ m, m = lv % 8 := ⟨_, rfl⟩
  have hmt : (lv : Int).tmod 8 = (lm : Int) := by rw [Int.tmod_eq_emod_of_nonneg (by omega)]; omega
  have hm8 : lm ≤ 8 := by omega
  clear hlm
  refine calls_of_wp_marks Try.func4 rfl M ?_
  simp only [Try.ntmps4, List.size_toArray, List.length_cons, List.length_nil, Nat.reduceAdd, Nat.reduceSub, Array.replicate_succ, Array.replicate_zero, List.push_toArray, List.append_toArray, List.nil_append, List.cons_append]
  gi_wp2_with fail
  refine ⟨trivial, fun h => (by cases h), ?_⟩
  have hL0 := (Blk.new w #[.int .u8 (lv : Int)] 5).alloc (.cells #[.bool false] 4)
  have hR := Blk.new (w.alloc (.cells #[.int .u8 (lv : Int)] 5)) #[.bool false] 4
  simp only [World.size_alloc] at hR
  have hBb := ((Below.refl w.heap.size w).alloc (Nat.le_refl _) (.cells #[.int .u8 (lv : Int)] 5)).alloc (by simp) (.cells #[.bool false] 4)
  have hsb : w.heap.size + 2 ≤ ((w.alloc (.cells #[.int .u8 (lv : Int)] 5)).alloc (.cells #[.bool false] 4)).heap.size := by simp
  generalize (w.alloc (.cells #[.int .u8 (lv : Int)] 5)).alloc (.cells #[.bool false] 4) = wb at *
  refine (callsIn_wide.2 (rtfit_true wb)).mono ?_
  rintro e w1 ⟨rfl, hB⟩
  have hR1 : w1.cell? ⟨w.heap.size + 1, 0, none⟩ = some (.bool false) := (hB.cell (p := ⟨w.heap.size + 1, 0, none⟩) hR.lt).trans (hR.cell 0)
  have hZ1 : w1.frozen? ⟨w.heap.size + 1, 0, none⟩ = false := (hB.frozen (p := ⟨w.heap.size + 1, 0, none⟩) hR.lt).trans (hR.free 0)
  by_cases hbig : 40 < (len : Int)
  · gi_wp2_with fail
    refine ⟨.bool true, ?_, rfl, (hBb.trans (hB.mono (by omega))).setCell (p := ⟨w.heap.size + 1, 0, none⟩) (by show w.heap.size ≤ w.heap.size + 1; omega) (.bool true)⟩
    have hc := World.cell?_setCell_same w1 ⟨w.heap.size + 1, 0, none⟩ (.bool true) hR1
    simp [results, Try.f4, go_sem, hc]
  clear hR1 hZ1
  gi_wp2_with fail
  refine ⟨trivial, fun h => (by cases h), ?_⟩
  refine (callsIn_wide.2 (config_any 3 3 3 3 (by omega) (by omega) rfl rfl w1)).mono ?_
  rintro e w2 ⟨rfl, hB2⟩
  have hB2' := hB.trans (hB2.mono hB.size)
  clear hB hB2
  gi_wp2_with fail
  refine ⟨trivial, fun h => (by cases h), ?_⟩
  refine (callsIn_wide.2 (rtIn_new (B := wb.heap.size) (F := fun _ => False) (wb := wb) (wr := w2) (1 + 3) 3 2 2 (by omega) (by omega) (by decide) (by decide) (fun k hk => hk.elim) hB2' (Nat.le_refl _))).mono ?_
  rintro e w3 ⟨t, rfl, h3, _⟩
  clear hB2'
  have h4 := h3.box (.cells #[.pointer (some ⟨t, 0, none⟩)] 27)
  have hbt := Blk.new w3 #[.pointer (some ⟨t, 0, none⟩)] 27
  have hbl3 := h3.size
  have H4 := Lib.hid (And.intro h4 hbt)
  clear h3 h4 hbt
  gi_wp2_with fail
  obtain ⟨h4, hbt⟩ := H4.out
  clear H4
  generalize w3.alloc (.cells #[.pointer (some ⟨t, 0, none⟩)] 27) = W4 at *
  generalize w3.heap.size = bt at *
  gi_loopw [28] (fun v28 wr => ThrA wb.heap.size t bt len wb v28 wr) (fun v28 _ => len - (intOf v28).toNat)
  case atStart => exact ⟨⟨0, _, _, Nat.zero_le _, rfl, rfl, h4⟩, hbt⟩
  case round =>
    clear h4 hbt
    obtain ⟨⟨i, gl, th, hi, rfl, hgl, h1⟩, hbt⟩ := hrel
    have hi0 : (0 : Int) ≤ (i : Int) := by omega
    have ct := hbt.cell 0
    simp only [List.getElem?_toArray, List.getElem?_cons_zero] at ct
    by_cases hlt : i < len
    · have hi1 : (i : Int) < (len : Int) := by omega
      obtain ⟨bk, off, rfl, hbk, hcs⟩ := HZ.out i hlt
      have hbw := hBb.trans (h1.below.mono (by omega))
      have hc0 := (hbw.cell (p := ⟨bk, off + i * 4, none⟩) hbk).trans (hcs 0 (by decide)).1
      have hc1 := (hbw.cell (p := ⟨bk, off + i * 4 + 1, none⟩) hbk).trans (hcs 1 (by decide)).1
      have hc2 := (hbw.cell (p := ⟨bk, off + i * 4 + 2, none⟩) hbk).trans (hcs 2 (by decide)).1
      have hc3 := (hbw.cell (p := ⟨bk, off + i * 4 + 3, none⟩) hbk).trans (hcs 3 (by decide)).1
      generalize Q i 0 = kd at *
      generalize Q i 1 = id at *
      generalize Q i 2 = kk at *
      generalize Q i 3 = rd at *
      obtain ⟨a, ha, hae⟩ := i64_and_mask kd 3 (by decide)
      replace hae : bits .and .i64 kd 3 = (a : Int) := hae
      obtain ⟨b, hb, hbe⟩ := i64_and_mask id 3 (by decide)
      replace hbe : bits .and .i64 id 3 = (b : Int) := hbe
      obtain ⟨c, hc, hce⟩ := i64_and_mask kk 3 (by decide)
      replace hce : bits .and .i64 kk 3 = (c : Int) := hce
      have h2 := h1.add (F' := fun k => k = bt ∨ k = wr.heap.size) ((Below.refl _ wr).alloc (Nat.le_refl _) (.cells #[.int .i64 kd, .int .i64 id, .int .i64 kk, .int .i64 rd] 33)) (fun k hk => by
        rcases hk with hk | hk
        · exact .inl hk
        · exact .inr ⟨Nat.le_of_eq hk.symm, by rw [hk]; simp⟩)
      have hbx := Blk.new wr #[.int .i64 kd, .int .i64 id, .int .i64 kk, .int .i64 rd] 33
      have hbt2 := hbt.alloc (.cells #[.int .i64 kd, .int .i64 id, .int .i64 kk, .int .i64 rd] 33)
      have ct2 := hbt2.cell 0
      simp only [List.getElem?_toArray, List.getElem?_cons_zero] at ct2
      have fin : ∀ (w6 : World) (gl' : List Int) (th' : Nat → Option TM), gl'.length = 3 → RtIn wb.heap.size (fun k => k = bt ∨ k = wr.heap.size) t 4 2 2 gl' th' wb w6 → Keep (fun k => k = bt ∨ k = wr.heap.size) (wr.alloc (.cells #[.int .i64 kd, .int .i64 id, .int .i64 kk, .int .i64 rd] 33)) w6 → ThrA wb.heap.size t bt len wb (.int .i64 ((i : Int) + 1)) w6 := fun w6 gl' th' hg h6 hk6 =>
        ⟨⟨i + 1, _, _, hlt, by rw [show (((i + 1 : Nat)) : Int) = (i : Int) + 1 by omega], hg, h6.add (Below.refl _ _) (fun k hk => .inl (.inl hk))⟩, hk6.blk hbt2 (.inl rfl)⟩
      have FIN := Lib.hid fin
      clear hcs h1 hbt fin hbw ct
      have HBX := Lib.hid hbx
      have HBT := Lib.hid hbt2
      clear hbx hbt2
      have ca : a = 0 ∨ a = 1 ∨ a = 2 ∨ a = 3 := by omega
      rcases ca with rfl | rfl | rfl | rfl
      · have hae2 : bits .and .i64 kd 3 = 0 := hae
        have cS := h2.spawnAny b (by omega) (b : Int) rfl
        clear hae h2
        gi_wp2_with fail
        refine ⟨trivial, fun h => (by cases h), ?_⟩
        refine (callsIn_wide.2 cS).mono ?_
        rintro e w5 ⟨z, rfl, ⟨th2, _, h5⟩, hk5⟩
        have hfin := Lib.hid (FIN.out _ _ _ hgl h5 hk5)
        clear cS h5 hk5 hc0 hc1 hc2 hc3 ct2
        gi_wp2_with fail
        go_roundw
        case rel => exact hfin.out
        case measure => simp [intOf]; omega
      · have hae2 : bits .and .i64 kd 3 = 1 := hae
        have cS := h2.exitAny b (b : Int) rfl
        clear hae h2
        gi_wp2_with fail
        refine ⟨trivial, fun h => (by cases h), ?_⟩
        refine (callsIn_wide.2 cS).mono ?_
        rintro e w5 ⟨z, rfl, ⟨th2, h5⟩, hk5⟩
        have hfin := Lib.hid (FIN.out _ _ _ hgl h5 hk5)
        clear cS h5 hk5 hc0 hc1 hc2 hc3 ct2
        gi_wp2_with fail
        go_roundw
        case rel => exact hfin.out
        case measure => simp [intOf]; omega
      · have hae2 : bits .and .i64 kd 3 = 2 := hae
        have cO := h2.of (b : Int)
        rw [atI_nat] at cO
        clear hae
        cases em : th b with
        | none =>
          rw [em] at cO
          have cO2 : Calls Try.prog 13 #[.pointer (some ⟨t, 0, none⟩), .int .i64 (b : Int)] (wr.alloc (.cells #[.int .i64 kd, .int .i64 id, .int .i64 kk, .int .i64 rd] 33)) fun e w' => e = .returned (.pointer none) ∧ (wr.alloc (.cells #[.int .i64 kd, .int .i64 id, .int .i64 kk, .int .i64 rd] 33)) = w' := cO
          have hfin := Lib.hid (FIN.out _ _ _ hgl h2 ⟨Nat.le_refl _, fun _ _ => rfl⟩)
          clear cO h2 em
          gi_wp2_with fail
          refine ⟨trivial, fun h => (by cases h), ?_⟩
          refine (callsIn_wide.2 cO2).mono ?_
          rintro e w5 ⟨rfl, rfl⟩
          clear cO2 hc0 hc1 hc2 hc3 ct2
          gi_wp2_with fail
          go_roundw
          case rel => exact hfin.out
          case measure => simp [intOf]; omega
        | some m =>
          rw [em] at cO
          have cO2 : Calls Try.prog 13 #[.pointer (some ⟨t, 0, none⟩), .int .i64 (b : Int)] (wr.alloc (.cells #[.int .i64 kd, .int .i64 id, .int .i64 kk, .int .i64 rd] 33)) fun e w' => e = .returned (.pointer (some ⟨m.t, 0, none⟩)) ∧ (wr.alloc (.cells #[.int .i64 kd, .int .i64 id, .int .i64 kk, .int .i64 rd] 33)) = w' := cO
          have cP := h2.pushAny em rd
          clear cO h2 em
          gi_wp2_with fail
          refine ⟨trivial, fun h => (by cases h), ?_⟩
          refine (callsIn_wide.2 cO2).mono ?_
          rintro e w5 ⟨rfl, rfl⟩
          clear cO2
          gi_wp2_with fail
          refine ⟨trivial, fun h => (by cases h), ?_⟩
          refine (callsIn_wide.2 cP).mono ?_
          rintro e w6 ⟨z, st', rfl, _, h6, hk6⟩
          have hfin := Lib.hid (FIN.out _ _ _ hgl h6 hk6)
          clear cP h6 hk6 hc0 hc1 hc2 hc3 ct2
          gi_wp2_with fail
          go_roundw
          case rel => exact hfin.out
          case measure => simp [intOf]; omega
      · have hae2 : bits .and .i64 kd 3 = 3 := hae
        have cS := h2.setGlobalLen c (c : Int) rd rfl
        clear hae h2
        gi_wp2_with fail
        refine ⟨trivial, fun h => (by cases h), ?_⟩
        refine (callsIn_wide.2 cS).mono ?_
        rintro e w5 ⟨z, gl', rfl, hg, h5, hk5⟩
        have hfin := Lib.hid (FIN.out _ _ _ (hg.trans hgl) h5 hk5)
        clear cS h5 hk5 hc0 hc1 hc2 hc3 ct2
        gi_wp2_with fail
        go_roundw
        case rel => exact hfin.out
        case measure => simp [intOf]; omega
    · have hi1 : ¬ (i : Int) < (len : Int) := by omega
      clear hlt hi hi0
      have hs1 := h1.size
      have hBa := ((Below.refl wr.heap.size wr).alloc (Nat.le_refl _) (.cells #[.int .i64 (-1)] 3)).alloc (by simp) (.cells #[.int .i64 0] 3)
      have hsa : ((wr.alloc (.cells #[.int .i64 (-1)] 3)).alloc (.cells #[.int .i64 0] 3)).heap.size = wr.heap.size + 1 + 1 := by simp
      have h5 := h1.add (F' := fun k => k = wr.heap.size ∨ k = wr.heap.size + 1) hBa (fun k hk => .inr (by rcases hk with hk | hk <;> omega))
      have hbt5 := (hbt.alloc (.cells #[.int .i64 (-1)] 3)).alloc (.cells #[.int .i64 0] 3)
      have hl5 := (Blk.new wr #[.int .i64 (-1)] 3).alloc (.cells #[.int .i64 0] 3)
      have hk5 := Blk.new (wr.alloc (.cells #[.int .i64 (-1)] 3)) #[.int .i64 0] 3
      simp only [World.size_alloc] at hk5
      have ct5 := hbt5.cell 0
      simp only [List.getElem?_toArray, List.getElem?_cons_zero] at ct5
      have H5 := Lib.hid (And.intro h5 (And.intro hbt5 (And.intro hl5 (And.intro hk5 hsa))))
      clear h1 hbt hBa hsa h5 hbt5 hl5 hk5 ct
      gi_wp2_with fail
      refine ⟨trivial, fun h => (by cases h), ?_⟩
      refine (callsIn_wide.2 (threadsfn_any t _)).mono ?_
      rintro e w' ⟨rfl, rfl⟩
      obtain ⟨h5, hbt5, hl5, hk5, hsa⟩ := H5.out
      clear H5 ct5
      have h7 := h5.alloc (.cells #[.pointer (some ⟨t, 0, none⟩)] 27)
      have hbt7 := hbt5.alloc (.cells #[.pointer (some ⟨t, 0, none⟩)] 27)
      have hl7 := hl5.alloc (.cells #[.pointer (some ⟨t, 0, none⟩)] 27)
      have hk7 := hk5.alloc (.cells #[.pointer (some ⟨t, 0, none⟩)] 27)
      have hx7 := (Blk.new ((wr.alloc (.cells #[.int .i64 (-1)] 3)).alloc (.cells #[.int .i64 0] 3)) #[.pointer (some ⟨t, 0, none⟩)] 27).cell 0
      have hs7 : wr.heap.size + 3 ≤ (((wr.alloc (.cells #[.int .i64 (-1)] 3)).alloc (.cells #[.int .i64 0] 3)).alloc (.cells #[.pointer (some ⟨t, 0, none⟩)] 27)).heap.size := by simp
      rw [hsa] at hx7
      have H7 := Lib.hid (And.intro h7 (And.intro hbt7 (And.intro hl7 (And.intro hk7 (And.intro hx7 hs7)))))
      clear h5 hbt5 hl5 hk5 hsa h7 hbt7 hl7 hk7 hx7 hs7
      gi_wp2_with fail
      obtain ⟨h7, hbt7, hl7, hk7, hx7, hs7⟩ := H7.out
      clear H7
      generalize ((wr.alloc (.cells #[.int .i64 (-1)] 3)).alloc (.cells #[.int .i64 0] 3)).alloc (.cells #[.pointer (some ⟨t, 0, none⟩)] 27) = V7 at *
      have hR7 := hR.turn (Turn.ofBelow h7.below) (by have := hR.lt; omega)
      have hL7 := hL0.turn (Turn.ofBelow h7.below) (by have := hL0.lt; omega)
      obtain ⟨R, hRt, hA, hF⟩ := h7.ex
      have hlt7 := hA.lt
      rw [← hRt] at hx7
      have hbtl : bt ≠ wr.heap.size := fun e => by rw [e] at hbt7; exact blkT hbt7 hl7 (by decide)
      have hbtk : bt ≠ wr.heap.size + 1 := fun e => by rw [e] at hbt7; exact blkT hbt7 hk7 (by decide)
      have hsw := h7.base
      have hwr : wb.heap.size ≤ wr.heap.size := hs1
      refine wpIn_rangeT rfl (by omega) (gf := 34) (lb := #[.pointer (some ⟨wr.heap.size + 1 + 1, 0, none⟩)]) rfl trivial (enters_of Try.func34 (by kernel_rfl) rfl)
        (SeqT.ofK (threads_stops (M - 1) (wr.heap.size + 1 + 1) V7 hA hx7)) KpRt.trans (fun W l o o' hl ho hc => KpRt.putObj hlt7 (by omega) W l o o' hl ho hc) (Below.refl _ _) (fun _ => rfl)
        (fun st V => ThrI wr.heap.size (wr.heap.size + 1) st.1 V7 V)
        (fun c st V => ∃ (q : List (LiveOf th)) (x : LiveOf th), st.1 = q ++ [x] ∧ ((x.val.1 : Nat) : Int) ≤ lastI q)
        (fun st A C row hs hg hr => hs.grown hg hr) (fun c st A C row hs hg hr => hs)
        ⟨hl7, hk7, Turn.refl _ _⟩ ?a1 ?assign ?body ?done ?stop
      case assign =>
        intro l0 x W K hK
        gi_wp2
        exact hK
      case stop =>
        rintro D c pre O V hD ⟨i2, m2, hi2, hm2, hpre⟩ ⟨q, x, rfl, hle⟩ hK
        have := lastI_lt hpre
        omega
      case body =>
        rintro l0 pre O x V hl0 _ hO ⟨hbl, hbk, hT⟩ hlen
        have hRI := h7.turned hT (fun k e => ⟨e, by rcases e with e | e <;> omega⟩)
        have hV7 := hT.size
        have c1 := hbl.cell 0
        have z1 := hbl.free 0
        have c2 := hbk.cell 0
        have z2 := hbk.free 0
        have hbtV := hbt7.turn hT (fun e => by rcases e with e | e; exact hbtl e; exact hbtk e)
        have c3 := hbtV.cell 0
        have hRV := hR7.turn hT (fun e => by rcases e with e | e <;> omega)
        have c4 := hRV.cell 0
        have z4 := hRV.free 0
        simp only [List.getElem?_toArray, List.getElem?_cons_zero] at c1 c2 c3 c4
        have hpl2 : (pre.length : Int) ≤ 100 := by omega
        by_cases hle : ((x.val.1 : Nat) : Int) ≤ lastI pre
        · have H := Lib.hid (OwnedT.ofTurn (B := V7.heap.size) (O := O) (M := fun k => k = w.heap.size + 1) ((Turn.refl _ V).set ⟨w.heap.size + 1, 0, none⟩ (.bool false) (.inr rfl)) (fun k e => by have e2 : k = w.heap.size + 1 := e; have := hR7.lt; omega))
          have HLE := Lib.hid hle
          clear hRI hbl hbk hT hbtV hRV
          gi_wp2_with fail
          refine ⟨trivial, ?_⟩
          gi_wp2_with fail
          refine ⟨trivial, ?_⟩
          gi_wp2_with fail
          exact ⟨O, H.out, pre, x, rfl, HLE.out⟩
        · have hgt : lastI pre < ((x.val.1 : Nat) : Int) := by omega
          have cL := hRI.live ((x.val.1 : Nat) : Int) true (by rw [atI_nat, x.property]; rfl)
          have cO : Calls Try.prog 13 #[.pointer (some ⟨t, 0, none⟩), .int .i64 ((x.val.1 : Nat) : Int)] V fun e w' => e = .returned (.pointer (some ⟨x.val.2.t, 0, none⟩)) ∧ V = w' := by
            have := hRI.of ((x.val.1 : Nat) : Int)
            rw [atI_nat, x.property] at this
            exact this
          have hneq := neq_thread x.val.2.t V
          have hb1 := (hbl.setAt 0 (.int .i64 ((x.val.1 : Nat) : Int))).is (cs' := #[.int .i64 ((x.val.1 : Nat) : Int)]) (by simp)
          have hb2 := (hbl.setAt 0 (.int .i64 ((x.val.1 : Nat) : Int))).setOther ⟨wr.heap.size + 1, 0, none⟩ (.int .i64 ((pre.length : Int) + 1)) (by show wr.heap.size ≠ wr.heap.size + 1; omega)
          have hb3 := (hbk.setOther ⟨wr.heap.size, 0, none⟩ (.int .i64 ((x.val.1 : Nat) : Int)) (by show wr.heap.size + 1 ≠ wr.heap.size; omega))
          have ck3 := hb3.cell 0
          have zk3 := hb3.free 0
          simp only [List.getElem?_toArray, List.getElem?_cons_zero] at ck3
          have hb4 := (hb3.setAt 0 (.int .i64 ((pre.length : Int) + 1))).is (cs' := #[.int .i64 (((pre ++ [x]).length : Nat) : Int)]) (by
            rw [show (((pre ++ [x]).length : Nat) : Int) = (pre.length : Int) + 1 by simp]; simp)
          have hT2 := ((Turn.refl (fun k => k = wr.heap.size ∨ k = wr.heap.size + 1) V).set ⟨wr.heap.size, 0, none⟩ (.int .i64 ((x.val.1 : Nat) : Int)) (.inr (.inl rfl))).set ⟨wr.heap.size + 1, 0, none⟩ (.int .i64 ((pre.length : Int) + 1)) (.inr (.inr rfl))
          have H := Lib.hid (show ∃ O', OwnedT V7.heap.size O O' V ((V.setCell ⟨wr.heap.size, 0, none⟩ (.int .i64 ((x.val.1 : Nat) : Int))).setCell ⟨wr.heap.size + 1, 0, none⟩ (.int .i64 ((pre.length : Int) + 1))) ∧ KpRt R th (wr.heap.size + 1 + 1) V7.heap.size V ((V.setCell ⟨wr.heap.size, 0, none⟩ (.int .i64 ((x.val.1 : Nat) : Int))).setCell ⟨wr.heap.size + 1, 0, none⟩ (.int .i64 ((pre.length : Int) + 1))) ∧ ThrI wr.heap.size (wr.heap.size + 1) (pre ++ [x]) V7 ((V.setCell ⟨wr.heap.size, 0, none⟩ (.int .i64 ((x.val.1 : Nat) : Int))).setCell ⟨wr.heap.size + 1, 0, none⟩ (.int .i64 ((pre.length : Int) + 1))) from
            ⟨O, OwnedT.ofTurn hT2 (fun k e => by rcases e with e | e <;> omega), KpRt.ofTurn (fun k hk => by have := hlt7 k hk; omega) (by omega) hT2 (fun k hk e => (hF k hk).2 e) (fun e => by rcases e with e | e <;> omega) (fun k hk e => by rcases e with e | e <;> omega), ⟨hb2.is (by rw [lastI_snoc]; simp), hb4, hT.trans hT2 (fun k _ e => e)⟩⟩)
          clear hRI hbl hbk hT hbtV hRV hb1 hb2 hb3 hb4 hT2 hle
          gi_wp2_with fail
          refine ⟨trivial, fun h => (by cases h), ?_⟩
          refine ((callsIn_wide.2 cL).inRound l0).mono ?_
          rintro e w8 ⟨rfl, rfl⟩
          clear cL
          gi_wp2_with fail
          refine ⟨trivial, fun h => (by cases h), ?_⟩
          refine ((callsIn_wide.2 cO).inRound l0).mono ?_
          rintro e w8 ⟨rfl, rfl⟩
          clear cO
          gi_wp2_with fail
          exact H.out
      case done =>
        rintro D xs O V hD hO hxs ⟨hbl, hbk, hT⟩ hK
        have hxl : xs.length = (liveT th 4).length := by
          have h9 : xs.map Subtype.val = liveT th 4 := hxs
          rw [← h9, List.length_map]
        rw [hxl] at hbk
        obtain ⟨c1, hc1⟩ : ∃ c, c = (liveT th 4).length := ⟨_, rfl⟩
        rw [← hc1] at hbk
        have HC1 := Lib.hid hc1
        have hV7 := hT.size
        have hDl : D < V.heap.size := (Array.getElem?_eq_some_iff.mp hK).1
        have f8 : ThrF wb.heap.size t bt (wr.heap.size + 1) (w.heap.size + 1) w.heap.size gl th c1 lv (fun k => k = wr.heap.size ∨ k = wr.heap.size + 1) wb V := ⟨h7.turned hT (fun k e => ⟨e, by rcases e with e | e <;> omega⟩), hbt7.turn hT (fun e => by rcases e with e | e; exact hbtl e; exact hbtk e), hbk, hR7.turn hT (fun e => by rcases e with e | e <;> omega), hL7.turn hT (fun e => by rcases e with e | e <;> omega)⟩
        have hM8 : Marks wb.heap.size (D + 1) [{ target := .collected D, args := #[] }] V := ⟨D, rfl, by omega, by omega, hK, trivial⟩
        clear hxl hbl hbk hT hc1 h7 hbt7 hl7 hk7 hx7 hA hF hlt7 hR7 hL7 hO hxs hK hRt
        have f9 := f8.box (.cells #[.int .i64 0] 3)
        have hn9 := Blk.new V #[.int .i64 0] 3
        have ht8 := f8.tb.lt
        have hk8 := f8.kb.lt
        have hr8 := f8.rb.lt
        have hl8 := f8.lb.lt
        have hs9 : (V.alloc (.cells #[.int .i64 0] 3)).heap.size = V.heap.size + 1 := by simp
        have ct9 := f9.tb.cell 0
        simp only [List.getElem?_toArray, List.getElem?_cons_zero] at ct9
        have hM9 := hM8.below ((Below.refl _ V).alloc (Nat.le_refl _) (.cells #[.int .i64 0] 3))
        have H9 := Lib.hid (And.intro f9 (And.intro hn9 (And.intro hs9 hM9)))
        clear f9 hn9 hs9 f8 hM8 hM9
        gi_wp2_with fail
        refine ⟨trivial, fun h => (by cases h), ?_⟩
        refine (callsIn_wide.2 (rootallfn_any t _)).mono ?_
        rintro e w' ⟨rfl, rfl⟩
        obtain ⟨f9, hn9, hs9, hM9⟩ := H9.out
        have f10 := f9.alloc (.cells #[.pointer (some ⟨t, 0, none⟩)] 27)
        have hn10 := hn9.alloc (.cells #[.pointer (some ⟨t, 0, none⟩)] 27)
        have hx10 := (Blk.new (V.alloc (.cells #[.int .i64 0] 3)) #[.pointer (some ⟨t, 0, none⟩)] 27).cell 0
        have hs10 : V.heap.size + 2 ≤ ((V.alloc (.cells #[.int .i64 0] 3)).alloc (.cells #[.pointer (some ⟨t, 0, none⟩)] 27)).heap.size := by simp
        have hM10 := hM9.below ((Below.refl _ (V.alloc (.cells #[.int .i64 0] 3))).alloc (Nat.le_refl _) (.cells #[.pointer (some ⟨t, 0, none⟩)] 27))
        rw [hs9] at hx10
        have H10 := Lib.hid (And.intro f10 (And.intro hn10 (And.intro hx10 (And.intro hs10 hM10))))
        clear H9 f9 hn9 hs9 hM9 f10 hn10 hx10 hs10 hM10 ct9
        gi_wp2_with fail
        obtain ⟨f10, hn10, hx10, hs10, hM10⟩ := H10.out
        clear H10
        generalize (V.alloc (.cells #[.int .i64 0] 3)).alloc (.cells #[.pointer (some ⟨t, 0, none⟩)] 27) = V10 at *
        generalize V.heap.size = bn at *
        refine wpIn_endsT 5 (fun D2 V2 => Turn (fun k => k = bn) V10 V2 ∧ V10.heap.size ≤ D2 ∧ V2.heap[D2]? = some (.deferred (some []))) ?rng2 (fun _ _ h => h) ?tail2
        case rng2 =>
          obtain ⟨R2, hRt2, hA2, hF2⟩ := f10.h.ex
          have hlt2 := hA2.lt
          rw [← hRt2] at hx10
          have hwl9 : IntKind.i64.wrap (lm : Int) = (lm : Int) := IntWalk.i64_in _ (by omega)
          refine wpIn_rangeT rfl (by omega) (gf := 35) (lb := #[.pointer (some ⟨bn + 1, 0, none⟩)]) rfl trivial (enters_of Try.func35 (by kernel_rfl) rfl)
            (all_seqR (M - 1) (by omega) (bn + 1) V10 hA2 hx10) KpRt.trans (fun W l o o' hl ho hc => KpRt.putObj hlt2 (by omega) W l o o' hl ho hc) (Below.refl _ _) (fun _ => rfl)
            (fun st V => BoxI bn (.int .i64 (st.1.length : Int)) 3 V10 V) (fun c st V => c = .exit 5 ∧ Turn (fun k => k = bn) V10 V)
            (fun st A C row hs hg hr => hs.grown (Nat.le_refl _) hg hr) (fun c st A C row hs hg hr => ⟨hs.1, hs.2.grown (Nat.le_refl _) hg (fun r e => (hr r e).1)⟩)
            ⟨hn10, Turn.refl _ _⟩ ?b1 ?assign2 ?body2 ?done2 ?stop2
          case assign2 =>
            intro l0 x W K hK
            gi_wp2
            exact hK
          case done2 =>
            rintro D2 xs2 O2 V2 hD2 hO2 _ hI2 hK2
            exact ⟨.inl rfl, D2, rfl, hI2.turn, hD2, hK2⟩
          case stop2 =>
            rintro D2 c pre O2 V2 hD2 _ ⟨rfl, hT2⟩ hK2
            refine wpIn_exit ?_
            exact ⟨.inr rfl, D2, rfl, hT2, hD2, hK2⟩
          case body2 =>
            rintro l0 pre O x V2 hl0 _ hO hI hlen
            have fV := f10.turned hI.turn (by have := f10.h.base; omega) (by omega) (by omega) (by omega) (by omega)
            have ck := hI.box.cell 0
            have zk := hI.box.free 0
            have cl := fV.lb.cell 0
            simp only [List.getElem?_toArray, List.getElem?_cons_zero] at ck cl
            have hpl2 : (pre.length : Int) ≤ 200000 := by omega
            have h8 := hI.put (.int .i64 (((pre ++ [x]).length : Nat) : Int))
            have h9 := hI.kept (R := R2) (th := th) (Bx := bn + 1) (b0 := V10.heap.size) (.int .i64 (((pre ++ [x]).length : Nat) : Int)) (fun k hk => ⟨hlt2 k hk, (hF2 k hk).2⟩) (by omega) (by omega) (by omega)
            have h10 := hI.owned (m := V10.heap.size) (O := O) (.int .i64 (((pre ++ [x]).length : Nat) : Int)) (by omega)
            have ck2 := h8.box.cell 0
            have cl2 : (V2.setCell ⟨bn, 0, none⟩ (.int .i64 (((pre ++ [x]).length : Nat) : Int))).cell? ⟨w.heap.size, 0, none⟩ = some (.int .u8 (lv : Int)) := cell_setBlock cl (by show w.heap.size ≠ bn; omega)
            simp only [List.getElem?_toArray, List.getElem?_cons_zero] at ck2
            have H := Lib.hid (And.intro h10 (And.intro h9 h8))
            rw [show (((pre ++ [x]).length : Nat) : Int) = (pre.length : Int) + 1 by simp] at H ck2 cl2
            clear h8 h9 h10 hI fV
            by_cases hbr : (pre.length : Int) + 1 = (lm : Int)
            · have hbr2 : ((pre.length : Int) + 1 == (lm : Int)) = true := by simpa using hbr
              clear hbr
              gi_wp2_with fail
              exact ⟨O, H.out.1, rfl, H.out.2.2.turn⟩
            · have hbr2 : ((pre.length : Int) + 1 == (lm : Int)) = false := by simpa using hbr
              clear hbr
              gi_wp2_with fail
              exact ⟨O, H.out.1, H.out.2.1, H.out.2.2.is (by rw [show (((pre ++ [x]).length : Nat) : Int) = (pre.length : Int) + 1 by simp])⟩
        case tail2 =>
          rintro D2 V2 ⟨hT2, hD2, hK2⟩
          have hDl2 : D2 < V2.heap.size := (Array.getElem?_eq_some_iff.mp hK2).1
          have f11 := f10.turned hT2 (by have := f10.h.base; omega) (by omega) (by omega) (by omega) (by omega)
          have hM11 : Marks wb.heap.size (D2 + 1) [{ target := .collected D2, args := #[] }, { target := .collected D, args := #[] }] V2 := ((hM10.turned hT2 (fun k e => ⟨_, _, (show k = bn from e) ▸ hn10⟩)).mono (by omega)).push (by omega) (by omega) hK2
          clear f10 hn10 hx10 hM10 hT2 hK2
          have hgl3 := f11.h.gfew
          have f12 := f11.box (.cells #[.int .i64 0] 3)
          have hn12 := Blk.new V2 #[.int .i64 0] 3
          have ht11 := f11.tb.lt
          have hk11 := f11.kb.lt
          have hr11 := f11.rb.lt
          have hl11 := f11.lb.lt
          have hs12 : (V2.alloc (.cells #[.int .i64 0] 3)).heap.size = V2.heap.size + 1 := by simp
          have ct12 := f12.tb.cell 0
          simp only [List.getElem?_toArray, List.getElem?_cons_zero] at ct12
          have hM12 := hM11.below ((Below.refl _ V2).alloc (Nat.le_refl _) (.cells #[.int .i64 0] 3))
          have H12 := Lib.hid (And.intro f12 (And.intro hn12 (And.intro hs12 hM12)))
          clear f12 hn12 hs12 f11 hM11 hM12
          gi_wp2_with fail
          refine ⟨trivial, fun h => (by cases h), ?_⟩
          refine (callsIn_wide.2 (globalsfn_any t _)).mono ?_
          rintro e w' ⟨rfl, rfl⟩
          obtain ⟨f12, hn12, hs12, hM12⟩ := H12.out
          have f13 := f12.alloc (.cells #[.pointer (some ⟨t, 0, none⟩)] 27)
          have hn13 := hn12.alloc (.cells #[.pointer (some ⟨t, 0, none⟩)] 27)
          have hx13 := (Blk.new (V2.alloc (.cells #[.int .i64 0] 3)) #[.pointer (some ⟨t, 0, none⟩)] 27).cell 0
          have hs13 : V2.heap.size + 2 ≤ ((V2.alloc (.cells #[.int .i64 0] 3)).alloc (.cells #[.pointer (some ⟨t, 0, none⟩)] 27)).heap.size := by simp
          have hM13 := hM12.below ((Below.refl _ (V2.alloc (.cells #[.int .i64 0] 3))).alloc (Nat.le_refl _) (.cells #[.pointer (some ⟨t, 0, none⟩)] 27))
          rw [hs12] at hx13
          have H13 := Lib.hid (And.intro f13 (And.intro hn13 (And.intro hx13 (And.intro hs13 hM13))))
          clear H12 f12 hn12 hs12 hM12 f13 hn13 hx13 hs13 hM13 ct12
          gi_wp2_with fail
          obtain ⟨f13, hn13, hx13, hs13, hM13⟩ := H13.out
          clear H13
          generalize (V2.alloc (.cells #[.int .i64 0] 3)).alloc (.cells #[.pointer (some ⟨t, 0, none⟩)] 27) = V13 at *
          generalize V2.heap.size = bg at *
          obtain ⟨R3, hRt3, hA3, hF3⟩ := f13.h.ex
          have hlt3 := hA3.lt
          rw [← hRt3] at hx13
          refine wpIn_rangeT rfl (by omega) (gf := 36) (lb := #[.pointer (some ⟨bg + 1, 0, none⟩)]) rfl trivial (enters_of Try.func36 (by kernel_rfl) rfl)
            (SeqT.ofK (globals_stops (M - 1) (bg + 1) V13 hA3 hx13)) KpRt.trans (fun W l o o' hl ho hc => KpRt.putObj hlt3 (by omega) W l o o' hl ho hc) (Below.refl _ _) (fun _ => rfl)
            (fun st V => BoxI bg (.int .i64 (st.1.length : Int)) 3 V13 V) (fun c st V => ∃ q : List Int, st.1 = q ++ [0])
            (fun st A C row hs hg hr => hs.grown (Nat.le_refl _) hg hr) (fun c st A C row hs hg hr => hs)
            ⟨hn13, Turn.refl _ _⟩ ?c1 ?assign3 ?body3 ?done3 ?stop3
          case assign3 =>
            intro l0 x W K hK
            gi_wp2
            exact hK
          case stop3 =>
            rintro D3 c pre O3 V3 hD3 ⟨k, hk, hpre⟩ ⟨q, e⟩ hK3
            exfalso
            replace e : pre = q ++ [0] := e
            have h0 : (0 : Int) ∈ nz gl := List.mem_of_mem_take (i := k + 1) (by rw [← hpre, e]; simp)
            have h1 := (List.mem_filter.1 h0).2
            simp at h1
          case body3 =>
            rintro l0 pre O x V3 hl0 _ hO hI hlen
            have fV := f13.turned hI.turn (by have := f13.h.base; omega) (by omega) (by omega) (by omega) (by omega)
            have ck := hI.box.cell 0
            have zk := hI.box.free 0
            have cr := fV.rb.cell 0
            have zr := fV.rb.free 0
            simp only [List.getElem?_toArray, List.getElem?_cons_zero] at ck cr
            have hpl2 : (pre.length : Int) ≤ 200000 := by omega
            by_cases hx : x = 0
            · subst hx
              have H := Lib.hid (OwnedT.ofTurn (B := V13.heap.size) (O := O) (M := fun k => k = w.heap.size + 1) ((Turn.refl _ V3).set ⟨w.heap.size + 1, 0, none⟩ (.bool false) (.inr rfl)) (fun k e => by have e2 : k = w.heap.size + 1 := e; omega))
              clear hI fV
              gi_wp2_with fail
              exact ⟨O, H.out, pre, rfl⟩
            · have hx2 : (x == 0) = false := by simpa using hx
              have h8 := hI.put (.int .i64 (((pre ++ [x]).length : Nat) : Int))
              have h9 := hI.kept (R := R3) (th := th) (Bx := bg + 1) (b0 := V13.heap.size) (.int .i64 (((pre ++ [x]).length : Nat) : Int)) (fun k hk => ⟨hlt3 k hk, (hF3 k hk).2⟩) (by omega) (by omega) (by omega)
              have h10 := hI.owned (m := V13.heap.size) (O := O) (.int .i64 (((pre ++ [x]).length : Nat) : Int)) (by omega)
              have H := Lib.hid (And.intro h10 (And.intro h9 h8))
              rw [show (((pre ++ [x]).length : Nat) : Int) = (pre.length : Int) + 1 by simp] at H
              clear h8 h9 h10 hI fV hx
              gi_wp2_with fail
              exact ⟨O, H.out.1, H.out.2.1, H.out.2.2.is (by rw [show (((pre ++ [x]).length : Nat) : Int) = (pre.length : Int) + 1 by simp])⟩
          case done3 =>
            rintro D3 xs3 O3 V3 hD3 hO3 hxs3 hI3 hK3
            have hx3 : xs3.length ≤ 3 := by
              have h9 : xs3 = nz gl := hxs3
              rw [h9]
              have := List.length_filter_le (fun r => r != 0) gl
              unfold nz
              omega
            obtain ⟨c3, hc3⟩ : ∃ c, c = xs3.length := ⟨_, rfl⟩
            have hg3 : Blk V3 bg #[.int .i64 (c3 : Int)] 3 := by rw [hc3]; exact hI3.box
            rw [← hc3] at hx3
            have hDl3 : D3 < V3.heap.size := (Array.getElem?_eq_some_iff.mp hK3).1
            have f14 := f13.turned hI3.turn (by have := f13.h.base; omega) (by omega) (by omega) (by omega) (by omega)
            have hts3 := hI3.turn.size
            have hM14 : Marks wb.heap.size (D3 + 1) [{ target := .collected D3, args := #[] }, { target := .collected D2, args := #[] }, { target := .collected D, args := #[] }] V3 := ((hM13.turned hI3.turn (fun k e => ⟨_, _, (show k = bg from e) ▸ hn13⟩)).mono (by omega)).push (by omega) (by omega) hK3
            have ct14 := f14.tb.cell 0
            simp only [List.getElem?_toArray, List.getElem?_cons_zero] at ct14
            have H14 := Lib.hid (And.intro f14 (And.intro hg3 hM14))
            clear f13 hn13 hx13 hM13 hI3 hK3 hc3 hxs3 hA3 hF3 hlt3 hO3 f14 hg3 hM14
            gi_wp2_with fail
            refine ⟨trivial, fun h => (by cases h), ?_⟩
            refine (callsIn_wide.2 (threadsfn_any t _)).mono ?_
            rintro e w' ⟨rfl, rfl⟩
            obtain ⟨f14, hg3, hM14⟩ := H14.out
            have f16 := f14.alloc (.cells #[.pointer (some ⟨t, 0, none⟩)] 27)
            have hg16 := hg3.alloc (.cells #[.pointer (some ⟨t, 0, none⟩)] 27)
            have hx16 := (Blk.new V3 #[.pointer (some ⟨t, 0, none⟩)] 27).cell 0
            have hs16 : V3.heap.size + 1 ≤ (V3.alloc (.cells #[.pointer (some ⟨t, 0, none⟩)] 27)).heap.size := by simp
            have hM16 := hM14.below ((Below.refl _ V3).alloc (Nat.le_refl _) (.cells #[.pointer (some ⟨t, 0, none⟩)] 27))
            have H16 := Lib.hid (And.intro f16 (And.intro hg16 (And.intro hx16 (And.intro hs16 hM16))))
            clear H14 f14 hg3 hM14 f16 hg16 hx16 hs16 hM16 ct14
            gi_wp2_with fail
            obtain ⟨f16, hg16, hx16, hs16, hM16⟩ := H16.out
            clear H16
            generalize V3.alloc (.cells #[.pointer (some ⟨t, 0, none⟩)] 27) = V16 at *
            refine wpIn_endsT 9 (fun D4 V4 => Below V16.heap.size V16 V4 ∧ V16.heap.size ≤ D4 ∧ V4.heap[D4]? = some (.deferred (some []))) ?rng4 (fun _ _ h => h) ?tail4
            case rng4 =>
              obtain ⟨R4, hRt4, hA4, hF4⟩ := f16.h.ex
              have hlt4 := hA4.lt
              rw [← hRt4] at hx16
              refine wpIn_rangeT rfl (by omega) (gf := 34) (lb := #[.pointer (some ⟨V3.heap.size, 0, none⟩)]) rfl trivial (enters_of Try.func34 (by kernel_rfl) rfl)
                (SeqT.ofK (threads_stops (M - 1) V3.heap.size V16 hA4 hx16)) KpRt.trans (fun W l o o' hl ho hc => KpRt.putObj hlt4 (by omega) W l o o' hl ho hc) (Below.refl _ _) (fun _ => rfl)
                (fun st V => Below V16.heap.size V16 V) (fun c st V => c = .exit 9 ∧ Below V16.heap.size V16 V)
                (ownFrom_below (Nat.le_refl _) (Nat.le_refl _)) (fun c st A C row hs hg hr => ⟨hs.1, (ownFrom_below (β := Unit) (Nat.le_refl _) (Nat.le_refl _)) () A C row hs.2 hg hr⟩)
                (Below.refl _ _) ?d1 ?assign4 ?body4 ?done4 ?stop4
              case assign4 =>
                intro l0 x W K hK
                gi_wp2
                exact hK
              case done4 =>
                rintro D4 xs4 O4 V4 hD4 hO4 _ hI4 hK4
                exact ⟨.inl rfl, D4, rfl, hI4, hD4, hK4⟩
              case stop4 =>
                rintro D4 c pre O4 V4 hD4 _ ⟨rfl, hI4⟩ hK4
                refine wpIn_exit ?_
                exact ⟨.inr rfl, D4, rfl, hI4, hD4, hK4⟩
              case body4 =>
                rintro l0 pre O x V4 hl0 _ hO hbl hlen
                gi_wp2_with fail
                exact ⟨O, OwnedT.refl _ _ _, rfl, hbl⟩
            case tail4 =>
              rintro D4 V4 ⟨hB4, hD4, hK4⟩
              have hDl4 : D4 < V4.heap.size := (Array.getElem?_eq_some_iff.mp hK4).1
              have f17 := f16.ask hB4
              have hg17 := hg16.turn (Turn.ofBelow hB4) (by have := hg16.lt; omega)
              have hM17 : Marks wb.heap.size (D4 + 1) [{ target := .collected D4, args := #[] }, { target := .collected D3, args := #[] }, { target := .collected D2, args := #[] }, { target := .collected D, args := #[] }] V4 := ((hM16.below hB4).mono (by omega)).push (by omega) (by omega) hK4
              clear f16 hg16 hx16 hM16 hB4 hK4
              have cG := f17.h.globalNo 3 (by omega)
              have ct17 := f17.tb.cell 0
              simp only [List.getElem?_toArray, List.getElem?_cons_zero] at ct17
              have H17 := Lib.hid (And.intro f17 (And.intro hg17 hM17))
              clear f17 hg17 hM17
              gi_wp2_with fail
              refine ⟨trivial, fun h => (by cases h), ?_⟩
              refine (callsIn_wide.2 cG).mono ?_
              rintro e w9 ⟨rfl, rfl⟩
              obtain ⟨f17, hg17, hM17⟩ := H17.out
              clear H17 cG
              have cC := f17.h.drew.count c1 HC1.out.symm
              have c1I := f17.kb.cell 0
              have c2I := f17.tb.cell 0
              have c3I := hg17.cell 0
              simp only [List.getElem?_toArray, List.getElem?_cons_zero] at c1I c2I c3I
              have hS : V4.cell? ⟨wr.heap.size + 1, 0, none⟩ = some (.int .i64 (c1 : Int)) ∧ V4.cell? ⟨bt, 0, none⟩ = some (.pointer (some ⟨t, 0, none⟩)) ∧ V4.cell? ⟨bg, 0, none⟩ = some (.int .i64 (c3 : Int)) := ⟨c1I, c2I, c3I⟩
              have hx3I : (c3 : Int) ≤ 3 := by omega
              have hbgl := hg17.lt
              have F17 := Lib.hid f17
              have G17 := Lib.hid hg17
              clear c1I c2I c3I f17 hg17 ct17
              gi_wp2_with fail
              refine wpIn_wide.2 ?_
              go_region_held3 (fun w' => w'.cell? ⟨wr.heap.size + 1, 0, none⟩ = some (.int .i64 (c1 : Int)) ∧ w'.cell? ⟨bt, 0, none⟩ = some (.pointer (some ⟨t, 0, none⟩)) ∧ w'.cell? ⟨bg, 0, none⟩ = some (.int .i64 (c3 : Int))) (first | exact hS | exact hS10 | exact hS11)
                (first
                  | (go_at_call 13; refine cO4.mono ?_; rintro e w' ⟨rfl, rfl⟩)
                  | (go_at_call 18; refine cL1.mono ?_; rintro e w' ⟨rfl, rfl⟩)
                  | (go_at_call 18; refine cL9.mono ?_; rintro e w' ⟨rfl, rfl⟩)
                  | (go_at_call 16; refine cC.mono ?_; rintro e w10 ⟨rfl, hB10a⟩; have hB10 : Below V4.heap.size V4 w10 := (Below.refl _ V4).drew.trans hB10a; have f18 := F17.out.ask hB10; have hg18 := G17.out.turn (Turn.ofBelow hB10) (by omega); have cL1 := f18.h.live (-1) false rfl; have cL9 := f18.h.live 9 false (live9 f18.h); have cO4 := of4 f18.h; have cr := f18.rb.cell 0; have zr := f18.rb.free 0; have hS10 : w10.cell? ⟨wr.heap.size + 1, 0, none⟩ = some (.int .i64 (c1 : Int)) ∧ w10.cell? ⟨bt, 0, none⟩ = some (.pointer (some ⟨t, 0, none⟩)) ∧ w10.cell? ⟨bg, 0, none⟩ = some (.int .i64 (c3 : Int)) := ⟨f18.kb.cell 0, f18.tb.cell 0, hg18.cell 0⟩; have hS11 : (w10.setCell ⟨w.heap.size + 1, 0, none⟩ (.bool true)).cell? ⟨wr.heap.size + 1, 0, none⟩ = some (.int .i64 (c1 : Int)) ∧ (w10.setCell ⟨w.heap.size + 1, 0, none⟩ (.bool true)).cell? ⟨bt, 0, none⟩ = some (.pointer (some ⟨t, 0, none⟩)) ∧ (w10.setCell ⟨w.heap.size + 1, 0, none⟩ (.bool true)).cell? ⟨bg, 0, none⟩ = some (.int .i64 (c3 : Int)) := ⟨cell_setBlock hS10.1 (by show wr.heap.size + 1 ≠ w.heap.size + 1; omega), cell_setBlock hS10.2.1 (by show bt ≠ w.heap.size + 1; omega), cell_setBlock hS10.2.2 (by show bg ≠ w.heap.size + 1; omega)⟩; simp only [List.getElem?_toArray, List.getElem?_cons_zero] at cr))
              have hM18 : Marks wb.heap.size (D4 + 1) [{ target := .collected D4, args := #[] }, { target := .collected D3, args := #[] }, { target := .collected D2, args := #[] }, { target := .collected D, args := #[] }] (w10.setCell ⟨w.heap.size + 1, 0, none⟩ (.bool true)) := hM17.keep fun i0 h0 h1 h2 => (Below.heap_setCell _ _ _ _ (by show i0 ≠ w.heap.size + 1; omega)).trans ((hB10.block i0 (Array.getElem?_eq_some_iff.1 h2).1).trans h2)
              have hBW9 := (hBb.trans (f18.h.below.mono (by omega))).setCell (p := ⟨w.heap.size + 1, 0, none⟩) (by show w.heap.size ≤ w.heap.size + 1; omega) (.bool true)
              have hR9 : (w10.setCell ⟨w.heap.size + 1, 0, none⟩ (.bool true)).cell? ⟨w.heap.size + 1, 0, none⟩ = some (.bool true) := World.cell?_setCell_same _ _ _ cr
              have hs10 := hB10.size
              have hs9 : D4 + 1 ≤ (w10.setCell ⟨w.heap.size + 1, 0, none⟩ (.bool true)).heap.size := by simp; omega
              have hRl : w.heap.size + 1 < (w10.setCell ⟨w.heap.size + 1, 0, none⟩ (.bool true)).heap.size := by simp; omega
              clear hS hS10 hS11 cL1 cL9 cO4 f18 hg18 hM17 cC hB10 hB10a cr zr
              gi_wp2_with fail
              generalize w10.setCell ⟨w.heap.size + 1, 0, none⟩ (.bool true) = V8 at *
              refine leavesP_marks hM18 hs9 fun w' hb _ hcs => ?_
              have hRF := hcs ⟨w.heap.size + 1, 0, none⟩ _ hRl hR9
              refine ⟨.bool true, ?_, rfl, hBW9.trans (hb.mono (by omega))⟩
              simp [results, Try.f4, go_sem, hRF]
theorem threads_frame (a0 : Option Addr) (len cap : Nat) (Q : Nat → Nat → Int) (lv : Int) (h : (Lit.int .u8 lv).wf = true) (w : World) (hl : len ≤ 9223372036854775807) (hZ : QuadAt w a0 len Q) :
    Calls Try.prog 4 #[.slice a0 len cap, .int .u8 lv] w fun e w' => e = .returned (.bool true) ∧ Below w.heap.size w w' := by
  obtain ⟨n, rfl, hn⟩ := u8_natR h
  exact threads_true a0 len cap Q n hn w hl hZ
end Go.Proofs.Ytoemfehlnnbjdaa
