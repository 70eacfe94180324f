/- RootOrder, walked; at this seat's numbers. -/
import Derived.Test.YtoemfehlnnbjdaaRtS
import Derived.Test.YtoemfehlnnbjdaaRtJ
import Derived.OwnWalkIn
namespace Go.Proofs.Ytoemfehlnnbjdaa
open Go Go.RowKit Go.Shelf
set_option linter.unusedSimpArgs false
set_option linter.unusedVariables false
attribute [local go_sem] Oper.semAt_some

/-- append of one, in a fence. -/
theorem wpListIn_pushW {F : Fence} {n0 : Nat} {ops : Array Oper} {rest : List Oper} {o : Oper} {a : Act} {Q : Exit → Act → World → Prop} {v : Value} {l : List Int} {w : World} (hgd : o.guard = none) (s x : Operand)
    (ho : o.op = .call { callee := .builtin .append, args := #[s, x], argTypes := #[30, 30] }) (h : RefRow w v l) (hl : l.length ≤ 1000000) (ad c : Nat) (r : Int) (hr : w.cell? ⟨ad, 0, none⟩ = some (.int .i64 r))
    (hs : a.eval s = v) (hx : a.eval x = .slice (some ⟨ad, 0, none⟩) 1 c) (hK : ∀ g n cap w', RefRow w' (.slice (some ⟨g, 0, none⟩) n cap) (l ++ [r]) → Turn (fun k => v.ownBlock = some k) w w' → (v.ownBlock = some g ∨ w.heap.size ≤ g) → wpListIn F n0 Try.prog ops Q rest (a.put o.dst (.slice (some ⟨g, 0, none⟩) n cap)) w') : wpListIn F n0 Try.prog ops Q (o :: rest) a w := by
  obtain ⟨i0, hi, hz0, hz1, hz2⟩ := info_parts infoRefT
  refine wpListIn_plain hgd fun K hK' => ?_
  obtain ⟨v', w', hrun, h2, h3, h4⟩ := run_append_at (P := Try.prog) w 30 o.type 31 i0 (.int .i64 0) 1 8 Try.underlying30 hi hz0 hz1 hz2 rfl v l.length _ h ⟨ad, 0, none⟩ 1 c [.int .i64 r] rfl (fun j u hj => by
    match j, hj with
    | 0, hj => simp at hj; subst hj; simpa [Addr.add] using hr) (fun u hu => by simp at hu; subst hu; rfl) (by decide) (by unfold maxLen; omega) (by omega)
  have hR : RefRow w' v' (l ++ [r]) := by
    unfold RefRow
    rw [List.length_append, List.map_append]
    exact h2
  rcases hR.is with ⟨_, e⟩ | ⟨g, cap, cur, rfl, _⟩
  · simp at e
  · have e1 : (l ++ [r]).length = l.length + 1 := by simp
    rw [e1] at hR hrun
    unfold Oper.wpIn
    refine ⟨?_, ?_⟩
    · simp [Oper.about, ho, resolve, Target.leads, Sem.run_pure]
    · rw [Oper.semAt_plain F _ _ (by rw [ho]; intro c hc'; cases hc')]
      simp [execOp, ho, resolve, invoke, builtin, hs, hx, hrun, Result.andThen]
      exact hK' _ _ (hK g _ cap w' hR (Turn.ofGrown h3) (h4 g rfl))

/-- A box of a row that grows: but for it and its row nothing that lay in V7 has turned. -/
structure WantI (wx : Nat) (V7 : World) (l : List Int) (vw : Value) (V : World) : Prop where
  box : Blk V wx #[vw] 30
  row : RefRow V vw l
  new : ∀ k, vw.ownBlock = some k → V7.heap.size ≤ k
  turn : Turn (fun k => k = wx) V7 V
theorem RefRow.keptW {W W' : World} {v : Value} {l : List Int} {row : Option Nat} (h : RefRow W v l) (hg : W.grownBy W' row) (hrow : ∀ r, row = some r → ∃ o : Obj, W.heap[r]? = some o ∧ o.isCells = false) : RefRow W' v l := by
  refine ⟨h.1, ?_⟩
  rcases h.2 with h1 | ⟨g, cap, cur, rfl, hb, hgg, rest⟩
  · exact .inl h1
  · exact .inr ⟨g, cap, cur, rfl, hb, Blk.keptT (T := 31) hgg hg hrow, rest⟩
theorem WantI.grown {wx m : Nat} {V7 V V' : World} {l : List Int} {vw : Value} {row : Option Nat} (h : WantI wx V7 l vw V) (hm : V7.heap.size ≤ m) (hg : V.grownBy V' row) (hr : ∀ r, row = some r → m ≤ r ∧ ∃ o : Obj, V.heap[r]? = some o ∧ o.isCells = false) : WantI wx V7 l vw V' :=
  ⟨h.box.keptT hg (fun r e => (hr r e).2), h.row.keptW hg (fun r e => (hr r e).2), h.new, h.turn.grown hm hg (fun r e => (hr r e).1)⟩
theorem WantI.alloc {wx : Nat} {V7 V : World} {l : List Int} {vw : Value} (h : WantI wx V7 l vw V) (o : Obj) : WantI wx V7 l vw (V.alloc o) :=
  ⟨h.box.alloc o, h.row.turn ((Turn.refl (fun _ => False) V).alloc o) (fun _ _ h => h), h.new, h.turn.alloc o⟩
theorem WantI.ltO {wx : Nat} {V7 V : World} {l : List Int} {vw : Value} (h : WantI wx V7 l vw V) {k : Nat} (e : vw.ownBlock = some k) : k < V.heap.size := by
  obtain ⟨_, hb⟩ := h.row.own e
  exact hb.lt
theorem WantI.noReg {wx : Nat} {V7 V : World} {l : List Int} {vw : Value} (h : WantI wx V7 l vw V) {k : Nat} {cs : Array Value} {T : TypeId} (hk : Blk V k cs T) (h1 : T ≠ 30) (h2 : T ≠ 31) : ¬ (vw.ownBlock = some k ∨ k = wx) := fun e => by
  rcases e with e | e
  · obtain ⟨_, hb⟩ := h.row.own e
    exact blkT hk hb h2
  · subst e
    exact blkT hk h.box h1
theorem WantI.noDef {wx : Nat} {V7 V : World} {l : List Int} {vw : Value} (h : WantI wx V7 l vw V) {k : Nat} {o : Obj} (hk : V.heap[k]? = some o) (ho : o.isCells = false) : ¬ (vw.ownBlock = some k ∨ k = wx) := fun e => by
  rcases e with e | e
  · obtain ⟨_, hb⟩ := h.row.own e
    unfold Blk at hb
    rw [hk] at hb; cases hb; cases ho
  · subst e
    have hb := h.box
    unfold Blk at hb
    rw [hk] at hb; cases hb; cases ho
/-- One more. -/
theorem WantI.push {wx g n cap : Nat} {V7 V w6 : World} {l p : List Int} {vw : Value} {o : Obj} (h : WantI wx V7 l vw V) (hwx : wx < V7.heap.size) (hR : RefRow w6 (.slice (some ⟨g, 0, none⟩) n cap) p) (hT : Turn (fun k => vw.ownBlock = some k) (V.alloc o) w6) (hg : vw.ownBlock = some g ∨ (V.alloc o).heap.size ≤ g) :
    Blk w6 wx #[vw] 30 ∧ WantI wx V7 p (.slice (some ⟨g, 0, none⟩) n cap) (w6.setCell ⟨wx, 0, none⟩ (.slice (some ⟨g, 0, none⟩) n cap)) ∧
      Turn (fun k => vw.ownBlock = some k ∨ k = wx) V (w6.setCell ⟨wx, 0, none⟩ (.slice (some ⟨g, 0, none⟩) n cap)) ∧ (vw.ownBlock = some g ∨ V.heap.size ≤ g) ∧ g < (w6.setCell ⟨wx, 0, none⟩ (.slice (some ⟨g, 0, none⟩) n cap)).heap.size := by
  have hva : (V.alloc o).heap.size = V.heap.size + 1 := by simp
  have h1 := h.alloc o
  have hwx2 : vw.ownBlock ≠ some wx := fun e => by
    obtain ⟨_, hb⟩ := h1.row.own e
    exact blkT hb h1.box (by decide)
  have hb := h1.box.turn hT hwx2
  have hgw : g ≠ wx := fun e => by
    obtain ⟨_, hb2⟩ := hR.own (k := g) rfl
    rw [e] at hb2
    exact blkT hb2 hb (by decide)
  have hgl : g < w6.heap.size := by
    obtain ⟨_, hb2⟩ := hR.own (k := g) rfl
    exact hb2.lt
  have hS : Turn (fun k => k = wx) w6 (w6.setCell ⟨wx, 0, none⟩ (.slice (some ⟨g, 0, none⟩) n cap)) := (Turn.refl _ w6).set _ _ (.inr rfl)
  have hsV := h.turn.size
  refine ⟨hb, ⟨(hb.setAt 0 _).is (by simp), hR.turn hS (fun k e e2 => hgw ((own_slice e).trans e2)), fun k e => ?_, ?_⟩, ?_, ?_, by simpa using hgl⟩
  · have e2 := own_slice e
    subst e2
    rcases hg with e3 | e3
    · exact h.new _ e3
    · omega
  · refine ((h.turn.alloc o).trans hT (fun k hk e => ?_)).trans hS (fun k hk e => e)
    have := h.new k e
    omega
  · refine (((Turn.refl (fun k => vw.ownBlock = some k ∨ k = wx) V).alloc o).trans hT (fun k hk e => .inl e)).trans hS (fun k hk e => .inr e)
  · rcases hg with e | e
    · exact .inl e
    · exact .inr (by omega)
theorem WantI.owned {wx g m : Nat} {V V' : World} {vw : Value} {O : Nat → Prop} (hT : Turn (fun k => vw.ownBlock = some k ∨ k = wx) V V') (hO : ∀ k, vw.ownBlock = some k → m ≤ k → O k) (hwx : wx < m) (hg : vw.ownBlock = some g ∨ V.heap.size ≤ g) (hgl : g < V'.heap.size) : OwnedT m O (fun k => O k ∨ (k = g ∧ m ≤ k)) V V' := by
  refine ⟨hT.size, fun k hk hk2 hn => hT.block k hk2 (fun e => ?_), fun k hk => ?_⟩
  · rcases e with e | e
    · exact hn (hO k e hk)
    · omega
  · rcases hk with hk | ⟨rfl, hk⟩
    · exact .inl hk
    · rcases hg with e | e
      · exact .inl (hO _ e hk)
      · exact .inr ⟨e, hgl⟩
theorem WantI.kept {wx : Nat} {V7 V V' : World} {l : List Int} {vw : Value} (h : WantI wx V7 l vw V) (hT : Turn (fun k => vw.ownBlock = some k ∨ k = wx) V V') {R : RtB} {th : Nat → Option TM} {Bx b0 : Nat} (hR : ∀ k, R.has th k → k < V7.heap.size ∧ k ≠ wx) (hB : Bx < V.heap.size) (hB2 : ¬ (vw.ownBlock = some Bx ∨ Bx = wx)) : KpRt R th Bx b0 V V' := by
  have hs := h.turn.size
  refine ⟨fun k hk => hT.block k (by have := (hR k hk).1; omega) (fun e => ?_), hT.block Bx hB hB2, fun k cs _ hk => (hT.block k hk.lt (h.noReg hk (by decide) (by decide))).trans hk⟩
  rcases e with e | e
  · have := h.new k e; have := (hR k hk).1; omega
  · exact (hR k hk).2 e
theorem RtIn.setGlobalAny {B t N : Nat} {F : Nat → Prop} {regs stk : Int} {gl : List Int} {th : Nat → Option TM} {wb wr : World} (h : RtIn B F t N regs stk gl th wb wr) (i : Nat) (x r : Int) (hx : x = i) : Calls Try.prog 15 #[.pointer (some ⟨t, 0, none⟩), .int .i64 x, .int .i64 r] wr fun e w' =>
    ∃ z gl', e = .returned (.int .i64 z) ∧ RtIn B F t N regs stk gl' th wb w' ∧ Keep F wr w' := by
  by_cases hi : i < gl.length
  · refine (h.setGlobal i hi x r hx).mono ?_
    rintro e w1 ⟨rfl, h1, hk⟩
    exact ⟨_, _, rfl, h1, hk⟩
  · refine (h.setGlobalNo x (by omega) r).mono ?_
    rintro e w1 ⟨rfl, rfl⟩
    exact ⟨_, _, rfl, h, ⟨Nat.le_refl _, fun _ _ => rfl⟩⟩
def OrdA (B t len : Nat) (wb : World) (v : Value) (wr : World) : Prop := ∃ (i : Nat) (gl : List Int) (th : Nat → Option TM), i ≤ len ∧ v = .int .i64 (i : Int) ∧ RtIn B (fun _ => False) t 4 2 2 gl th wb wr

set_option maxRecDepth 100000 in
set_option maxHeartbeats 8000000 in
theorem order_true (a0 : Option Addr) (len cap : Nat) (Q : Nat → Nat → Int) (w : World) (_ : len ≤ 9223372036854775807) (hZ : QuadAt w a0 len Q) :
    Calls Try.prog 6 #[.slice a0 len cap] w fun e w' => e = .returned (.bool true) ∧ Below w.heap.size w w' := by
  have HZ := Lib.hid hZ
  clear hZ
  obtain ⟨M, hM⟩ : ∃ M : Nat, 14 ≤ M := ⟨14, Nat.le_refl _⟩
  refine calls_of_wp_marks Try.func6 rfl M ?_
  simp only [Try.ntmps6, List.size_toArray, List.length_cons, List.length_nil, Nat.reduceAdd, Nat.reduceSub, Array.replicate_succ, Array.replicate_zero, List.push_toArray, List.append_toArray, List.nil_append, List.cons_append]
  gi_wp2_with fail
  refine ⟨trivial, fun h => (by cases h), ?_⟩
  refine (callsIn_wide.2 (rtfit_true w)).mono ?_
  rintro e w1 ⟨rfl, hB⟩
  by_cases hbig : 60 < (len : Int)
  · gi_wp2_with fail
    refine ⟨.bool true, ?_, rfl, hB⟩
    simp [results, Try.f6, go_sem]
  gi_wp2_with fail
  refine ⟨trivial, fun h => (by cases h), ?_⟩
  refine (callsIn_wide.2 (config_any 3 3 3 3 (by omega) (by omega) rfl rfl w1)).mono ?_
  rintro e w2 ⟨rfl, hB2⟩
  have hB2' := hB.trans (hB2.mono hB.size)
  clear hB hB2
  gi_wp2_with fail
  refine ⟨trivial, fun h => (by cases h), ?_⟩
  refine (callsIn_wide.2 (rtIn_new (B := w.heap.size) (F := fun _ => False) (wb := w) (wr := w2) (1 + 3) 3 2 2 (by omega) (by omega) (by decide) (by decide) (fun k hk => hk.elim) hB2' (Nat.le_refl _))).mono ?_
  rintro e w3 ⟨t, rfl, h3, _⟩
  clear hB2'
  gi_wp2_with fail
  gi_loopw [21] (fun v21 wr => OrdA w.heap.size t len w v21 wr) (fun v21 _ => len - (intOf v21).toNat)
  case atStart => exact ⟨0, _, _, Nat.zero_le _, rfl, h3⟩
  case round =>
    clear h3
    obtain ⟨i, gl, th, hi, rfl, h1⟩ := hrel
    have hi0 : (0 : Int) ≤ (i : Int) := by omega
    by_cases hlt : i < len
    · have hi1 : (i : Int) < (len : Int) := by omega
      obtain ⟨bk, off, rfl, hbk, hcs⟩ := HZ.out i hlt
      have hc0 := (h1.below.cell (p := ⟨bk, off + i * 4, none⟩) hbk).trans (hcs 0 (by decide)).1
      have hc1 := (h1.below.cell (p := ⟨bk, off + i * 4 + 1, none⟩) hbk).trans (hcs 1 (by decide)).1
      have hc2 := (h1.below.cell (p := ⟨bk, off + i * 4 + 2, none⟩) hbk).trans (hcs 2 (by decide)).1
      have hc3 := (h1.below.cell (p := ⟨bk, off + i * 4 + 3, none⟩) hbk).trans (hcs 3 (by decide)).1
      generalize Q i 0 = kd at *
      generalize Q i 1 = id at *
      generalize Q i 2 = kk at *
      generalize Q i 3 = rd at *
      obtain ⟨a, ha, hae⟩ := i64_and_mask kd 3 (by decide)
      replace hae : bits .and .i64 kd 3 = (a : Int) := hae
      obtain ⟨b, hb, hbe⟩ := i64_and_mask id 3 (by decide)
      replace hbe : bits .and .i64 id 3 = (b : Int) := hbe
      obtain ⟨c, hc, hce⟩ := i64_and_mask kk 3 (by decide)
      replace hce : bits .and .i64 kk 3 = (c : Int) := hce
      obtain ⟨q, hq, hqe⟩ := i64_and_mask kk 1 (by decide)
      replace hqe : bits .and .i64 kk 1 = (q : Int) := hqe
      have h2 := h1.box (.cells #[.int .i64 kd, .int .i64 id, .int .i64 kk, .int .i64 rd] 33)
      have hbx := Blk.new wr #[.int .i64 kd, .int .i64 id, .int .i64 kk, .int .i64 rd] 33
      have cS := h2.spawnAny b (by omega) (b : Int) rfl
      have hs1 := h1.size
      clear hcs h1 h2
      gi_wp2_with fail
      refine ⟨trivial, fun h => (by cases h), ?_⟩
      refine (callsIn_wide.2 cS).mono ?_
      rintro e w5 ⟨z, rfl, ⟨th2, ⟨m, hm⟩, h5⟩, hk⟩
      have hbx5 := hk.blk hbx rfl
      have d0 := hbx5.cell 0
      have d2 := hbx5.cell 2
      have d3 := hbx5.cell 3
      simp only [List.getElem?_toArray, List.getElem?_cons_succ, List.getElem?_cons_zero] at d0 d2 d3
      clear cS hbx hk hc0 hc1 hc2 hc3
      have cO : Calls Try.prog 13 #[.pointer (some ⟨t, 0, none⟩), .int .i64 (b : Int)] w5.drew fun e w' => e = .returned (.pointer (some ⟨m.t, 0, none⟩)) ∧ w5.drew = w' := by
        have := h5.drew.of (b : Int)
        rw [atI_nat, hm] at this
        exact this
      have hS : (w5.cell? ⟨wr.heap.size, 2, none⟩ = some (.int .i64 kk)) ∧ (w5.cell? ⟨wr.heap.size, 3, none⟩ = some (.int .i64 rd)) := ⟨d2, d3⟩
      have HBX := Lib.hid hbx5
      have HM := Lib.hid hm
      clear hbx5 hm
      by_cases ha0 : a = 0
      · subst ha0
        have hae2 : bits .and .i64 kd 3 = 0 := hae
        have cG := h5.setGlobalAny c (c : Int) rd rfl
        clear hae cO hS
        gi_wp2_with fail
        refine ⟨trivial, fun h => (by cases h), ?_⟩
        refine (callsIn_wide.2 cG).mono ?_
        rintro e w6 ⟨z, gl', rfl, h6, _⟩
        have h7 := h6.add (F' := fun _ => False) (Below.refl _ _) (fun k hk => hk.elim)
        clear cG h5 h6 d0 d2 d3
        gi_wp2_with fail
        go_roundw
        case rel => exact ⟨i + 1, _, _, hlt, by go_num, h7⟩
        case measure => simp [intOf]; omega
      · by_cases ha1 : a = 1
        · subst ha1
          have hae2 : bits .and .i64 kd 3 = 1 := hae
          have cG := h5.drew.setReg HM.out q (q : Int) rfl (by omega) rd
          clear hae ha0
          gi_wp2_with fail
          refine wpIn_wide.2 ?_
          go_region_held3 (fun w' => w'.cell? ⟨wr.heap.size, 2, none⟩ = some (.int .i64 kk) ∧ w'.cell? ⟨wr.heap.size, 3, none⟩ = some (.int .i64 rd)) (first | exact hS | exact hS6)
            (first
              | (go_at_call 13; refine cO.mono ?_; rintro e w' ⟨rfl, rfl⟩)
              | (go_at_call 14; refine cG.mono ?_; rintro e w6 ⟨rfl, h6, hk6⟩; have hS6 : w6.cell? ⟨wr.heap.size, 2, none⟩ = some (.int .i64 kk) ∧ w6.cell? ⟨wr.heap.size, 3, none⟩ = some (.int .i64 rd) := ⟨(hk6.blk HBX.out.drew rfl).cell 2, (hk6.blk HBX.out.drew rfl).cell 3⟩))
          have h7 := h6.add (F' := fun _ => False) (Below.refl _ _) (fun k hk => hk.elim)
          clear cG cO h5 h6 d0 d2 d3 hS
          gi_wp2_with fail
          go_roundw
          case rel => exact ⟨i + 1, _, _, hlt, by go_num, h7⟩
          case measure => simp [intOf]; omega
        · have hae2 : (bits .and .i64 kd 3 == 0) = false := by rw [hae]; simp; omega
          have hae3 : (bits .and .i64 kd 3 == 1) = false := by rw [hae]; simp; omega
          have cG := h5.drew.pushAny HM.out rd
          clear hae ha0 ha1 ha
          gi_wp2_with fail
          refine wpIn_wide.2 ?_
          go_region_held3 (fun w' => w'.cell? ⟨wr.heap.size, 2, none⟩ = some (.int .i64 kk) ∧ w'.cell? ⟨wr.heap.size, 3, none⟩ = some (.int .i64 rd)) (first | exact hS | exact hS6)
            (first
              | (go_at_call 13; refine cO.mono ?_; rintro e w' ⟨rfl, rfl⟩)
              | (go_at_call 20; refine cG.mono ?_; rintro e w6 ⟨z6, st6, rfl, _, h6, hk6⟩; have hS6 : w6.cell? ⟨wr.heap.size, 2, none⟩ = some (.int .i64 kk) ∧ w6.cell? ⟨wr.heap.size, 3, none⟩ = some (.int .i64 rd) := ⟨(hk6.blk HBX.out.drew rfl).cell 2, (hk6.blk HBX.out.drew rfl).cell 3⟩))
          have h7 := h6.add (F' := fun _ => False) (Below.refl _ _) (fun k hk => hk.elim)
          clear cG cO h5 h6 d0 d2 d3 hS
          gi_wp2_with fail
          go_roundw
          case rel => exact ⟨i + 1, _, _, hlt, by go_num, h7⟩
          case measure => simp [intOf]; omega
    · have hi1 : ¬ (i : Int) < (len : Int) := by omega
      clear hlt hi hi0
      have hs1 := h1.size
      have h5 := h1.box (.cells #[.slice none 0 0] 30)
      have hb5 := Blk.new wr #[.slice none 0 0] 30
      have hs5 : (wr.alloc (.cells #[.slice none 0 0] 30)).heap.size = wr.heap.size + 1 := by simp
      clear h1
      have HB5 := Lib.hid hb5
      have HS5 := Lib.hid hs5
      clear hb5 hs5
      gi_wp2_with fail
      refine ⟨trivial, fun h => (by cases h), ?_⟩
      refine (callsIn_wide.2 (globalsfn_any t _)).mono ?_
      rintro e w' ⟨rfl, rfl⟩
      have hb7 := HB5.out.alloc (.cells #[.pointer (some ⟨t, 0, none⟩)] 27)
      have hx7 := (Blk.new (wr.alloc (.cells #[.slice none 0 0] 30)) #[.pointer (some ⟨t, 0, none⟩)] 27).cell 0
      have h7 := h5.alloc (.cells #[.pointer (some ⟨t, 0, none⟩)] 27)
      have hs7 : wr.heap.size + 2 ≤ ((wr.alloc (.cells #[.slice none 0 0] 30)).alloc (.cells #[.pointer (some ⟨t, 0, none⟩)] 27)).heap.size := by simp
      rw [HS5.out] at hx7
      have H7 := Lib.hid (And.intro hb7 (And.intro hx7 hs7))
      clear h5 hb7 hx7 hs7 HB5 HS5
      gi_wp2_with fail
      obtain ⟨hb7, hx7, hs7⟩ := H7.out
      clear H7
      generalize (wr.alloc (.cells #[.slice none 0 0] 30)).alloc (.cells #[.pointer (some ⟨t, 0, none⟩)] 27) = V7 at *
      obtain ⟨R, rfl, hA, hF⟩ := h7.ex
      have hlt := hA.lt
      have hwx : wr.heap.size < V7.heap.size := by omega
      have hRx : ∀ k, R.has th k → k < V7.heap.size ∧ k ≠ wr.heap.size := fun k hk => ⟨hlt k hk, (hF k hk).2⟩
      have hg4 := hA.gfew
      have hthr := hA.thr
      refine wpIn_rangeT rfl (by omega) (gf := 36) (lb := #[.pointer (some ⟨wr.heap.size + 1, 0, none⟩)]) rfl trivial (enters_of Try.func36 (by kernel_rfl) rfl)
        (SeqT.ofK (globals_stops (M - 1) (wr.heap.size + 1) V7 hA hx7)) KpRt.trans (fun W l o o' hl ho hc => KpRt.putObj hlt (by omega) W l o o' hl ho hc) (Below.refl _ _) (fun _ => rfl)
        (fun st V => ∃ vw, WantI wr.heap.size V7 st.1 vw V ∧ ∀ k, vw.ownBlock = some k → st.2 k)
        (fun c st V => False)
        (fun st A C row ⟨vw, e1, e2⟩ hg hr => ⟨vw, e1.grown (Nat.le_refl _) hg hr, e2⟩) (fun c st A C row hs hg hr => hs)
        ⟨_, ⟨hb7, ⟨rfl, .inl ⟨rfl, rfl⟩⟩, fun k e => (by cases e), Turn.refl _ _⟩, fun k e => (by cases e)⟩ ?a1 ?assign ?body ?done ?stop
      case assign =>
        intro l0 x W K hK
        gi_wp2
        exact hK
      case stop =>
        rintro D c pre O V hD _ h
        exact h.elim
      case body =>
        rintro l0 pre O x V hl0 _ hO ⟨vw, hW, hOw⟩ hlen
        have ck := hW.box.cell 0
        have hV7 := hW.turn.size
        simp only [List.getElem?_toArray, List.getElem?_cons_zero] at ck
        have HW := Lib.hid hW
        have HL := Lib.hid (show pre.length ≤ 1000000 by omega)
        clear hW
        gi_wp2_with (gi_at_builtin; refine wpListIn_pushW rfl _ _ rfl (HW.out.alloc (.cells #[.int .i64 x] 31)).row HL.out V.heap.size 1 x ((Blk.new V _ _).cell 0) rfl rfl ?_; intro g6 n6 c6 w6 hR6 hT6 hN6; obtain ⟨hb6, hG6⟩ := HW.out.push hwx hR6 hT6 hN6; have cb6 := hb6.cell 0; have zb6 := hb6.free 0; simp only [List.getElem?_toArray, List.getElem?_cons_zero] at cb6; have HG := Lib.hid hG6; clear hR6 hT6 hN6 hb6 hG6)
        obtain ⟨hW6, hTT, hg6, hgl6⟩ := HG.out
        exact ⟨_, WantI.owned (m := V7.heap.size) (O := O) hTT (fun k e _ => hOw k e) hwx hg6 hgl6, HW.out.kept hTT hRx (by omega) (fun e => by
          rcases e with e | e
          · have := HW.out.new _ e; omega
          · omega), _, hW6, fun k e => .inr ⟨(own_slice e).symm, hW6.new k e⟩⟩
      case done =>
        rintro D xs O V hD hO hxs ⟨vw, hW, hOw⟩ hK
        replace hxs : xs = nz gl := hxs
        subst hxs
        have hV7 := hW.turn.size
        have hDl : D < V.heap.size := (Array.getElem?_eq_some_iff.mp hK).1
        have hAV := hA.turn hW.turn (fun k hk e => (hF k hk).2 e)
        gi_wp2_with fail
        refine ⟨trivial, fun h => (by cases h), ?_⟩
        refine (callsIn_wide.2 (threadsfn_any R.t V)).mono ?_
        rintro e w' ⟨rfl, rfl⟩
        have hB10 := (Below.refl V.heap.size V).alloc (Nat.le_refl _) (.cells #[.pointer (some ⟨R.t, 0, none⟩)] 27)
        have hA10 := hAV.below hB10
        have hW10 := hW.alloc (.cells #[.pointer (some ⟨R.t, 0, none⟩)] 27)
        have hx10 := Blk.new V #[.pointer (some ⟨R.t, 0, none⟩)] 27
        have hs10 : (V.alloc (.cells #[.pointer (some ⟨R.t, 0, none⟩)] 27)).heap.size = V.heap.size + 1 := by simp
        have hK10 := (hB10.block D hDl).trans hK
        have H10 := Lib.hid (And.intro hx10 (And.intro hs10 (And.intro hK10 hW10)))
        clear hB10 hx10 hs10 hK10 hW10 hW hAV
        gi_wp2_with fail
        obtain ⟨hx10, hs10e, hK10, hW10⟩ := H10.out
        have hs10 := Nat.le_of_eq hs10e
        have hs10' := Nat.le_of_eq hs10e.symm
        clear H10 hs10e
        generalize V.alloc (.cells #[.pointer (some ⟨R.t, 0, none⟩)] 27) = V10 at *
        have hlt10 := hA10.lt
        refine wpIn_rangeT rfl (by omega) (gf := 34) (lb := #[.pointer (some ⟨V.heap.size, 0, none⟩)]) rfl trivial (enters_of Try.func34 (by kernel_rfl) rfl)
          (SeqT.ofK (threads_stops (M - 1) V.heap.size V10 hA10 (hx10.cell 0))) KpRt.trans (fun W l o o' hl ho hc => KpRt.putObj hlt10 (by omega) W l o o' hl ho hc) (Below.refl _ _) (fun _ => rfl)
          (fun st V' => ∃ vw, WantI wr.heap.size V7 (nz gl ++ st.1.flatMap (fun x => rootsP (2 : Int).toNat x.val)) vw V' ∧ (∀ k, vw.ownBlock = some k → V10.heap.size ≤ k → st.2 k) ∧ Blk V' V.heap.size #[.pointer (some ⟨R.t, 0, none⟩)] 27 ∧ V'.heap[D]? = some (.deferred (some [])) ∧ V10.heap.size ≤ V'.heap.size)
          (fun c st V' => False)
          (fun st A C row ⟨vw, e1, e2, e3, e4, e5⟩ hg hr => ⟨vw, e1.grown (by omega) hg hr, e2, e3.keptT hg (fun r e => (hr r e).2), def_grown e4 (by omega) hg (fun r e => (hr r e).1), Nat.le_trans e5 hg.size⟩) (fun c st A C row hs hg hr => hs)
          ⟨vw, by simpa using hW10, fun k e hk => (by have h9 := hW10.ltO e; omega), hx10, hK10, Nat.le_refl _⟩ ?b1 ?assign2 ?body2 ?done2 ?stop2
        case assign2 =>
          intro l0 x W K hK
          gi_wp2
          exact hK
        case stop2 =>
          rintro D2 c pre O2 V2 hD2 _ h
          exact h.elim
        case body2 =>
          rintro l2 xs O2 x V1 hl2 ⟨r2, hrec2⟩ hO2 ⟨vw1, hW1, hOw1, hbx1, hdf1, hsz1⟩ hlen
          have hA1 := hA.turn hW1.turn (fun k hk e => (hF k hk).2 e)
          obtain ⟨hAt, hAx⟩ := hA1.thr x.val.1 x.val.2 x.property
          gi_wp2_with fail
          refine ⟨trivial, fun h => (by cases h), ?_⟩
          refine ((callsIn_wide.2 (rootsfn_any x.val.2.t V1)).inRound l2).mono ?_
          rintro e w' ⟨rfl, rfl⟩
          have hB12 := (Below.refl V1.heap.size V1).alloc (Nat.le_refl _) (.cells #[.pointer (some ⟨x.val.2.t, 0, none⟩)] 38)
          have hT12 := hAx.below hB12
          have hA12 := hA1.below hB12
          have hx12 := Blk.new V1 #[.pointer (some ⟨x.val.2.t, 0, none⟩)] 38
          have hs12 : (V1.alloc (.cells #[.pointer (some ⟨x.val.2.t, 0, none⟩)] 38)).heap.size = V1.heap.size + 1 := by simp
          have hr12 := (hB12.block l2 (Array.getElem?_eq_some_iff.1 hrec2).1).trans hrec2
          have hd12 := (hB12.block D (by omega)).trans hdf1
          have hW12 := hW1.alloc (.cells #[.pointer (some ⟨x.val.2.t, 0, none⟩)] 38)
          have hb12 := hbx1.alloc (.cells #[.pointer (some ⟨x.val.2.t, 0, none⟩)] 38)
          have hk12 : KpRt R th V.heap.size V10.heap.size V1 (V1.alloc (.cells #[.pointer (some ⟨x.val.2.t, 0, none⟩)] 38)) := KpRt.ofBelow hA1.lt (by omega) hB12
          have ho12 : OwnedT V10.heap.size O2 O2 V1 (V1.alloc (.cells #[.pointer (some ⟨x.val.2.t, 0, none⟩)] 38)) := ⟨by omega, fun k _ hk _ => hB12.block k hk, fun k hk => .inl hk⟩
          have hpl : (nz gl ++ xs.flatMap (fun x => rootsP (2 : Int).toNat x.val)).length ≤ 4 + 4 * 8192 := by
            have h1 := flat_length (f := fun x : LiveOf th => rootsP (2 : Int).toNat x.val) (M := 8192) (fun y => by
              have h2 := (hA1.thr y.val.1 y.val.2 y.property).2.deep
              have h3 : (rootsOf y.val.2.f (2 : Int).toNat y.val.2.st).length ≤ _ := rootsP_length
              show (rootsOf y.val.2.f (2 : Int).toNat y.val.2.st).length ≤ 8192
              omega) xs
            have h5 := List.length_filter_le (fun r => r != 0) gl
            rw [List.length_append]
            unfold nz
            have h6 : xs.length * 8192 ≤ 4 * 8192 := Nat.mul_le_mul_right _ (by omega)
            omega
          have H12 := Lib.hid (And.intro hx12 (And.intro hs12 (And.intro hr12 (And.intro hd12 (And.intro hW12 (And.intro hb12 (And.intro hk12 ho12)))))))
          clear hB12 hx12 hs12 hr12 hd12 hW12 hb12 hk12 ho12
          gi_wp2_with fail
          obtain ⟨hx12, hs12e, hr12, hd12, hW12, hb12, hk12, ho12⟩ := H12.out
          have hs12 := Nat.le_of_eq hs12e
          have hs12' := Nat.le_of_eq hs12e.symm
          clear H12 hs12e
          generalize V1.alloc (.cells #[.pointer (some ⟨x.val.2.t, 0, none⟩)] 38) = V12 at *
          have hlt12 := hT12.lt
          have hlA12 := hA12.lt
          obtain ⟨pre0, hpre0⟩ : ∃ p, p = nz gl ++ xs.flatMap (fun x => rootsP (2 : Int).toNat x.val) := ⟨_, rfl⟩
          rw [← hpre0] at hW12 hpl
          have HP0 := Lib.hid hpre0
          clear hpre0
          refine wpIn_rangeTN rfl hr12 (by omega) (gf := 37) (lb := #[.pointer (some ⟨V1.heap.size, 0, none⟩)]) rfl trivial (enters_of Try.func37 (by kernel_rfl) rfl)
            ((SeqT.ofK (roots_stops (M - 1 - 1 - 1) V1.heap.size V12 hT12 (by rw [hAt]; exact hx12.cell 0))).inRound l2) KpTh.trans (fun W l o o' hl ho hc => KpTh.putObj hlt12 (by omega) W l o o' hl ho hc) (Below.refl _ _) (fun _ => rfl)
            (fun st V' => ∃ vw, WantI wr.heap.size V7 (pre0 ++ st.1) vw V' ∧ (∀ k, vw.ownBlock = some k → V12.heap.size ≤ k → st.2 k) ∧ Blk V' V1.heap.size #[.pointer (some ⟨x.val.2.t, 0, none⟩)] 38 ∧ Blk V' V.heap.size #[.pointer (some ⟨R.t, 0, none⟩)] 27 ∧ V'.heap[D]? = some (.deferred (some [])) ∧ V12.heap.size ≤ V'.heap.size ∧ KpRt R th V.heap.size V10.heap.size V1 V' ∧ ∃ O5, OwnedT V10.heap.size O2 O5 V1 V' ∧ ∀ k, vw.ownBlock = some k → V10.heap.size ≤ k → O5 k)
            (fun c st V' => False)
            (fun st A C row ⟨vw, e1, e2, e3, e4, e5, e6, e7, O5, e8, e9⟩ hg hr => ⟨vw, e1.grown (by omega) hg hr, e2, e3.keptT hg (fun r e => (hr r e).2), e4.keptT hg (fun r e => (hr r e).2), def_grown e5 (by omega) hg (fun r e => (hr r e).1), Nat.le_trans e6 hg.size, e7.grown hlA12 (by omega) e6 hg hr, O5, e8.grown (by omega) hg (fun r e => (hr r e).1), e9⟩)
            (fun c st A C row hs hg hr => hs)
            ⟨vw1, by simpa using hW12, fun k e hk => (by have h9 := hW1.ltO e; omega), hx12, hb12, hd12, Nat.le_refl _, hk12, O2, ho12, hOw1⟩ ?c1 ?assign3 ?body3 ?done3 ?stop3
          case assign3 =>
            intro l0 x W K hK
            gi_wp2
            exact hK
          case stop3 =>
            rintro c pre O3 V3 _ h
            exact h.elim
          case body3 =>
            rintro l3 pre O3 y V2 hl3 _ hO3 ⟨vw2, hW2, hOw2, hbt2, hbr2, hdf2, hsz2, hkp2, O5, ho2, hOw5⟩ hlen3
            have ck := hW2.box.cell 0
            simp only [List.getElem?_toArray, List.getElem?_cons_zero] at ck
            have HW := Lib.hid hW2
            have HL := Lib.hid (show (pre0 ++ pre).length ≤ 1000000 by rw [List.length_append]; omega)
            clear hW2
            gi_wp2_with (gi_at_builtin; refine wpListIn_pushW rfl _ _ rfl (HW.out.alloc (.cells #[.int .i64 y] 31)).row HL.out V2.heap.size 1 y ((Blk.new V2 _ _).cell 0) rfl rfl ?_; intro g6 n6 c6 w6 hR6 hT6 hN6; obtain ⟨hb6, hG6⟩ := HW.out.push hwx hR6 hT6 hN6; have cb6 := hb6.cell 0; have zb6 := hb6.free 0; simp only [List.getElem?_toArray, List.getElem?_cons_zero] at cb6; have HG := Lib.hid hG6; clear hR6 hT6 hN6 hb6 hG6)
            obtain ⟨hW6, hTT, hg6, hgl6⟩ := HG.out
            rw [List.append_assoc] at hW6
            have hkp := HW.out.kept (Bx := V1.heap.size) (b0 := V12.heap.size) hTT hRx (by omega) (HW.out.noReg hbt2 (by decide) (by decide))
            have hkq := HW.out.kept (Bx := V.heap.size) (b0 := V10.heap.size) hTT hRx (by omega) (HW.out.noReg hbr2 (by decide) (by decide))
            have hts := hTT.size
            refine ⟨_, WantI.owned (m := V12.heap.size) (O := O3) hTT hOw2 (by omega) hg6 hgl6, ⟨fun k hk => hkp.th k (.inr (.inr ⟨x.val.1, x.val.2, x.property, hk⟩)), hkp.box, hkp.late⟩, _, hW6, fun k e hk => .inr ⟨(own_slice e).symm, hk⟩, hbt2.turn hTT (HW.out.noReg hbt2 (by decide) (by decide)), hbr2.turn hTT (HW.out.noReg hbr2 (by decide) (by decide)), (hTT.block D (by omega) (HW.out.noDef hdf2 rfl)).trans hdf2, by omega, hkp2.trans hkq, _, ho2.trans (WantI.owned (m := V10.heap.size) (O := O5) hTT hOw5 (by omega) hg6 hgl6), fun k e hk => .inr ⟨(own_slice e).symm, hk⟩⟩
          case done3 =>
            rintro ys O3 V3 hO3 hys ⟨vw2, hW2, hOw2, hbt2, hbr2, hdf2, hsz2, hkp2, O5, ho2, hOw5⟩
            replace hys : ys = rootsP (2 : Int).toNat x.val := hys
            subst hys
            refine ⟨O5, ho2, hkp2, vw2, ?_, hOw5, hbr2, hdf2, by omega⟩
            rw [List.flatMap_append, List.flatMap_cons, List.flatMap_nil, List.append_nil, ← List.append_assoc, ← HP0.out]
            exact hW2
        case done2 =>
          rintro D2 xs O2 V2 hD2 hO2 hxs ⟨vw2, hW2, hOw2, hbx2, hdf2, hsz2⟩ hK2
          have hall : nz gl ++ xs.flatMap (fun x => rootsP (2 : Int).toNat x.val) = allR gl (2 : Int).toNat th := by
            replace hxs : xs.map Subtype.val = liveT th 4 := hxs
            unfold allR
            rw [← hxs, List.flatMap_map]
          have hlall : (allR gl (2 : Int).toNat th).length ≤ 1000 := by
            have h1 := flat_length (f := fun x : LiveOf th => rootsP (2 : Int).toNat x.val) (M := 4) (fun y => by
              have h2 := (hthr y.val.1 y.val.2 y.property).2.fit
              have h3 : (rootsOf y.val.2.f (2 : Int).toNat y.val.2.st).length ≤ (2 : Int).toNat + y.val.2.st.length := rootsP_length
              have h4 : (2 : Int).toNat = 2 := rfl
              show (rootsOf y.val.2.f (2 : Int).toNat y.val.2.st).length ≤ 4
              rcases h2 with h2 | h2
              · omega
              · rw [h2] at h3 ⊢; simp at h3 ⊢; omega) xs
            have h5 := List.length_filter_le (fun r => r != 0) gl
            have h6 := liveT_length th 4
            replace hxs : xs.map Subtype.val = liveT th 4 := hxs
            rw [← hxs, List.length_map] at h6
            rw [← hall, List.length_append]
            unfold nz
            have h7 : xs.length * 4 ≤ 4 * 4 := Nat.mul_le_mul_right _ h6
            omega
          rw [hall] at hW2
          have hnz : nz (allR gl (2 : Int).toNat th) = allR gl (2 : Int).toNat th := by
            unfold nz
            rw [List.filter_eq_self]
            intro r hr
            unfold allR at hr
            rcases List.mem_append.1 hr with h | h
            · exact (List.mem_filter.1 h).2
            · obtain ⟨p, hp, h⟩ := List.mem_flatMap.1 h
              unfold rootsP rootsOf regRoots at h
              rcases List.mem_append.1 h with h | h
              · obtain ⟨q, hq, rfl⟩ := List.mem_map.1 h
                have := segR_mem hq
                rw [this.2.2.1]
                simpa using this.2.2.2
              · exact (List.mem_filter.1 h).2
          have h9 : RtIn w.heap.size (fun k => k = wr.heap.size) R.t 4 2 2 gl th w V2 := h7.turned hW2.turn (fun k e => ⟨e, by have e2 : k = wr.heap.size := e; omega⟩)
          have ck := hW2.box.cell 0
          simp only [List.getElem?_toArray, List.getElem?_cons_zero] at ck
          have cS := same_true h9 vw2 _ hW2.row hlall hnz
          have hDl2 : D2 < V2.heap.size := (Array.getElem?_eq_some_iff.mp hK2).1
          have hMM : Marks w.heap.size (D2 + 1) [{ target := .collected D2, args := #[] }, { target := .collected D, args := #[] }] V2 := ⟨D2, rfl, by omega, by omega, hK2, D, rfl, by omega, by omega, hdf2, trivial⟩
          have hbl9 := h9.below
          clear hxs hlall hall hnz hW2 h9 hA10 hA hF hlt hthr hRx hW10
          gi_wp2_with fail
          refine ⟨trivial, fun h => (by cases h), ?_⟩
          refine (callsIn_wide.2 cS).mono ?_
          rintro e w13 ⟨rfl, hB13⟩
          have hs13 := hB13.size
          have hM9 : Marks w.heap.size (D2 + 1) [{ target := .collected D2, args := #[] }, { target := .collected D, args := #[] }] w13 := hMM.keep fun i0 h0 h1 h2 => (hB13.block i0 (Array.getElem?_eq_some_iff.1 h2).1).trans h2
          have hBW9 := hbl9.trans (hB13.mono (by omega))
          clear hMM hB13 cS hbl9
          gi_wp2_with fail
          refine leavesP_marks hM9 (by omega) fun w' hb _ hcs => ?_
          refine ⟨.bool true, ?_, rfl, hBW9.trans hb⟩
          simp [results, Try.f6, go_sem]
end Go.Proofs.Ytoemfehlnnbjdaa
