/- A marker's Count, Drained and refill; at this seat's numbers. A marker beside its arena; refill; at this seat's numbers. Points: its iterator, where each element is known to be one of the fields that aren't 0; at this seat's numbers. A marker scans an object; at this seat's numbers. A marker's Trace; at this seat's numbers. New; the law's fit; at this seat's numbers. -/
import Derived.Test.YtidpmplkbgllfaaGreatDoorGmI
import Derived.Test.YtidpmplkbgllfaaGreatDoorGoB
import Derived.Test.YtidpmplkbgllfaaGreatDoorUh
import Derived.Deep.LoopGhost
namespace Go.Proofs.YtidpmplkbgllfaaGreatDoor
open Go Go.RowKit Go.Shelf Go.MuLone Go.RwLone
set_option linter.unusedSimpArgs false
set_option linter.unusedVariables false
attribute [local go_sem] Oper.semAt_some

theorem elems_nodup (S : Nat → Bool) (n : Nat) : (elems S n).Nodup := by unfold elems; exact List.nodup_range.filter _
theorem soL_mem {f : Int → Bool} {S : Nat → Bool} (hS : ∀ k : Nat, f (k : Int) = true → S k = true) {N : Nat} (hn : ∀ i, S i = true → i < N) (k : Nat) : k ∈ soL f (elems S N) ↔ f (k : Int) = true := by
  unfold soL elems
  rw [List.mem_filter, List.mem_filter, List.mem_range]
  exact ⟨fun h => h.2, fun h => ⟨⟨hn k (hS k h), hS k h⟩, h⟩⟩
theorem soL_nodup (f : Int → Bool) (S : Nat → Bool) (n : Nat) : (soL f (elems S n)).Nodup := by unfold soL; exact (elems_nodup S n).filter _
section
variable {w wr w' : World} {T : MkB} {X : ArB} {s : ArS} {S S2 : Nat → Bool} {c : Col}
theorem MkSees.maS (h : MkSees w T X s S S2 c) : ∀ k : Nat, c.ma (k : Int) = true → S k = true := fun k hk => by rw [h.ma, inS_nat] at hk; exact hk
theorem MkSees.greyS (h : MkSees w T X s S S2 c) : ∀ k : Nat, greyC c (k : Int) = true → S k = true := fun k hk => h.maS k (by unfold greyC at hk; cases hm : c.ma (k : Int) with | true => rfl | false => rw [hm] at hk; cases hk)
theorem MkSees.nonneg (h : MkSees w T X s S S2 c) {x : Int} (hx : c.ma x = true) : ∃ k : Nat, x = (k : Int) := by
  rw [h.ma] at hx
  have : 0 ≤ x := by have : 0 ≤ x ∧ S x.toNat = true := by simpa [inS] using hx
                     exact this.1
  exact ⟨x.toNat, by omega⟩
end
end Go.Proofs.YtidpmplkbgllfaaGreatDoor

namespace Go.Proofs.YtidpmplkbgllfaaGreatDoor
open Go Go.RowKit Go.Shelf Go.MuLone Go.RwLone
set_option linter.unusedSimpArgs false
set_option linter.unusedVariables false
attribute [local go_sem] Oper.semAt_some

/-- What stands beside a marker: its arena, the two tables, none of which lies in its blocks. -/
structure MkSide (w : World) (T : MkB) (X : ArB) (s : ArS) : Prop where
  ar : ArAt w X s
  P : T.n = 32 * s.P + 1
  tab : TabAt w
  tabc : TableAt w
  far : ∀ k, T.has k → ¬ X.has k
  nt : ¬ T.has 1
  nc : ¬ T.has 0
section
variable {w wr w' w1 : World} {T T' T1 : MkB} {X : ArB} {s : ArS} {S S2 : Nat → Bool} {c : Col} {room : Int} {st : List Int} {ov : Bool} {xa : Nat} {row : Option Nat}
theorem TabAt.turn {M : Nat → Prop} (h : TabAt w) (hT : Turn M w w') (hn : ¬ M 1) : TabAt w' := h.keep (hT.block _ h.lt hn)
theorem MkSide.step (h : MkSide w T X s) (hS : MkStep T w T' w') : MkSide w' T' X s := by
  refine ⟨h.ar.turn hS.turn fun k e e2 => h.far k e2 e, hS.n.trans h.P, h.tab.turn hS.turn h.nt, h.tabc.turn hS.turn h.nc, fun k e e2 => ?_, fun e => ?_, fun e => ?_⟩
  · rcases hS.new k e with e3 | e3
    · exact h.far k e3 e2
    · have := h.ar.lt k e2; omega
  · rcases hS.new _ e with e3 | e3
    · exact h.nt e3
    · have := h.tab.lt; omega
  · rcases hS.new _ e with e3 | e3
    · exact h.nc e3
    · have := h.tabc.lt; omega
theorem MkSide.below (h : MkSide w T X s) (hB : Below w.heap.size w w') : MkSide w' T X s := h.step (MkStep.ofBelow hB)
theorem MkMem.cells (h : MkMem w T xa S S2 room st ov) {k : Nat} (hk : T.has k) : ∃ o, w.heap[k]? = some o ∧ o.isCells = true := by
  have hlt := h.lt k hk
  have ho : w.heap[k]? = some w.heap[k] := Array.getElem?_eq_getElem hlt
  refine ⟨_, ho, ?_⟩
  have go : ∀ {j : Nat} {cs : Array Value} {X : TypeId}, Blk w j cs X → w.heap[j]? = some w.heap[k] → w.heap[k].isCells = true := fun hb h2 => by
    unfold Blk at hb; rw [hb] at h2; rw [← Option.some.inj h2]; rfl
  have gs : ∀ {b N : Nat} {lo : Option Nat} {S : Nat → Bool}, SetAt w b lo N S → (k = b ∨ lo = some k) → w.heap[k].isCells = true := fun hs e => by
    rcases e with e | e
    · obtain ⟨d, l, hB⟩ := hs.2.2.blk
      rw [← e] at hB; exact go hB ho
    · obtain ⟨_, _, h5⟩ := hs
      rw [e] at h5
      obtain ⟨_, _, ws, h6, _⟩ := h5
      exact go h6 ho
  rcases hk with e | e | e | e | e
  · have hb := h.head
    rw [← e] at hb; exact go hb ho
  · exact gs h.s1 e
  · exact gs h.s2 e
  · have hb := h.gr.head
    rw [← e] at hb; exact go hb ho
  · obtain ⟨_, h6⟩ := h.gr.stk.own e
    exact go h6 ho
theorem MkMem.grown (h : MkMem w T xa S S2 room st ov) (hg : w.grownBy w' row) (hr : ∀ r, row = some r → ∃ o : Obj, w.heap[r]? = some o ∧ o.isCells = false) : MkMem w' T xa S S2 room st ov :=
  h.keep fun k hk => by
    obtain ⟨o, ho, hc⟩ := h.cells hk
    exact grownBy_keeps_cells hg hr ho hc
theorem MkAt.grown (h : MkAt w T xa c) (hg : w.grownBy w' row) (hr : ∀ r, row = some r → ∃ o : Obj, w.heap[r]? = some o ∧ o.isCells = false) : MkAt w' T xa c := by
  obtain ⟨S, S2, room, st, ov, hM, hO⟩ := h.ex
  exact ⟨S, S2, room, st, ov, hM.grown hg hr, hO⟩
theorem MkStep.grown (h : MkStep T w T1 w1) (hg : w1.grownBy w' row) (hr : ∀ r, row = some r → w.heap.size ≤ r) : MkStep T w T1 w' :=
  ⟨h.m, h.n, h.new, h.turn.trans (Turn.ofGrownM hg) fun i hi e => by have := hr i e; omega⟩
theorem MkStep.thenT {M : Nat → Prop} (h : MkStep T w T1 w1) (hT : Turn M w1 w') (hM : ∀ k, M k → w.heap.size ≤ k) : MkStep T w T1 w' :=
  ⟨h.m, h.n, h.new, h.turn.trans hT fun i hi e => by have := hM i e; omega⟩
theorem MkMem.deferred {B : Nat} (h : MkMem w T xa S S2 room st ov) (hT : Turn (fun k => B ≤ k ∧ IsDef w k) w w') : MkMem w' T xa S S2 room st ov :=
  h.turn hT fun k hk e => by
    obtain ⟨o, ho, hc⟩ := h.cells hk
    obtain ⟨_, d, hd⟩ := e
    rw [hd] at ho; cases ho; cases hc
theorem MkAt.deferred {B : Nat} (h : MkAt w T xa c) (hT : Turn (fun k => B ≤ k ∧ IsDef w k) w w') : MkAt w' T xa c := by
  obtain ⟨S, S2, room, st, ov, hM, hO⟩ := h.ex
  exact ⟨S, S2, room, st, ov, hM.deferred hT, hO⟩
/-- A round's step owns what it lays. -/
theorem MkStep.owned {B : Nat} {T7 : MkB} {O : Nat → Prop} (h7 : ∀ k, T7.has k → k < B) (hO : ∀ k, T.has k → T7.has k ∨ O k) (hB : B ≤ w.heap.size) (hS : MkStep T w T' w') : ∃ O', Owned B O O' w w' ∧ (∀ k, T'.has k → T7.has k ∨ O' k) ∧ ∀ k, O' k → O k ∨ w.heap.size ≤ k := by
  refine ⟨fun k => O k ∨ (w.heap.size ≤ k ∧ T'.has k), ⟨hS.turn.size, fun k hk hkl hn => hS.turn.block k hkl fun e => ?_, fun k e => ?_⟩, fun k e => ?_, fun k e => ?_⟩
  · rcases hO k e with e2 | e2
    · have := h7 k e2; omega
    · exact hn e2
  · rcases e with e | e
    · exact .inl e
    · exact .inr e.1
  · rcases hS.new k e with e2 | e2
    · rcases hO k e2 with e3 | e3
      · exact .inl e3
      · exact .inr (.inl e3)
    · exact .inr (.inr ⟨e2, e⟩)
  · rcases e with e | e
    · exact .inl e
    · exact .inr e.1
theorem MkMem.sees (h : MkMem wr T X.a S S2 room st ov) (ma : c.ma = inS S) (sc : c.sc = inS S2) (sub : ∀ x, c.sc x = true → c.ma x = true) (hs : MkSide wr T X s) (hi : InAr s c) : MkSees wr T X s S S2 c :=
  ⟨h.head, h.s1, h.s2, hs.ar.toArMem, ma, sc, sub, hi⟩
theorem MkMem.gfar (h : MkMem wr T xa S S2 room st ov) : ∀ k, T.sets k → ¬ T.g.has k := by
  rintro k (e | e | e) e2
  · exact h.gr.farT h.head (by decide) (by decide) (e ▸ e2)
  · exact h.s1.farG h.gr k e2 e
  · exact h.s2.farG h.gr k e2 e
end
def ints (l : List Nat) : List Int := l.map fun n : Nat => (n : Int)
/-- What holds between two pushes of refill. -/
def RefI (T7 : MkB) (V7 : World) (xa : Nat) (S S2 : Nat → Bool) (room : Int) (b : Nat) (f : Int → Bool) (st : List (InMk S f) × (Nat → Prop)) (V : World) : Prop :=
  ∃ G, MkMem V { T7 with g := G } xa S S2 room (ints (tmVals st.1)) false ∧ MkStep T7 V7 { T7 with g := G } V ∧ Blk V b #[.pointer (some ⟨T7.m, 0, none⟩)] 32 ∧ (∀ k, ({ T7 with g := G } : MkB).has k → T7.has k ∨ st.2 k) ∧ (∀ k, st.2 k → V7.heap.size ≤ k) ∧ (st.1.length : Int) ≤ room
def RefX (T7 : MkB) (V7 : World) (xa : Nat) (S S2 : Nat → Bool) (room : Int) (f : Int → Bool) (V : World) : Prop :=
  ∃ G l, MkMem V { T7 with g := G } xa S S2 room l true ∧ MkStep T7 V7 { T7 with g := G } V ∧ (∀ y ∈ l, f y = true) ∧ l ≠ [] ∧ (l.length : Int) ≤ room
theorem refI_own {T7 : MkB} {V7 : World} {xa : Nat} {S S2 : Nat → Bool} {room : Int} {b : Nat} {f : Int → Bool} : OwnFrom V7.heap.size (RefI T7 V7 xa S S2 room b f) := by
  rintro st V V' row ⟨G, hM, hS, hb, hO, hO2, hl⟩ hg hr
  exact ⟨G, hM.grown hg (fun r e => (hr r e).2), hS.grown hg (fun r e => (hr r e).1), hb.kept hg (fun r e => (hr r e).2), hO, hO2, hl⟩
theorem refX_own {T7 : MkB} {V7 : World} {xa : Nat} {S S2 : Nat → Bool} {room : Int} {f : Int → Bool} {β : Type} (q : Code → Prop) (c : Code) : OwnFrom V7.heap.size (fun (_ : β) V => q c ∧ RefX T7 V7 xa S S2 room f V) := by
  rintro st V V' row ⟨hq, G, l, hM, hS, h1, h2, h3⟩ hg hr
  exact ⟨hq, G, l, hM.grown hg (fun r e => (hr r e).2), hS.grown hg (fun r e => (hr r e).1), h1, h2, h3⟩
/-- What refill leaves of the stack. -/
structure Refilled (c : Col) (room : Int) (st : List Int) (ov : Bool) : Prop where
  is : ∀ y ∈ st, greyC c y = true
  all : ∀ y, greyC c y = true → y ∈ st ∨ ov = true
  len : (st.length : Int) ≤ room
  nil : st = [] → ov = false
def RefEnd (T : MkB) (w : World) (xa : Nat) (S S2 : Nat → Bool) (c : Col) (room : Int) (w' : World) : Prop :=
  ∃ (T' : MkB) (st' : List Int) (ov' : Bool), MkMem w' T' xa S S2 room st' ov' ∧ MkStep T w T' w' ∧ Refilled c room st' ov'
section
variable {w wr w' w1 : World} {T T' T1 : MkB} {X : ArB} {s : ArS} {S S2 : Nat → Bool} {c : Col} {room : Int} {st : List Int} {ov : Bool}
end
end Go.Proofs.YtidpmplkbgllfaaGreatDoor

namespace Go.Proofs.YtidpmplkbgllfaaGreatDoor
open Go Go.RowKit Go.Shelf Go.MuLone Go.RwLone
set_option linter.unusedSimpArgs false
set_option linter.unusedVariables false
attribute [local go_sem] Oper.semAt_some

abbrev InPt (F : Nat → Int) (k : Nat) : Type := { x : Fin 6 // x.val < k ∧ nz F x.val = true }
def ptaArgs {F : Nat → Int} {k : Nat} (x : InPt F k) : Array Value := #[.int .i64 (F x.1.val)]
def ptaVals {F : Nat → Int} {k : Nat} (q : List (InPt F k)) : List Nat := q.map fun x => x.1.val
theorem ptaVals_append {F : Nat → Int} {k : Nat} (p q : List (InPt F k)) : ptaVals (p ++ q) = ptaVals p ++ ptaVals q := by unfold ptaVals; exact List.map_append
theorem ptaVals_length {F : Nat → Int} {k : Nat} (q : List (InPt F k)) : (ptaVals q).length = q.length := by unfold ptaVals; exact List.length_map _
/-- What holds between two fields. -/
def PtaRel (X : ArB) (s : ArS) (B k : Nat) (r : Int) (F : Nat → Int) (J : List (InPt F k) → World → Prop) (v10 : Value) (W : World) : Prop :=
  ArAt W X s ∧ TableAt W ∧ W.cell? ⟨B, 0, none⟩ = some (.pointer (some ⟨X.a, 0, none⟩)) ∧ W.cell? ⟨B + 1, 0, none⟩ = some (.int .i64 r) ∧
    ∃ j : Nat, j ≤ k ∧ v10 = .int .i64 (j : Int) ∧ ∃ q : List (InPt F k), ptaVals q = elems (nz F) j ∧ J q W

set_option maxRecDepth 100000 in
set_option maxHeartbeats 4000000 in
theorem pta1_in (n : Nat) {X : ArB} {s : ArS} (B l k : Nat) (r : Int) (F : Nat → Int) (hO : Reads s r k F) (J Jx : List (InPt F k) → World → Prop) (W : World) (hJa : AbidesFrom W.heap.size J)
    (hY : ∀ pre (x : InPt F k) W1, J pre W1 → pre.length < 6 → YieldAt Fence.wide (n - 1) Tryz.prog l (ptaArgs x) W1 fun e W' =>
      (e = .returned (.bool true) ∧ J (pre ++ [x]) W' ∧ KpPt X B W1 W') ∨ (e = .returned (.bool false) ∧ Jx (pre ++ [x]) W'))
    (hA : ArAt W X s) (hT : TableAt W) (hB0 : W.cell? ⟨B, 0, none⟩ = some (.pointer (some ⟨X.a, 0, none⟩))) (hB1 : W.cell? ⟨B + 1, 0, none⟩ = some (.int .i64 r)) (h0 : J [] W) :
    CallsIn Fence.wide n Tryz.prog 51 #[.func (.yield l) #[] #[], .pointer (some ⟨B, 0, none⟩), .pointer (some ⟨B + 1, 0, none⟩)] W fun e W' => (∃ v, e = .returned v) ∧
      ((∃ xs : List (InPt F k), ptaVals xs = elems (nz F) k ∧ J xs W') ∨ (∃ pre : List (InPt F k), (∃ j, j < k ∧ nz F j = true ∧ ptaVals pre = elems (nz F) (j + 1)) ∧ Jx pre W')) := by
  have hk6 := hO.k6
  refine callsIn_of_wp Tryz.func51 rfl (by trivial) ?_ rfl
  simp only [Tryz.ntmps51, List.size_toArray, List.length_cons, List.length_nil, Nat.reduceAdd, Nat.reduceSub, Array.replicate_succ, Array.replicate_zero, List.push_toArray, List.append_toArray, List.nil_append, List.cons_append]
  have cF := ceFields0 hA hT r (k : Int) hO.n
  gi_wp2_with fail
  refine ⟨trivial, fun h => (by cases h), ?_⟩
  refine (callsIn_wide.2 cF).mono ?_
  rintro e W0 ⟨rfl, hBl⟩
  have hA' := hA.below hBl
  have hT' := hT.below hBl
  have hB0' : W0.cell? ⟨B, 0, none⟩ = some (.pointer (some ⟨X.a, 0, none⟩)) := (hBl.cell (p := ⟨B, 0, none⟩) (World.block_lt_of_cell? W _ hB0)).trans hB0
  have hB1' : W0.cell? ⟨B + 1, 0, none⟩ = some (.int .i64 r) := (hBl.cell (p := ⟨B + 1, 0, none⟩) (World.block_lt_of_cell? W _ hB1)).trans hB1
  have h0' := abides_below hJa h0 hBl
  clear cF hA hT hB0 hB1 h0 hBl
  gi_wp2_with fail
  gi_loopw [10] (fun v10 wr => PtaRel X s B k r F J v10 wr) (fun v10 _ => k - (intOf v10).toNat)
  case atStart => exact ⟨hA', hT', hB0', hB1', 0, by omega, rfl, [], rfl, h0'⟩
  case round =>
    clear hA' hT' hB0' hB1' h0'
    obtain ⟨hA, hT, hB0, hB1, j, hj, rfl, q, hq, hJ⟩ := hrel
    have HQ := Lib.hid hq
    clear hq
    by_cases hlt : j < k
    · have hJ1 : (j : Int) < (k : Int) := by omega
      have cR := ceField0 hA hT r (j : Int) (by rw [hO.n]; omega)
      rw [hO.at_ j hlt] at cR
      obtain ⟨y, hy⟩ : ∃ y, F j = y := ⟨_, rfl⟩
      rw [hy] at cR
      have HY := Lib.hid hy
      clear hy
      generalize fldE s r (j : Int) = e0 at *
      gi_wp2_with fail
      refine ⟨trivial, fun h => (by cases h), ?_⟩
      refine (callsIn_wide.2 cR).mono ?_
      rintro e w4 ⟨rfl, hBl⟩
      have hA4 := hA.below hBl
      have hT4 := hT.below hBl
      have hB04 : w4.cell? ⟨B, 0, none⟩ = some (.pointer (some ⟨X.a, 0, none⟩)) := (hBl.cell (p := ⟨B, 0, none⟩) (World.block_lt_of_cell? wr _ hB0)).trans hB0
      have hB14 : w4.cell? ⟨B + 1, 0, none⟩ = some (.int .i64 r) := (hBl.cell (p := ⟨B + 1, 0, none⟩) (World.block_lt_of_cell? wr _ hB1)).trans hB1
      have hJ4 := abides_below hJa hJ hBl
      clear cR hA hT hB0 hB1 hJ
      by_cases hy0 : y = 0
      · have hnz : nz F j = false := by unfold nz; rw [HY.out, hy0]; rfl
        have HNZ := Lib.hid hnz
        subst hy0
        clear hnz
        gi_wp2_with fail
        refine ⟨fun f h => (by cases h), ?_⟩
        gi_wp2_with fail
        go_roundw
        case rel => exact ⟨hA4, hT4, hB04, hB14, j + 1, by omega, by go_num, q, by rw [elems_no (T := nz F) HNZ.out]; exact HQ.out, hJ4⟩
        case measure => simp [intOf]; omega
      · have hnz : nz F j = true := by unfold nz; rw [HY.out, decide_eq_false hy0]; rfl
        have HNZ := Lib.hid hnz
        have hlen : q.length < 6 := by
          have h1 := congrArg List.length HQ.out
          rw [ptaVals_length] at h1
          have h2 := elems_length (nz F) j
          omega
        have hY' := hY q ⟨⟨j, by omega⟩, hlt, HNZ.out⟩ w4 hJ4 hlen
        unfold ptaArgs at hY'
        rw [show F ((⟨⟨j, by omega⟩, hlt, HNZ.out⟩ : InPt F k).1.val) = y from HY.out] at hY'
        obtain ⟨fn, tmps, assign, body, hy, hY2⟩ := hY'
        clear hJ4 hBl hnz
        gi_wp2_with fail
        refine ⟨fun h => (by cases h), ?_⟩
        refine hY2.mono ?_
        rintro e W3 (⟨rfl, hJ3, hk3⟩ | ⟨rfl, hJx3⟩)
        · obtain ⟨hA3, hT3⟩ := hA4.sameA hT4 hk3
          have hB03 : W3.cell? ⟨B, 0, none⟩ = some (.pointer (some ⟨X.a, 0, none⟩)) := (World.cell?_of_block (w := w4) (a := ⟨B, 0, none⟩) hk3.1.2.1).trans hB04
          have hB13 : W3.cell? ⟨B + 1, 0, none⟩ = some (.int .i64 r) := (World.cell?_of_block (w := w4) (a := ⟨B + 1, 0, none⟩) hk3.1.2.2).trans hB14
          clear hA4 hT4 hB04 hB14 hk3 hy hY2
          gi_wp2_with fail
          go_roundw
          case rel => exact ⟨hA3, hT3, hB03, hB13, j + 1, by omega, by go_num, _, by rw [elems_yes (T := nz F) HNZ.out, ptaVals_append, HQ.out]; rfl, hJ3⟩
          case measure => simp [intOf]; omega
        · gi_wp2_with fail
          refine bodyPost_ret (results_none rfl _ _ _) rfl ?_
          exact ⟨⟨_, rfl⟩, .inr ⟨_, ⟨j, hlt, HNZ.out, by rw [elems_yes (T := nz F) HNZ.out, ptaVals_append, HQ.out]; rfl⟩, hJx3⟩⟩
    · obtain rfl : j = k := by omega
      gi_wp2_with fail
      go_end0
      exact ⟨⟨_, rfl⟩, .inl ⟨q, HQ.out, hJ⟩⟩

/-- The iterator over an object's fields. -/
theorem pta_stops (n : Nat) {X : ArB} {s : ArS} (B k : Nat) (r : Int) (F : Nat → Int) (hO : Reads s r k F) (w : World) (hA : ArAt w X s) (hT : TableAt w) (hB0 : w.cell? ⟨B, 0, none⟩ = some (.pointer (some ⟨X.a, 0, none⟩))) (hB1 : w.cell? ⟨B + 1, 0, none⟩ = some (.int .i64 r)) :
    SeqStopsK Fence.wide n Tryz.prog 51 #[.pointer (some ⟨B, 0, none⟩), .pointer (some ⟨B + 1, 0, none⟩)] (ptaArgs (F := F) (k := k)) (KpPt X B)
      (fun xs : List (InPt F k) => ptaVals xs = elems (nz F) k) (fun pre : List (InPt F k) => ∃ j, j < k ∧ nz F j = true ∧ ptaVals pre = elems (nz F) (j + 1)) 6 w := fun l J Jx W hW hJa _ hY h0 =>
  pta1_in n B l k r F hO J Jx W hJa hY (hA.below hW) (hT.below hW) ((hW.cell (p := ⟨B, 0, none⟩) (World.block_lt_of_cell? w _ hB0)).trans hB0) ((hW.cell (p := ⟨B + 1, 0, none⟩) (World.block_lt_of_cell? w _ hB1)).trans hB1) h0
end Go.Proofs.YtidpmplkbgllfaaGreatDoor

namespace Go.Proofs.YtidpmplkbgllfaaGreatDoor
open Go Go.RowKit Go.Shelf Go.MuLone Go.RwLone
set_option linter.unusedSimpArgs false
set_option linter.unusedVariables false
attribute [local go_sem] Oper.semAt_some

/-- Some more are shaded. -/
def Col.shades (c : Col) (l : List Int) : Col := ⟨fun y => c.ma y || decide (y ∈ l), c.sc⟩
theorem Col.shades_nil (c : Col) : c.shades [] = c := by unfold Col.shades; simp
theorem Col.shades_snoc (c : Col) (l : List Int) (x : Int) : (c.shades l).shade x = c.shades (l ++ [x]) := by
  unfold Col.shades Col.shade
  congr 1
  funext y
  by_cases e : y = x
  · subst e; rw [updI_at]; simp
  · rw [updI_ne e]; simp [e]
def ptaL {F : Nat → Int} {k : Nat} (q : List (InPt F k)) : List Int := (ptaVals q).map F
/-- What holds between two fields of what is scanned. -/
def ScnI (T7 : MkB) (V7 : World) (xa : Nat) (c0 : Col) (b : Nat) (F : Nat → Int) (k : Nat) (st : List (InPt F k) × (Nat → Prop)) (V : World) : Prop :=
  ∃ T1, MkAt V T1 xa (c0.shades (ptaL st.1)) ∧ MkStep T7 V7 T1 V ∧ Blk V b #[.pointer (some ⟨T7.m, 0, none⟩)] 32 ∧ (∀ k, T1.has k → T7.has k ∨ st.2 k) ∧ (∀ k, st.2 k → V7.heap.size ≤ k)
theorem scnI_own {T7 : MkB} {V7 : World} {xa : Nat} {c0 : Col} {b : Nat} {F : Nat → Int} {k : Nat} : OwnFrom V7.heap.size (ScnI T7 V7 xa c0 b F k) := by
  rintro st V V' row ⟨T1, hM, hS, hb, hO, hO2⟩ hg hr
  exact ⟨T1, hM.grown hg (fun r e => (hr r e).2), hS.grown hg (fun r e => (hr r e).1), hb.kept hg (fun r e => (hr r e).2), hO, hO2⟩
/-- What a marker's memory says, as one is about to be scanned. -/
structure MkOx (x : Int) (S S2 : Nat → Bool) (room : Int) (st : List Int) (ov : Bool) (c : Col) : Prop where
  ma : c.ma = inS S
  sc : c.sc = inS S2
  sub : ∀ x, c.sc x = true → c.ma x = true
  r1 : 1 ≤ room
  r2 : room ≤ 4096
  len : (st.length : Int) ≤ room
  grey : ∀ y, c.ma y = true → c.sc y = false → y ≠ x → y ∈ st ∨ ov = true
section
variable {w wr w' w1 : World} {T T' T1 : MkB} {X : ArB} {s : ArS} {S S2 : Nat → Bool} {c : Col} {room : Int} {st : List Int} {ov : Bool}
def ScnEnd (T : MkB) (w : World) (xa : Nat) (c' : Col) (w' : World) : Prop := ∃ T', MkAt w' T' xa c' ∧ MkStep T w T' w'
end
end Go.Proofs.YtidpmplkbgllfaaGreatDoor

namespace Go.Proofs.YtidpmplkbgllfaaGreatDoor
open Go Go.RowKit Go.Shelf Go.MuLone Go.RwLone
set_option linter.unusedSimpArgs false
set_option linter.unusedVariables false
attribute [local go_sem] Oper.semAt_some

/-- Where what lies at r points. -/
def ptsAt (obs : List Ob) (r : Int) : List Int := match obs.find? (fun x => decide ((x.r : Int) = r)) with
  | some x => pts x
  | none => []
theorem ptsAt_mem {s : ArS} {obs : List Ob} (ho : Objs s obs) {x : Ob} (hx : x ∈ obs) : ptsAt obs (x.r : Int) = pts x := by
  unfold ptsAt
  obtain ⟨i, hi⟩ := List.mem_iff_getElem?.1 hx
  cases hf : obs.find? (fun y => decide ((y.r : Int) = (x.r : Int))) with
  | none =>
    have := List.find?_eq_none.1 hf x hx
    simp at this
  | some y =>
    have h1 := List.find?_some hf
    have h2a : (y.r : Int) = (x.r : Int) := by simpa using h1
    have h2 : y.r = x.r := by omega
    obtain ⟨j, hj⟩ := List.mem_iff_getElem?.1 (List.mem_of_find?_eq_some hf)
    by_cases e : i = j
    · subst e; rw [hi] at hj; cases hj; rfl
    · exact absurd h2.symm (ho.apart i j x y e hi hj)

/-- How many aren't scanned. -/
def unscN (N : Nat) (c : Col) : Nat := (List.range N).countP fun n : Nat => !c.sc (n : Int)
def unsc (c : Col) : Nat := unscN 2049 c
theorem countP_lt {p q : Nat → Bool} : ∀ (l : List Nat) (a : Nat), a ∈ l → p a = true → q a = false → (∀ x, q x = true → p x = true) → l.countP q + 1 ≤ l.countP p
  | [], a, h, _, _, _ => by cases h
  | b :: l, a, h, h1, h2, h3 => by
    rw [List.countP_cons, List.countP_cons]
    rcases List.mem_cons.1 h with e | e
    · subst e
      rw [h1, h2]
      have : l.countP q ≤ l.countP p := List.countP_mono_left (fun x _ hx => h3 x hx)
      simp; omega
    · have ih := countP_lt l a e h1 h2 h3
      cases hq : q b with
      | true => rw [h3 b hq]; simp; omega
      | false => cases p b <;> simp <;> omega
theorem unscN_lt {N : Nat} {c c' : Col} {x : Int} (h1 : 0 ≤ x) (h2 : x < N) (hs : c.sc x = false) (hc : c'.sc = updI c.sc x true) : unscN N c' + 1 ≤ unscN N c := by
  unfold unscN
  obtain ⟨n, rfl⟩ : ∃ n : Nat, x = (n : Int) := ⟨x.toNat, by omega⟩
  refine countP_lt (p := fun n : Nat => !c.sc (n : Int)) (q := fun n : Nat => !c'.sc (n : Int)) (List.range N) n (List.mem_range.2 (by omega)) (by show (!c.sc (n : Int)) = true; rw [hs]; rfl) (by show (!c'.sc (n : Int)) = false; rw [hc, updI_at]; rfl) fun y hy => ?_
  have hy2 : (!c'.sc (y : Int)) = true := hy
  show (!c.sc (y : Int)) = true
  rw [hc] at hy2
  by_cases e : (y : Int) = (n : Int)
  · rw [e, updI_at] at hy2; cases hy2
  · rw [updI_ne e] at hy2; exact hy2
theorem unsc_lt {c c' : Col} {x : Int} (h1 : 0 ≤ x) (h2 : x < 2049) (hs : c.sc x = false) (hc : c'.sc = updI c.sc x true) : unsc c' + 1 ≤ unsc c := unscN_lt h1 h2 hs hc
theorem unscN_le (N : Nat) (c : Col) : unscN N c ≤ N := by
  unfold unscN
  have := List.countP_le_length (p := fun n : Nat => !c.sc (n : Int)) (l := List.range N)
  rw [List.length_range] at this
  exact this
theorem unsc_le (c : Col) : unsc c ≤ 2049 := unscN_le 2049 c
/-- How far the end is. -/
def topG (c : Col) (st : List Int) : Bool := match st.getLast? with
  | some r => greyC c r
  | none => false
def farT (c : Col) (st : List Int) (ov : Bool) : Nat := unsc c * 10000 + if topG c st = true then 0 else (if ov = true then 5000 else 0) + st.length + 1
theorem farT_le (c : Col) (st : List Int) (ov : Bool) (h : st.length ≤ 4096) : farT c st ov ≤ unsc c * 10000 + 9097 := by
  unfold farT
  split
  · omega
  · split <;> omega
theorem farT_pop {c : Col} {st : List Int} {r : Int} {ov : Bool} (h : greyC c r = false) : farT c st ov < farT c (st ++ [r]) ov := by
  have e : topG c (st ++ [r]) = false := by unfold topG; simp [h]
  have e2 : farT c (st ++ [r]) ov = unsc c * 10000 + ((if ov = true then 5000 else 0) + (st.length + 1) + 1) := by
    unfold farT; rw [if_neg (by rw [e]; simp)]; simp
  rw [e2]
  unfold farT
  split <;> omega
theorem farT_scan {c c' : Col} {st st' : List Int} {ov ov' : Bool} (h : unsc c' + 1 ≤ unsc c) (hl : st'.length ≤ 4096) : farT c' st' ov' < farT c st ov := by
  have h1 := farT_le c' st' ov' hl
  have h2 : unsc c * 10000 ≤ farT c st ov := by unfold farT; omega
  omega
theorem farT_refill {c : Col} {st : List Int} {ov : Bool} {room : Int} (h : Refilled c room st ov) : farT c st ov < farT c [] true := by
  have e0 : topG c [] = false := rfl
  have e1 : farT c [] true = unsc c * 10000 + 5001 := by unfold farT; rw [if_neg (by rw [e0]; simp)]; simp
  rw [e1]
  rcases List.eq_nil_or_concat st with e | ⟨q, r, e⟩
  · have := h.nil e
    subst e
    rw [this]
    unfold farT
    rw [if_neg (by rw [e0]; simp)]; simp
  · have hr := h.is r (by rw [e]; simp)
    have : topG c st = true := by unfold topG; rw [e]; simp [hr]
    unfold farT
    rw [if_pos this]; omega

/-- What holds between two rounds of a trace. -/
def TrA (T : MkB) (w : World) (X : ArB) (obs : List Ob) (c : Col) (n : Int) (k : Nat) (v5 : Value) (wx : World) : Prop :=
  ∃ (T1 : MkB) (c1 : Col) (l : List Int) (S S2 : Nat → Bool) (room : Int) (st : List Int) (ov : Bool), v5 = .int .i64 (l.length : Int) ∧ MkMem wx T1 X.a S S2 room st ov ∧ MkOk S S2 room st ov c1 ∧ MkStep T w T1 wx ∧ Scans (ptsAt obs) c l c1 ∧ (l.length : Int) ≤ max n 0 ∧ (∀ x, c1.ma x = true → x ∈ refsI obs) ∧ l.length + unsc c1 ≤ 2049 ∧ farT c1 st ov ≤ k
/-- What a trace leaves. -/
def TrEnd (T : MkB) (w : World) (xa : Nat) (obs : List Ob) (c : Col) (n : Int) (e : Ending) (w' : World) : Prop :=
  ∃ (T' : MkB) (c' : Col) (l : List Int), e = .returned (.int .i64 (l.length : Int)) ∧ MkAt w' T' xa c' ∧ MkStep T w T' w' ∧ Scans (ptsAt obs) c l c' ∧ (l.length : Int) ≤ max n 0 ∧ ((l.length : Int) < n → c'.dry)
section
variable {w wr w' w1 : World} {T T' T1 : MkB} {X : ArB} {s : ArS} {S S2 : Nat → Bool} {c : Col} {room : Int} {st : List Int} {ov : Bool} {obs : List Ob}
theorem inAr_of (ho : Objs s obs) (h : ∀ x, c.ma x = true → x ∈ refsI obs) : InAr s c := fun x hx => by
  obtain ⟨y, hy, rfl⟩ := List.mem_map.1 (h x hx)
  obtain ⟨i, hi⟩ := List.mem_iff_getElem?.1 hy
  rw [inS_nat]; exact (ho.at_ i y hi).S
theorem pts_in0 (hc : Closed obs) {x : Ob} (hx : x ∈ obs) {j : Nat} (hj : j < x.k) (h0 : nz x.F j = true) : x.F j ∈ refsI obs := by
  rcases hc x hx j hj with e | ⟨z, hz, e⟩
  · unfold nz at h0; rw [e] at h0; simp at h0
  · rw [e]; exact List.mem_map.2 ⟨z, hz, rfl⟩
end
end Go.Proofs.YtidpmplkbgllfaaGreatDoor

namespace Go.Proofs.YtidpmplkbgllfaaGreatDoor
open Go Go.RowKit Go.Shelf Go.MuLone Go.RwLone
set_option linter.unusedSimpArgs false
set_option linter.unusedVariables false
attribute [local go_sem] Oper.semAt_some

section
variable {w wr w' w1 : World} {T T' T1 : MkB} {X : ArB} {s : ArS} {c : Col} {obs : List Ob}
set_option maxHeartbeats 4000000 in
theorem mkNewM (hA : ArMem wr X s) (room : Int) (hr : room ≤ 4096) : Calls Tryz.prog 9 #[.pointer (some ⟨X.a, 0, none⟩), .int .i64 room] wr fun e w' =>
    ∃ T : MkB, e = .returned (.pointer (some ⟨T.m, 0, none⟩)) ∧ T.n = 32 * s.P + 1 ∧ MkAt w' T X.a Col.white ∧ (∀ k, T.has k → wr.heap.size ≤ k) ∧ Below wr.heap.size wr w' := by
  have cS := size_any hA
  have hp := hA.p64
  obtain ⟨n, hn⟩ : ∃ n, n = 32 * s.P + 1 := ⟨_, rfl⟩
  rw [← hn] at cS
  have hn4 : (n : Int) ≤ 4096 := by omega
  have HN := Lib.hid hn
  clear hn hp
  go_enter Tryz.func9, Tryz.ntmps9
  go_wp2_with fail
  refine cS.mono ?_
  rintro e w' ⟨rfl, rfl⟩
  go_wp2_with fail
  refine (new_at (n : Int) hn4 wr n (by simp)).mono ?_
  rintro e w1 ⟨b, hb, rfl, hS1, hT1⟩
  have cS1 := size_any (hA.turn hT1 (fun _ _ h => h))
  rw [← HN.out] at cS1
  clear cS
  go_wp2_with fail
  refine cS1.mono ?_
  rintro e w' ⟨rfl, rfl⟩
  go_wp2_with fail
  refine (new_at (n : Int) hn4 w1 n (by simp)).mono ?_
  rintro e w2 ⟨b2, hb2, rfl, hS2, hT2⟩
  clear cS1
  obtain ⟨r0, hr0⟩ : ∃ r0 : Int, (if room < 1 then 1 else room) = r0 := ⟨_, rfl⟩
  have HR := Lib.hid hr0
  go_wp2_with fail
  refine (grNew r0 w2).mono ?_
  rintro e w3 ⟨G, rfl, hG, hGn, hB3⟩
  clear hr0
  go_wp2_with fail
  go_ret
  have hB4 := (Below.refl w3.heap.size w3).alloc (Nat.le_refl _) (.cells #[.pointer (some ⟨X.a, 0, none⟩), .pointer (some ⟨b, 0, none⟩), .pointer (some ⟨b2, 0, none⟩), .pointer (some ⟨G.s, 0, none⟩)] 68)
  have hT34 : Turn (fun _ => False) w2 (w3.alloc (.cells #[.pointer (some ⟨X.a, 0, none⟩), .pointer (some ⟨b, 0, none⟩), .pointer (some ⟨b2, 0, none⟩), .pointer (some ⟨G.s, 0, none⟩)] 68)) :=
    ((Turn.ofBelow hB3).mono fun i hi e => absurd hi (by omega)).alloc _
  have hS1' := hS1.turn (hT2.trans hT34 fun _ _ h => h) (fun h => h) (fun _ _ h => h)
  have hS2' := hS2.turn hT34 (fun h => h) (fun _ _ h => h)
  have hG' := hG.below hB4
  have hbl := hS1.lt.1
  have hb2l := hS2.lt.1
  have hs1 := hT1.size
  have hs2 := hT2.size
  have hs3 := hB3.size
  refine ⟨⟨w3.heap.size, b, none, b2, none, G, n⟩, rfl, HN.out, ⟨_, _, r0, [], false, ⟨Blk.new w3 _ _, hS1', hS2', hG', ⟨(by show b ≠ b2; omega), (fun l e => by cases e), (fun l e => by cases e), (fun l e => by cases e)⟩⟩, ?_⟩, ?_, ?_⟩
  · have hw : (fun _ => false : Int → Bool) = inS (fun _ => false) := by funext y; simp [inS]
    have h1 : 1 ≤ r0 ∧ r0 ≤ 4096 := by rw [← HR.out]; split <;> omega
    exact ⟨hw, hw, fun y hy => (by cases hy), h1.1, h1.2, by simp; omega, fun y hy => (by cases hy)⟩
  · rintro k (e | (e | e) | (e | e) | e)
    · have e2 : k = w3.heap.size := e
      omega
    · have e2 : k = b := e
      omega
    · cases e
    · have e2 : k = b2 := e
      omega
    · cases e
    · have := hGn k e; omega
  · exact (((hT1.trans hT2 fun _ _ h => h).trans hT34 fun _ _ h => h).below wr.heap.size (Nat.le_refl _) fun _ _ h => h)
end

theorem mkf1 : newR (.new 2) 1 = 1 := by decide +kernel
theorem mkf2 : newE (.new 2) 1 = 0 := by decide +kernel
theorem mkf3 : newR ((ArS.new 2).newS 1) 1 = 5 := by decide +kernel
theorem mkf4 : newE ((ArS.new 2).newS 1) 1 = 0 := by decide +kernel
def fitObs : List Ob := [⟨1, 1, 0, upd (fun _ => 0) 0 5⟩, ⟨5, 1, 0, fun _ => 0⟩]
theorem fit_pts : ptsAt fitObs 1 = [5] := by decide +kernel
theorem fit_refs : refsI fitObs = [1, 5] := by decide +kernel
theorem fit_closed : Closed fitObs := by
  intro x hx j hj
  unfold fitObs at hx
  rcases List.mem_cons.1 hx with e | e
  · subst e
    have hj2 : j < 1 := hj
    obtain rfl : j = 0 := by omega
    exact .inr ⟨⟨5, 1, 0, fun _ => 0⟩, by unfold fitObs; simp, rfl⟩
  · have e2 := List.mem_singleton.1 e
    subst e2
    exact .inl rfl
/-- What one scan leaves of two objects, the first of which was shaded. -/
theorem fit_scan {c' : Col} {l : List Int} {n : Int} (h : Scans (ptsAt fitObs) ((Col.white.shade 1).shade 1) l c') (h1 : (l.length : Int) ≤ max 1 0) (h2 : (l.length : Int) < 1 → c'.dry) :
    l.length = 1 ∧ c'.sc 1 = true ∧ c'.ma 5 = true ∧ c'.sc 5 = false ∧ ¬ c'.dry ∧ ∀ x, c'.ma x = true → x ∈ refsI fitObs := by
  cases h with
  | nil =>
    have := h2 (by simp) 1 rfl
    cases this
  | cons hm hs hr =>
    rename_i x l
    obtain rfl : x = 1 := by
      have hm2 : updI (updI (fun _ => false) 1 true) 1 true x = true := hm
      by_cases e : x = 1
      · exact e
      · rw [updI_ne e, updI_ne e] at hm2; cases hm2
    cases hr with
    | nil =>
      refine ⟨rfl, ?_, ?_, ?_, fun hd => ?_, fun x hx => ?_⟩
      · rfl
      · show (((Col.white.shade 1).shade 1).ma 5 || decide ((5 : Int) ∈ ptsAt fitObs 1)) = true
        rw [fit_pts]; rfl
      · rfl
      · have := hd 5 (by
          show (((Col.white.shade 1).shade 1).ma 5 || decide ((5 : Int) ∈ ptsAt fitObs 1)) = true
          rw [fit_pts]; rfl)
        cases this
      · have hx2 : (((Col.white.shade 1).shade 1).ma x || decide (x ∈ ptsAt fitObs 1)) = true := hx
        rw [fit_pts] at hx2
        rw [fit_refs]
        by_cases e : x = 1
        · rw [e]; simp
        · have hm3 : ((Col.white.shade 1).shade 1).ma x = false := by
            show updI (updI (fun _ => false) 1 true) 1 true x = false
            rw [updI_ne e, updI_ne e]
          rw [hm3] at hx2
          have : x = 5 := by simpa using hx2
          rw [this]; simp
    | cons _ _ _ => simp at h1; omega
end Go.Proofs.YtidpmplkbgllfaaGreatDoor
