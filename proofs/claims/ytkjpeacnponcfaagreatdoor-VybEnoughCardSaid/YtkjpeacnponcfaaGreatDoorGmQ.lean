/- A marker beside its arena; refill; at this seat's numbers. -/
import Derived.Test.YtkjpeacnponcfaaGreatDoorGmP
namespace Go.Proofs.YtkjpeacnponcfaaGreatDoor
open Go Go.RowKit Go.Shelf Go.MuLone Go.RwLone
set_option linter.unusedSimpArgs false
set_option linter.unusedVariables false
attribute [local go_sem] Oper.semAt_some

/-- What stands beside a marker: its arena, the two tables, none of which lies in its blocks. -/
structure MkSide (w : World) (T : MkB) (X : ArB) (s : ArS) : Prop where
  ar : ArAt w X s
  P : T.n = 32 * s.P + 1
  tab : TabAt w
  tabc : TableAt w
  far : ∀ k, T.has k → ¬ X.has k
  nt : ¬ T.has 1
  nc : ¬ T.has 0
section
variable {w wr w' w1 : World} {T T' T1 : MkB} {X : ArB} {s : ArS} {S S2 : Nat → Bool} {c : Col} {room : Int} {st : List Int} {ov : Bool} {xa : Nat} {row : Option Nat}
theorem TabAt.turn {M : Nat → Prop} (h : TabAt w) (hT : Turn M w w') (hn : ¬ M 1) : TabAt w' := h.keep (hT.block _ h.lt hn)
theorem MkSide.step (h : MkSide w T X s) (hS : MkStep T w T' w') : MkSide w' T' X s := by
  refine ⟨h.ar.turn hS.turn fun k e e2 => h.far k e2 e, hS.n.trans h.P, h.tab.turn hS.turn h.nt, h.tabc.turn hS.turn h.nc, fun k e e2 => ?_, fun e => ?_, fun e => ?_⟩
  · rcases hS.new k e with e3 | e3
    · exact h.far k e3 e2
    · have := h.ar.lt k e2; omega
  · rcases hS.new _ e with e3 | e3
    · exact h.nt e3
    · have := h.tab.lt; omega
  · rcases hS.new _ e with e3 | e3
    · exact h.nc e3
    · have := h.tabc.lt; omega
theorem MkSide.below (h : MkSide w T X s) (hB : Below w.heap.size w w') : MkSide w' T X s := h.step (MkStep.ofBelow hB)
theorem MkMem.cells (h : MkMem w T xa S S2 room st ov) {k : Nat} (hk : T.has k) : ∃ o, w.heap[k]? = some o ∧ o.isCells = true := by
  have hlt := h.lt k hk
  have ho : w.heap[k]? = some w.heap[k] := Array.getElem?_eq_getElem hlt
  refine ⟨_, ho, ?_⟩
  have go : ∀ {j : Nat} {cs : Array Value} {X : TypeId}, Blk w j cs X → w.heap[j]? = some w.heap[k] → w.heap[k].isCells = true := fun hb h2 => by
    unfold Blk at hb; rw [hb] at h2; rw [← Option.some.inj h2]; rfl
  have gs : ∀ {b N : Nat} {lo : Option Nat} {S : Nat → Bool}, SetAt w b lo N S → (k = b ∨ lo = some k) → w.heap[k].isCells = true := fun hs e => by
    rcases e with e | e
    · obtain ⟨d, l, hB⟩ := hs.2.2.blk
      rw [← e] at hB; exact go hB ho
    · obtain ⟨_, _, h5⟩ := hs
      rw [e] at h5
      obtain ⟨_, _, ws, h6, _⟩ := h5
      exact go h6 ho
  rcases hk with e | e | e | e | e
  · have hb := h.head
    rw [← e] at hb; exact go hb ho
  · exact gs h.s1 e
  · exact gs h.s2 e
  · have hb := h.gr.head
    rw [← e] at hb; exact go hb ho
  · obtain ⟨_, h6⟩ := h.gr.stk.own e
    exact go h6 ho
theorem MkMem.grown (h : MkMem w T xa S S2 room st ov) (hg : w.grownBy w' row) (hr : ∀ r, row = some r → ∃ o : Obj, w.heap[r]? = some o ∧ o.isCells = false) : MkMem w' T xa S S2 room st ov :=
  h.keep fun k hk => by
    obtain ⟨o, ho, hc⟩ := h.cells hk
    exact grownBy_keeps_cells hg hr ho hc
theorem MkAt.grown (h : MkAt w T xa c) (hg : w.grownBy w' row) (hr : ∀ r, row = some r → ∃ o : Obj, w.heap[r]? = some o ∧ o.isCells = false) : MkAt w' T xa c := by
  obtain ⟨S, S2, room, st, ov, hM, hO⟩ := h.ex
  exact ⟨S, S2, room, st, ov, hM.grown hg hr, hO⟩
theorem MkStep.grown (h : MkStep T w T1 w1) (hg : w1.grownBy w' row) (hr : ∀ r, row = some r → w.heap.size ≤ r) : MkStep T w T1 w' :=
  ⟨h.m, h.n, h.new, h.turn.trans (Turn.ofGrownM hg) fun i hi e => by have := hr i e; omega⟩
theorem MkStep.thenT {M : Nat → Prop} (h : MkStep T w T1 w1) (hT : Turn M w1 w') (hM : ∀ k, M k → w.heap.size ≤ k) : MkStep T w T1 w' :=
  ⟨h.m, h.n, h.new, h.turn.trans hT fun i hi e => by have := hM i e; omega⟩
theorem MkMem.deferred {B : Nat} (h : MkMem w T xa S S2 room st ov) (hT : Turn (fun k => B ≤ k ∧ IsDef w k) w w') : MkMem w' T xa S S2 room st ov :=
  h.turn hT fun k hk e => by
    obtain ⟨o, ho, hc⟩ := h.cells hk
    obtain ⟨_, d, hd⟩ := e
    rw [hd] at ho; cases ho; cases hc
theorem MkAt.deferred {B : Nat} (h : MkAt w T xa c) (hT : Turn (fun k => B ≤ k ∧ IsDef w k) w w') : MkAt w' T xa c := by
  obtain ⟨S, S2, room, st, ov, hM, hO⟩ := h.ex
  exact ⟨S, S2, room, st, ov, hM.deferred hT, hO⟩
/-- A round's step owns what it lays. -/
theorem MkStep.owned {B : Nat} {T7 : MkB} {O : Nat → Prop} (h7 : ∀ k, T7.has k → k < B) (hO : ∀ k, T.has k → T7.has k ∨ O k) (hB : B ≤ w.heap.size) (hS : MkStep T w T' w') : ∃ O', Owned B O O' w w' ∧ (∀ k, T'.has k → T7.has k ∨ O' k) ∧ ∀ k, O' k → O k ∨ w.heap.size ≤ k := by
  refine ⟨fun k => O k ∨ (w.heap.size ≤ k ∧ T'.has k), ⟨hS.turn.size, fun k hk hkl hn => hS.turn.block k hkl fun e => ?_, fun k e => ?_⟩, fun k e => ?_, fun k e => ?_⟩
  · rcases hO k e with e2 | e2
    · have := h7 k e2; omega
    · exact hn e2
  · rcases e with e | e
    · exact .inl e
    · exact .inr e.1
  · rcases hS.new k e with e2 | e2
    · rcases hO k e2 with e3 | e3
      · exact .inl e3
      · exact .inr (.inl e3)
    · exact .inr (.inr ⟨e2, e⟩)
  · rcases e with e | e
    · exact .inl e
    · exact .inr e.1
theorem MkMem.sees (h : MkMem wr T X.a S S2 room st ov) (ma : c.ma = inS S) (sc : c.sc = inS S2) (sub : ∀ x, c.sc x = true → c.ma x = true) (hs : MkSide wr T X s) (hi : InAr s c) : MkSees wr T X s S S2 c :=
  ⟨h.head, h.s1, h.s2, hs.ar.toArMem, ma, sc, sub, hi⟩
/-- A push, exactly. -/
theorem MkMem.pushX (h : MkMem wr T xa S S2 room st ov) (hr : room ≤ 4096) (x : Int) (t : Bool) (ht : decide ((st.length : Int) < room) = t) : Calls Tryz.prog 66 #[.pointer (some ⟨T.g.s, 0, none⟩), .int .i64 x] wr fun e w' =>
    e = .returned (.bool t) ∧ ∃ G, MkMem w' { T with g := G } xa S S2 room (pushL room st x) (pushV room st ov) ∧ MkStep T wr { T with g := G } w' ∧ Turn T.g.has wr w' := by
  refine (h.gr.pushAny hr x t ht).mono ?_
  rintro e w1 ⟨rfl, G, hG, hS⟩
  have hTu := hS.turn
  have n1 := h.s1.farG h.gr
  have n2 := h.s2.farG h.gr
  have n0 := h.gr.farT h.head (by decide) (by decide)
  refine ⟨rfl, G, ⟨(h.head.turn hTu n0).is ?_, h.s1.turn hTu (fun e => n1 _ e (.inl rfl)) (fun l e e2 => n1 l e2 (.inr e)), h.s2.turn hTu (fun e => n2 _ e (.inl rfl)) (fun l e e2 => n2 l e2 (.inr e)), hG, h.sep⟩, ⟨rfl, rfl, ?_, hTu.mono fun k _ e => .inr (.inr (.inr e))⟩, hTu⟩
  · show mkArr T xa = mkArr { T with g := G } xa
    unfold mkArr
    rw [hS.s]
  · rintro k (e | e | e | e)
    · exact .inl (.inl e)
    · exact .inl (.inr (.inl e))
    · exact .inl (.inr (.inr (.inl e)))
    · rcases hS.new k e with e2 | e2
      · exact .inl (.inr (.inr (.inr e2)))
      · exact .inr e2
theorem MkMem.gfar (h : MkMem wr T xa S S2 room st ov) : ∀ k, T.sets k → ¬ T.g.has k := by
  rintro k (e | e | e) e2
  · exact h.gr.farT h.head (by decide) (by decide) (e ▸ e2)
  · exact h.s1.farG h.gr k e2 e
  · exact h.s2.farG h.gr k e2 e
end
def ints (l : List Nat) : List Int := l.map fun n : Nat => (n : Int)
/-- What holds between two pushes of refill. -/
def RefI (T7 : MkB) (V7 : World) (xa : Nat) (S S2 : Nat → Bool) (room : Int) (b : Nat) (f : Int → Bool) (st : List (InMk S f) × (Nat → Prop)) (V : World) : Prop :=
  ∃ G, MkMem V { T7 with g := G } xa S S2 room (ints (tmVals st.1)) false ∧ MkStep T7 V7 { T7 with g := G } V ∧ Blk V b #[.pointer (some ⟨T7.m, 0, none⟩)] 33 ∧ (∀ k, ({ T7 with g := G } : MkB).has k → T7.has k ∨ st.2 k) ∧ (∀ k, st.2 k → V7.heap.size ≤ k) ∧ (st.1.length : Int) ≤ room
def RefX (T7 : MkB) (V7 : World) (xa : Nat) (S S2 : Nat → Bool) (room : Int) (f : Int → Bool) (V : World) : Prop :=
  ∃ G l, MkMem V { T7 with g := G } xa S S2 room l true ∧ MkStep T7 V7 { T7 with g := G } V ∧ (∀ y ∈ l, f y = true) ∧ l ≠ [] ∧ (l.length : Int) ≤ room
theorem refI_own {T7 : MkB} {V7 : World} {xa : Nat} {S S2 : Nat → Bool} {room : Int} {b : Nat} {f : Int → Bool} : OwnFrom V7.heap.size (RefI T7 V7 xa S S2 room b f) := by
  rintro st V V' row ⟨G, hM, hS, hb, hO, hO2, hl⟩ hg hr
  exact ⟨G, hM.grown hg (fun r e => (hr r e).2), hS.grown hg (fun r e => (hr r e).1), hb.kept hg (fun r e => (hr r e).2), hO, hO2, hl⟩
theorem refX_own {T7 : MkB} {V7 : World} {xa : Nat} {S S2 : Nat → Bool} {room : Int} {f : Int → Bool} {β : Type} (q : Code → Prop) (c : Code) : OwnFrom V7.heap.size (fun (_ : β) V => q c ∧ RefX T7 V7 xa S S2 room f V) := by
  rintro st V V' row ⟨hq, G, l, hM, hS, h1, h2, h3⟩ hg hr
  exact ⟨hq, G, l, hM.grown hg (fun r e => (hr r e).2), hS.grown hg (fun r e => (hr r e).1), h1, h2, h3⟩
/-- What refill leaves of the stack. -/
structure Refilled (c : Col) (room : Int) (st : List Int) (ov : Bool) : Prop where
  is : ∀ y ∈ st, greyC c y = true
  all : ∀ y, greyC c y = true → y ∈ st ∨ ov = true
  len : (st.length : Int) ≤ room
  nil : st = [] → ov = false
def RefEnd (T : MkB) (w : World) (xa : Nat) (S S2 : Nat → Bool) (c : Col) (room : Int) (w' : World) : Prop :=
  ∃ (T' : MkB) (st' : List Int) (ov' : Bool), MkMem w' T' xa S S2 room st' ov' ∧ MkStep T w T' w' ∧ Refilled c room st' ov'
section
variable {w wr w' w1 : World} {T T' T1 : MkB} {X : ArB} {s : ArS} {S S2 : Nat → Bool} {c : Col} {room : Int} {st : List Int} {ov : Bool}
end
end Go.Proofs.YtkjpeacnponcfaaGreatDoor
