/- A table of globals and threads: its blocks, and what its calls keep; at this seat's numbers. -/
import Derived.Test.YtoemfehlnnbjdaaThR
namespace Go.Proofs.Ytoemfehlnnbjdaa
open Go Go.RowKit Go.Shelf
set_option linter.unusedSimpArgs false
set_option linter.unusedVariables false
attribute [local go_sem] Oper.semAt_some

/-- A thread that lives: its block, its registers, its stack. -/
structure TM where
  t : Nat
  f : Nat → Int
  st : List Int
def ptrV : Option TM → Value
  | none => .pointer none
  | some m => .pointer (some ⟨m.t, 0, none⟩)
def updT (th : Nat → Option TM) (i : Nat) (m : Option TM) : Nat → Option TM := fun j => if j = i then m else th j
theorem updT_at (th : Nat → Option TM) (i : Nat) (m : Option TM) : updT th i m i = m := if_pos rfl
theorem updT_ne (th : Nat → Option TM) {i j : Nat} (m : Option TM) (h : j ≠ i) : updT th i m j = th j := if_neg h
theorem ptrV_upd {th : Nat → Option TM} {i : Nat} {m : TM} (h : th i = some m) (f : Nat → Int) (st : List Int) (j : Nat) : ptrV (updT th i (some ⟨m.t, f, st⟩) j) = ptrV (th j) := by
  by_cases e : j = i
  · subst e; rw [updT_at, h]; rfl
  · rw [updT_ne _ _ e]

/-- A table's blocks: itself, its globals, its threads'. -/
structure RtB where
  t : Nat
  g : Nat
  X : Nat → ThB
def RtB.has (R : RtB) (th : Nat → Option TM) (k : Nat) : Prop := k = R.t ∨ k = R.g ∨ ∃ i m, th i = some m ∧ (R.X i).has k
def headV (g n : Nat) (N regs stk : Int) (th : Nat → Option TM) : Array Value := #[.slice (some ⟨g, 0, none⟩) n n, ptrV (th 0), ptrV (th 1), ptrV (th 2), ptrV (th 3), .int .i64 N, .int .i64 regs, .int .i64 stk]
def refV (l : List Int) : Array Value := (l.map fun r => Value.int .i64 r).toArray
structure RtAt (w : World) (R : RtB) (N : Nat) (regs stk : Int) (gl : List Int) (th : Nat → Option TM) : Prop where
  head : Blk w R.t (headV R.g gl.length (N : Int) regs stk th) 60
  glob : Blk w R.g (refV gl) 31
  thr : ∀ i m, th i = some m → (R.X i).t = m.t ∧ ThAt w (R.X i) regs stk m.f m.st
  own : ∀ i m, th i = some m → ∀ k, (R.X i).has k → k ≠ R.t ∧ k ≠ R.g
  apart : ∀ i j m m', th i = some m → th j = some m' → i ≠ j → ∀ k, (R.X i).has k → ¬ (R.X j).has k
  tg : R.t ≠ R.g
  live : ∀ i m, th i = some m → i < N
  few : N ≤ 4
  gfew : gl.length ≤ 4
  rfew : regs ≤ 4096
  sfew : stk ≤ 4096
section
variable {w w' : World} {R : RtB} {N : Nat} {regs stk : Int} {gl : List Int} {th : Nat → Option TM}
theorem RtAt.lt (h : RtAt w R N regs stk gl th) : ∀ k, R.has th k → k < w.heap.size := by
  rintro k (rfl | rfl | ⟨i, m, hi, hk⟩)
  · exact h.head.lt
  · exact h.glob.lt
  · exact (h.thr i m hi).2.lt k hk
theorem RtAt.turn {M : Nat → Prop} (h : RtAt w R N regs stk gl th) (hT : Turn M w w') (hn : ∀ k, R.has th k → ¬ M k) : RtAt w' R N regs stk gl th :=
  ⟨h.head.turn hT (hn _ (.inl rfl)), h.glob.turn hT (hn _ (.inr (.inl rfl))), fun i m hi => ⟨(h.thr i m hi).1, (h.thr i m hi).2.turn hT (fun k hk => hn k (.inr (.inr ⟨i, m, hi, hk⟩)))⟩, h.own, h.apart, h.tg, h.live, h.few, h.gfew, h.rfew, h.sfew⟩
theorem RtAt.below (h : RtAt w R N regs stk gl th) (hB : Below w.heap.size w w') : RtAt w' R N regs stk gl th := h.turn (Turn.ofBelow hB) (fun k hk e => by have := h.lt k hk; omega)
theorem RtAt.c0 (h : RtAt w R N regs stk gl th) : w.cell? ⟨R.t, 0, none⟩ = some (.slice (some ⟨R.g, 0, none⟩) gl.length gl.length) := h.head.cell 0
theorem RtAt.cT (h : RtAt w R N regs stk gl th) (i : Nat) (hi : i < 4) : w.cell? ⟨R.t, 1 + i, none⟩ = some (ptrV (th i)) := by
  have c : i = 0 ∨ i = 1 ∨ i = 2 ∨ i = 3 := by omega
  rcases c with rfl | rfl | rfl | rfl
  · exact h.head.cell 1
  · exact h.head.cell 2
  · exact h.head.cell 3
  · exact h.head.cell 4
theorem RtAt.c5 (h : RtAt w R N regs stk gl th) : w.cell? ⟨R.t, 5, none⟩ = some (.int .i64 (N : Int)) := h.head.cell 5
theorem RtAt.c6 (h : RtAt w R N regs stk gl th) : w.cell? ⟨R.t, 6, none⟩ = some (.int .i64 regs) := h.head.cell 6
theorem RtAt.c7 (h : RtAt w R N regs stk gl th) : w.cell? ⟨R.t, 7, none⟩ = some (.int .i64 stk) := h.head.cell 7
theorem RtAt.cG (h : RtAt w R N regs stk gl th) (i : Nat) (hi : i < gl.length) : w.cell? ⟨R.g, i, none⟩ = some (.int .i64 (gl.getD i 0)) := by
  rw [h.glob.cell i]
  simp [refV, List.getD, hi]
end
theorem headV_set (g n : Nat) (N regs stk : Int) (th : Nat → Option TM) (i : Nat) (hi : i < 4) (m : Option TM) : (headV g n N regs stk th).setIfInBounds (1 + i) (ptrV m) = headV g n N regs stk (updT th i m) := by
  have c : i = 0 ∨ i = 1 ∨ i = 2 ∨ i = 3 := by omega
  rcases c with rfl | rfl | rfl | rfl <;> rfl

/-- A table that a call made since; none of its blocks is in F. -/
structure RtIn (B : Nat) (F : Nat → Prop) (t : Nat) (N : Nat) (regs stk : Int) (gl : List Int) (th : Nat → Option TM) (wb wr : World) : Prop where
  ex : ∃ R : RtB, R.t = t ∧ RtAt wr R N regs stk gl th ∧ ∀ k, R.has th k → B ≤ k ∧ ¬ F k
  low : ∀ k, F k → k < wr.heap.size
  below : Below B wb wr
  base : B ≤ wb.heap.size
section
variable {B t N : Nat} {F : Nat → Prop} {regs stk : Int} {gl : List Int} {th : Nat → Option TM} {wb wr w' : World}
theorem RtIn.size (h : RtIn B F t N regs stk gl th wb wr) : B ≤ wr.heap.size := Nat.le_trans h.base h.below.size
theorem RtIn.ask (h : RtIn B F t N regs stk gl th wb wr) (hB : Below wr.heap.size wr w') : RtIn B F t N regs stk gl th wb w' := by
  obtain ⟨R, e, hA, hF⟩ := h.ex
  exact ⟨⟨R, e, hA.below hB, hF⟩, fun k hk => Nat.lt_of_lt_of_le (h.low k hk) hB.size, h.below.trans (hB.mono h.size), h.base⟩
theorem RtIn.alloc (h : RtIn B F t N regs stk gl th wb wr) (o : Obj) : RtIn B F t N regs stk gl th wb (wr.alloc o) := h.ask ((Below.refl _ wr).alloc (Nat.le_refl _) o)
theorem RtIn.drew (h : RtIn B F t N regs stk gl th wb wr) : RtIn B F t N regs stk gl th wb wr.drew := h.ask (Below.refl _ wr).drew
theorem RtIn.turned {M : Nat → Prop} (h : RtIn B F t N regs stk gl th wb wr) (hT : Turn M wr w') (hM : ∀ k, M k → F k ∧ B ≤ k) : RtIn B F t N regs stk gl th wb w' := by
  obtain ⟨R, e, hA, hF⟩ := h.ex
  exact ⟨⟨R, e, hA.turn hT (fun k hk e2 => (hF k hk).2 (hM k e2).1), hF⟩, fun k hk => Nat.lt_of_lt_of_le (h.low k hk) hT.size, h.below.trans (hT.below B h.size fun k hk e2 => by have := (hM k e2).2; omega), h.base⟩
/-- New blocks are none of a table's. -/
theorem RtIn.add {F' : Nat → Prop} (h : RtIn B F t N regs stk gl th wb wr) (hB : Below wr.heap.size wr w') (hF : ∀ k, F' k → F k ∨ (wr.heap.size ≤ k ∧ k < w'.heap.size)) : RtIn B F' t N regs stk gl th wb w' := by
  obtain ⟨R, e, hA, hG⟩ := h.ex
  refine ⟨⟨R, e, hA.below hB, fun k hk => ⟨(hG k hk).1, fun e2 => ?_⟩⟩, fun k hk => ?_, h.below.trans (hB.mono h.size), h.base⟩
  · rcases hF k e2 with e3 | ⟨e3, _⟩
    · exact (hG k hk).2 e3
    · have := hA.lt k hk; omega
  · rcases hF k hk with e3 | ⟨_, e3⟩
    · exact Nat.lt_of_lt_of_le (h.low k e3) hB.size
    · exact e3
/-- A call that asks alone. -/
theorem RtIn.read {P : Program} {fn : FuncId} {args : Array Value} {Re : Ending → Prop} {i : Nat} {m : TM} (h : RtIn B F t N regs stk gl th wb wr) (hi : th i = some m)
    (op : ThIn B F m.t regs stk m.f m.st wb wr → Calls P fn args wr fun e w' => Re e ∧ Below wr.heap.size wr w') :
    Calls P fn args wr fun e w' => Re e ∧ RtIn B F t N regs stk gl th wb w' ∧ Keep F wr w' := by
  obtain ⟨R, e, hA, hF⟩ := h.ex
  refine (op ⟨⟨R.X i, (hA.thr i m hi).1, (hA.thr i m hi).2, fun k hk => hF k (.inr (.inr ⟨i, m, hi, hk⟩))⟩, h.low, h.below, h.base⟩).mono ?_
  rintro e w' ⟨hR, hB⟩
  exact ⟨hR, h.ask hB, ⟨hB.size, fun k hk => hB.block k (h.low k hk)⟩⟩
/-- What is done to one of its threads. -/
theorem RtIn.at {P : Program} {fn : FuncId} {args : Array Value} {Re : Ending → Prop} {i : Nat} {m : TM} {f' : Nat → Int} {st' : List Int} (h : RtIn B F t N regs stk gl th wb wr) (hi : th i = some m)
    (op : ∀ F' : Nat → Prop, ThIn B F' m.t regs stk m.f m.st wb wr → Calls P fn args wr fun e w' => Re e ∧ ThIn B F' m.t regs stk f' st' wb w' ∧ Keep F' wr w') :
    Calls P fn args wr fun e w' => Re e ∧ RtIn B F t N regs stk gl (updT th i (some ⟨m.t, f', st'⟩)) wb w' ∧ Keep F wr w' := by
  obtain ⟨R, rfl, hA, hF⟩ := h.ex
  have ht := hA.thr i m hi
  refine (op (fun k => F k ∨ k = R.t ∨ k = R.g ∨ ∃ j m', j ≠ i ∧ th j = some m' ∧ (R.X j).has k) ⟨⟨R.X i, ht.1, ht.2, fun k hk => ⟨(hF k (.inr (.inr ⟨i, m, hi, hk⟩))).1, fun hx => ?_⟩⟩, fun k hk => ?_, h.below, h.base⟩).mono ?_
  · rcases hx with hx | hx | hx | ⟨j, m', hj, hm, hx⟩
    · exact (hF k (.inr (.inr ⟨i, m, hi, hk⟩))).2 hx
    · exact (hA.own i m hi k hk).1 hx
    · exact (hA.own i m hi k hk).2 hx
    · exact hA.apart j i m' m hm hi hj k hx hk
  · rcases hk with hk | hk | hk | ⟨j, m', hj, hm, hx⟩
    · exact h.low k hk
    · rw [hk]; exact hA.head.lt
    · rw [hk]; exact hA.glob.lt
    · exact (hA.thr j m' hm).2.lt k hx
  rintro e w' ⟨hR, hN, hK⟩
  obtain ⟨T', e4, h4, d4⟩ := hN.ex
  have eX : ∀ j, j ≠ i → (if j = i then T' else R.X j) = R.X j := fun j hj => if_neg hj
  have eI : (if i = i then T' else R.X i) = T' := if_pos rfl
  have hold : ∀ j m', j ≠ i → updT th i (some ⟨m.t, f', st'⟩) j = some m' → th j = some m' := fun j m' hj e2 => by rwa [updT_ne _ _ hj] at e2
  have hb : ∀ {b cs X}, Blk wr b cs X → (b = R.t ∨ b = R.g) → Blk w' b cs X := fun {b cs X} hb ht => by
    unfold Blk at hb ⊢
    rw [hK.block b (by rcases ht with e2 | e2; exact .inr (.inl e2); exact .inr (.inr (.inl e2)))]; exact hb
  refine ⟨hR, ⟨⟨⟨R.t, R.g, fun j => if j = i then T' else R.X j⟩, rfl, ⟨?_, hb hA.glob (.inr rfl), ?_, ?_, ?_, hA.tg, ?_, hA.few, hA.gfew, hA.rfew, hA.sfew⟩, ?_⟩, fun k hk => Nat.lt_of_lt_of_le (h.low k hk) hK.size, hN.below, hN.base⟩, hK.size, fun k hk => hK.block k (.inl hk)⟩
  · have h1 := hb hA.head (.inl rfl)
    unfold headV at h1 ⊢
    rw [ptrV_upd hi, ptrV_upd hi, ptrV_upd hi, ptrV_upd hi]
    exact h1
  · intro j m' e2
    by_cases hj : j = i
    · subst hj
      rw [updT_at] at e2
      cases e2
      simp only [eI]
      exact ⟨e4, h4⟩
    · have e3 := hold j m' hj e2
      simp only [eX j hj]
      exact ⟨(hA.thr j m' e3).1, (hA.thr j m' e3).2.keep fun k hk => hK.block k (.inr (.inr (.inr ⟨j, m', hj, e3, hk⟩)))⟩
  · intro j m' e2 k hk
    by_cases hj : j = i
    · subst hj
      simp only [eI] at hk
      exact ⟨fun e3 => (d4 k hk).2 (.inr (.inl e3)), fun e3 => (d4 k hk).2 (.inr (.inr (.inl e3)))⟩
    · simp only [eX j hj] at hk
      exact hA.own j m' (hold j m' hj e2) k hk
  · intro a b ma mb ea eb hab k hka hkb
    by_cases hj : a = i
    · subst hj
      simp only [eI] at hka
      simp only [eX b (fun e => hab e.symm)] at hkb
      exact (d4 k hka).2 (.inr (.inr (.inr ⟨b, mb, fun e => hab e.symm, hold b mb (fun e => hab e.symm) eb, hkb⟩)))
    · simp only [eX a hj] at hka
      by_cases hj2 : b = i
      · subst hj2
        simp only [eI] at hkb
        exact (d4 k hkb).2 (.inr (.inr (.inr ⟨a, ma, hj, hold a ma hj ea, hka⟩)))
      · simp only [eX b hj2] at hkb
        exact hA.apart a b ma mb (hold a ma hj ea) (hold b mb hj2 eb) hab k hka hkb
  · intro j m' e2
    by_cases hj : j = i
    · subst hj; exact hA.live j m hi
    · exact hA.live j m' (hold j m' hj e2)
  · rintro k (e2 | e2 | ⟨j, m', e2, hk⟩)
    · exact hF k (.inl e2)
    · exact hF k (.inr (.inl e2))
    · by_cases hj : j = i
      · subst hj
        simp only [eI] at hk
        exact ⟨(d4 k hk).1, fun e3 => (d4 k hk).2 (.inl e3)⟩
      · simp only [eX j hj] at hk
        exact hF k (.inr (.inr ⟨j, m', hold j m' hj e2, hk⟩))
end
end Go.Proofs.Ytoemfehlnnbjdaa
