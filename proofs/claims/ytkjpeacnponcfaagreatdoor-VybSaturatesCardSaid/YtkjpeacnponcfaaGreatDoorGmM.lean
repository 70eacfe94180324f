/- A marker in memory: its two sets, its stack; what its calls turn; at this seat's numbers. -/
import Derived.Test.YtkjpeacnponcfaaGreatDoorUa
import Derived.Test.YtkjpeacnponcfaaGreatDoorUb
import Derived.Test.YtkjpeacnponcfaaGreatDoorUc
import Derived.Test.YtkjpeacnponcfaaGreatDoorCol
namespace Go.Proofs.YtkjpeacnponcfaaGreatDoor
open Go Go.RowKit Go.Shelf
set_option linter.unusedSimpArgs false
set_option linter.unusedVariables false

/-- The blocks of a marker: itself, the set of what is marked, the set of what is scanned, the stack. -/
structure MkB where
  m : Nat
  b : Nat
  lo : Option Nat
  b2 : Nat
  lo2 : Option Nat
  g : GrB
  n : Nat
def MkB.has (T : MkB) (k : Nat) : Prop := k = T.m ∨ (k = T.b ∨ T.lo = some k) ∨ (k = T.b2 ∨ T.lo2 = some k) ∨ T.g.has k
def mkArr (T : MkB) (xa : Nat) : Array Value := #[.pointer (some ⟨xa, 0, none⟩), .pointer (some ⟨T.b, 0, none⟩), .pointer (some ⟨T.b2, 0, none⟩), .pointer (some ⟨T.g.s, 0, none⟩)]
structure MkMem (w : World) (T : MkB) (xa : Nat) (S S2 : Nat → Bool) (room : Int) (st : List Int) (ov : Bool) : Prop where
  head : Blk w T.m (mkArr T xa) 67
  s1 : SetAt w T.b T.lo T.n S
  s2 : SetAt w T.b2 T.lo2 T.n S2
  gr : GrAt w T.g room st ov
  sep : Sep T.b T.lo T.b2 T.lo2
/-- What a call on a marker has turned. -/
structure MkStep (T : MkB) (w : World) (T' : MkB) (w' : World) : Prop where
  m : T'.m = T.m
  n : T'.n = T.n
  new : ∀ k, T'.has k → T.has k ∨ w.heap.size ≤ k
  turn : Turn T.has w w'
theorem MkStep.refl (T : MkB) (w : World) : MkStep T w T w := ⟨rfl, rfl, fun k h => .inl h, Turn.refl _ _⟩
theorem MkStep.trans {T T' T2 : MkB} {w w' w2 : World} (h : MkStep T w T' w') (k : MkStep T' w' T2 w2) : MkStep T w T2 w2 := by
  have hs := h.turn.size
  refine ⟨k.m.trans h.m, k.n.trans h.n, fun i hi => ?_, h.turn.trans k.turn fun i hi e => ?_⟩
  · rcases k.new i hi with e | e
    · exact h.new i e
    · exact .inr (by omega)
  · rcases h.new i e with e2 | e2
    · exact e2
    · omega
theorem MkStep.ofBelow {T : MkB} {w w' : World} (hB : Below w.heap.size w w') : MkStep T w T w' := ⟨rfl, rfl, fun k h => .inl h, (Turn.ofBelow hB).mono fun i hi e => absurd hi (by omega)⟩
theorem MkStep.below {T T' : MkB} {w w1 w' : World} (hB : Below w.heap.size w w1) (h : MkStep T w1 T' w') : MkStep T w T' w' := (MkStep.ofBelow hB).trans h
theorem MkStep.then_ {T T' : MkB} {w w1 w' : World} (h : MkStep T w T' w1) (hB : Below w1.heap.size w1 w') : MkStep T w T' w' := h.trans (MkStep.ofBelow hB)

theorem SetAt.farT {w : World} {b : Nat} {lo : Option Nat} {n : Nat} {S : Nat → Bool} {k : Nat} {cs : Array Value} {X : TypeId} (h : SetAt w b lo n S) (hb : Blk w k cs X) (h1 : X ≠ 115) (h2 : X ≠ 145) : ¬ (k = b ∨ lo = some k) := by
  rintro (e | e)
  · obtain ⟨d, l, hB⟩ := h.2.2.blk
    rw [e] at hb; exact blk_types hb hB h1
  · obtain ⟨_, _, h5⟩ := h
    rw [e] at h5
    obtain ⟨_, _, ws, h6, _⟩ := h5
    exact blk_types hb h6 h2
theorem GrAt.farT {w : World} {T : GrB} {room : Int} {st : List Int} {ov : Bool} {k : Nat} {cs : Array Value} {X : TypeId} (h : GrAt w T room st ov) (hb : Blk w k cs X) (h1 : X ≠ 117) (h2 : X ≠ 39) : ¬ T.has k := by
  rintro (e | e)
  · rw [e] at hb; exact blk_types hb h.head h1
  · obtain ⟨_, h6⟩ := h.stk.own e
    exact blk_types hb h6 h2
theorem SetAt.farG {w : World} {b : Nat} {lo : Option Nat} {n : Nat} {S : Nat → Bool} {T : GrB} {room : Int} {st : List Int} {ov : Bool} (h : SetAt w b lo n S) (hg : GrAt w T room st ov) : ∀ k, T.has k → ¬ (k = b ∨ lo = some k) := by
  rintro k (e | e)
  · exact h.farT (e ▸ hg.head) (by decide) (by decide)
  · obtain ⟨_, h6⟩ := hg.stk.own e
    exact h.farT h6 (by decide) (by decide)
section
variable {w w' : World} {T : MkB} {xa : Nat} {S S2 : Nat → Bool} {room : Int} {st : List Int} {ov : Bool}
theorem MkMem.lt (h : MkMem w T xa S S2 room st ov) : ∀ k, T.has k → k < w.heap.size := by
  rintro k (e | (e | e) | (e | e) | e)
  · rw [e]; exact h.head.lt
  · rw [e]; exact h.s1.lt.1
  · exact h.s1.lt.2 k e
  · rw [e]; exact h.s2.lt.1
  · exact h.s2.lt.2 k e
  · exact h.gr.lt k e
theorem MkMem.turn {M : Nat → Prop} (h : MkMem w T xa S S2 room st ov) (hT : Turn M w w') (hn : ∀ k, T.has k → ¬ M k) : MkMem w' T xa S S2 room st ov :=
  ⟨h.head.turn hT (hn _ (.inl rfl)), h.s1.turn hT (hn _ (.inr (.inl (.inl rfl)))) (fun l e => hn l (.inr (.inl (.inr e)))), h.s2.turn hT (hn _ (.inr (.inr (.inl (.inl rfl))))) (fun l e => hn l (.inr (.inr (.inl (.inr e))))),
    h.gr.turn hT (fun k e => hn k (.inr (.inr (.inr e)))), h.sep⟩
theorem MkMem.below (h : MkMem w T xa S S2 room st ov) (hB : Below w.heap.size w w') : MkMem w' T xa S S2 room st ov :=
  h.turn (Turn.ofBelow hB) (fun k hk e => by have := h.lt k hk; omega)
theorem MkMem.drew (h : MkMem w T xa S S2 room st ov) : MkMem w.drew T xa S S2 room st ov := h.below (Below.refl _ w).drew
theorem SetAt.keep {b : Nat} {lo : Option Nat} {n : Nat} (h : SetAt w b lo n S) (hb : w'.heap[b]? = w.heap[b]?) (hl : ∀ l, lo = some l → w'.heap[l]? = w.heap[l]?) : SetAt w' b lo n S := by
  refine ⟨h.1, h.2.1, ?_⟩
  have h3 := h.2.2
  cases lo with
  | none =>
    obtain ⟨h1, h2⟩ := h3
    exact ⟨by unfold Blk at *; rw [hb]; exact h1, h2⟩
  | some l =>
    obtain ⟨h1, h2, ws, h4, h5⟩ := h3
    exact ⟨by unfold Blk at *; rw [hb]; exact h1, h2, ws, by unfold Blk at *; rw [hl l rfl]; exact h4, h5⟩
theorem GrAt.keep {G : GrB} (h : GrAt w G room st ov) (hk : ∀ k, G.has k → w'.heap[k]? = w.heap[k]?) : GrAt w' G room st ov := by
  refine ⟨by have h1 := h.head; unfold Blk at *; rw [hk _ (.inl rfl)]; exact h1, h.stk.1, ?_⟩
  rcases h.stk.2 with h1 | ⟨g, cap, cur, e, hb, hg, rest⟩
  · exact .inl h1
  · exact .inr ⟨g, cap, cur, e, hb, (hk g (.inr (by rw [e]; rfl))).trans hg, rest⟩
theorem MkMem.keep (h : MkMem w T xa S S2 room st ov) (hk : ∀ k, T.has k → w'.heap[k]? = w.heap[k]?) : MkMem w' T xa S S2 room st ov :=
  ⟨by have h1 := h.head; unfold Blk at *; rw [hk _ (.inl rfl)]; exact h1, h.s1.keep (hk _ (.inr (.inl (.inl rfl)))) (fun l e => hk l (.inr (.inl (.inr e)))), h.s2.keep (hk _ (.inr (.inr (.inl (.inl rfl))))) (fun l e => hk l (.inr (.inr (.inl (.inr e))))),
    h.gr.keep (fun k e => hk k (.inr (.inr (.inr e)))), h.sep⟩
theorem MkMem.c0 (h : MkMem w T xa S S2 room st ov) : w.cell? ⟨T.m, 0, none⟩ = some (.pointer (some ⟨xa, 0, none⟩)) := h.head.cell 0
theorem MkMem.c1 (h : MkMem w T xa S S2 room st ov) : w.cell? ⟨T.m, 1, none⟩ = some (.pointer (some ⟨T.b, 0, none⟩)) := h.head.cell 1
theorem MkMem.c2 (h : MkMem w T xa S S2 room st ov) : w.cell? ⟨T.m, 2, none⟩ = some (.pointer (some ⟨T.b2, 0, none⟩)) := h.head.cell 2
theorem MkMem.c3 (h : MkMem w T xa S S2 room st ov) : w.cell? ⟨T.m, 3, none⟩ = some (.pointer (some ⟨T.g.s, 0, none⟩)) := h.head.cell 3

theorem sep_step {b b2 : Nat} {lo lo' lo2 : Option Nat} (h : Sep b lo b2 lo2) (hl : lo' = lo ∨ lo = none ∧ ∃ l, lo' = some l ∧ w.heap.size ≤ l) (hb : b2 < w.heap.size) (hb2 : ∀ l, lo2 = some l → l < w.heap.size) : Sep b lo' b2 lo2 := by
  refine ⟨h.1, fun l e => ?_, h.2.2.1, fun l e e2 => ?_⟩
  · rcases hl with e3 | ⟨_, l', e3, h3⟩
    · exact h.2.1 l (e3 ▸ e)
    · rw [e3] at e; cases e; omega
  · rcases hl with e3 | ⟨_, l', e3, h3⟩
    · exact h.2.2.2 l (e3 ▸ e) e2
    · rw [e3] at e; cases e; have := hb2 _ e2; omega
/-- A call on the set of what is marked. -/
theorem MkMem.turn1 {S' : Nat → Bool} {r : Bool} {e : Ending} (h : MkMem w T xa S S2 room st ov) (hP : TurnPost T.b T.lo T.n r S' w e w') :
    e = .returned (.bool r) ∧ ∃ T', T'.g = T.g ∧ MkMem w' T' xa S' S2 room st ov ∧ MkStep T w T' w' := by
  obtain ⟨lo', rfl, hA, hl, hT⟩ := hP
  have n1 := h.s1.farT h.head (by decide) (by decide)
  have n3 := h.s1.farG h.gr
  refine ⟨rfl, { T with lo := lo' }, rfl, ⟨h.head.turn hT n1, hA, h.s2.turn hT ?_ ?_, h.gr.turn hT n3, sep_step h.sep hl h.s2.lt.1 h.s2.lt.2⟩, rfl, rfl, ?_, hT.mono fun k _ e => .inr (.inl e)⟩
  · rintro (e | e)
    · exact h.sep.1 e.symm
    · exact h.sep.2.1 _ e rfl
  · rintro l e2 (e | e)
    · exact h.sep.2.2.1 l e2 e
    · exact h.sep.2.2.2 l e e2
  · rintro k (e | (e | e) | e | e)
    · exact .inl (.inl e)
    · exact .inl (.inr (.inl (.inl e)))
    · rcases hl with e3 | ⟨_, l', e3, h3⟩
      · exact .inl (.inr (.inl (.inr (e3 ▸ e))))
      · have e4 : lo' = some k := e
        rw [e3] at e4; cases e4; exact .inr h3
    · exact .inl (.inr (.inr (.inl e)))
    · exact .inl (.inr (.inr (.inr e)))
/-- A call on the set of what is scanned. -/
theorem MkMem.turn2 {S' : Nat → Bool} {r : Bool} {e : Ending} (h : MkMem w T xa S S2 room st ov) (hP : TurnPost T.b2 T.lo2 T.n r S' w e w') :
    e = .returned (.bool r) ∧ ∃ T', T'.g = T.g ∧ MkMem w' T' xa S S' room st ov ∧ MkStep T w T' w' := by
  obtain ⟨lo', rfl, hA, hl, hT⟩ := hP
  have n1 := h.s2.farT h.head (by decide) (by decide)
  have n3 := h.s2.farG h.gr
  refine ⟨rfl, { T with lo2 := lo' }, rfl, ⟨h.head.turn hT n1, h.s1.turn hT ?_ ?_, hA, h.gr.turn hT n3, (sep_step h.sep.symm hl h.s1.lt.1 h.s1.lt.2).symm⟩, rfl, rfl, ?_, hT.mono fun k _ e => .inr (.inr (.inl e))⟩
  · rintro (e | e)
    · exact h.sep.1 e
    · exact h.sep.2.2.1 _ e rfl
  · rintro l e2 (e | e)
    · exact h.sep.2.1 l e2 e
    · exact h.sep.2.2.2 l e2 e
  · rintro k (e | e | (e | e) | e)
    · exact .inl (.inl e)
    · exact .inl (.inr (.inl e))
    · exact .inl (.inr (.inr (.inl (.inl e))))
    · rcases hl with e3 | ⟨_, l', e3, h3⟩
      · exact .inl (.inr (.inr (.inl (.inr (e3 ▸ e)))))
      · have e4 : lo' = some k := e
        rw [e3] at e4; cases e4; exact .inr h3
    · exact .inl (.inr (.inr (.inr e)))
/-- A call on the stack. -/
theorem MkMem.turn3 {G : GrB} {st' : List Int} {ov' : Bool} (h : MkMem w T xa S S2 room st ov) (hG : GrAt w' G room st' ov') (hS : GrStep T.g w G w') :
    ∃ T', T'.g = G ∧ MkMem w' T' xa S S2 room st' ov' ∧ MkStep T w T' w' := by
  have n1 := h.s1.farG h.gr
  have n2 := h.s2.farG h.gr
  have n0 := h.gr.farT h.head (by decide) (by decide)
  refine ⟨{ T with g := G }, rfl, ⟨(h.head.turn hS.turn n0).is ?_, h.s1.turn hS.turn (fun e => n1 _ e (.inl rfl)) (fun l e e2 => n1 l e2 (.inr e)), h.s2.turn hS.turn (fun e => n2 _ e (.inl rfl)) (fun l e e2 => n2 l e2 (.inr e)), hG, h.sep⟩, rfl, rfl, ?_, hS.turn.mono fun k _ e => .inr (.inr (.inr e))⟩
  · show mkArr T xa = mkArr { T with g := G } xa
    unfold mkArr
    rw [hS.s]
  · rintro k (e | e | e | e)
    · exact .inl (.inl e)
    · exact .inl (.inr (.inl e))
    · exact .inl (.inr (.inr (.inl e)))
    · rcases hS.new k e with e2 | e2
      · exact .inl (.inr (.inr (.inr e2)))
      · exact .inr e2
end

theorem inS_put {N : Nat} (S : Nat → Bool) {x : Int} (h1 : 0 ≤ x) (h2 : x < N) : inS (putS N S x) = updI (inS S) x true := by
  have hm : may N x = true := by simp [may]; omega
  funext y
  by_cases e : y = x
  · subst e
    rw [updI_at]
    simp [inS, putS, hm, h1]
  · rw [updI_ne e]
    unfold inS putS
    by_cases h0 : 0 ≤ y
    · have : ¬ y.toNat = x.toNat := by omega
      simp [hm, this]
    · simp [h0]
theorem inS_drop (S : Nat → Bool) (x : Int) : inS (dropS S x) = updI (inS S) x false := by
  funext y
  by_cases e : y = x
  · subst e
    rw [updI_at]
    unfold inS dropS
    by_cases h0 : 0 ≤ y
    · have : ((y.toNat : Nat) : Int) = y := by omega
      simp [this]
    · simp [h0]
  · rw [updI_ne e]
    unfold inS dropS
    by_cases h0 : 0 ≤ y
    · have : ¬ ((y.toNat : Nat) : Int) = x := by omega
      rw [decide_eq_false this]; simp
    · simp [h0]
theorem updI_same {f : Int → Bool} {x : Int} {v : Bool} (h : f x = v) : updI f x v = f := by
  funext y
  by_cases e : y = x
  · rw [e, updI_at, h]
  · rw [updI_ne e]

/-- What a marker's memory says. -/
structure MkOk (S S2 : Nat → Bool) (room : Int) (st : List Int) (ov : Bool) (c : Col) : Prop where
  ma : c.ma = inS S
  sc : c.sc = inS S2
  sub : ∀ x, c.sc x = true → c.ma x = true
  r1 : 1 ≤ room
  r2 : room ≤ 4096
  len : (st.length : Int) ≤ room
  grey : ∀ x, c.ma x = true → c.sc x = false → x ∈ st ∨ ov = true
structure MkAt (w : World) (T : MkB) (xa : Nat) (c : Col) : Prop where
  ex : ∃ (S S2 : Nat → Bool) (room : Int) (st : List Int) (ov : Bool), MkMem w T xa S S2 room st ov ∧ MkOk S S2 room st ov c
section
variable {w w' : World} {T : MkB} {xa : Nat} {c : Col}
theorem MkAt.turn {M : Nat → Prop} (h : MkAt w T xa c) (hT : Turn M w w') (hn : ∀ k, T.has k → ¬ M k) : MkAt w' T xa c := by
  obtain ⟨S, S2, room, st, ov, hM, hO⟩ := h.ex
  exact ⟨S, S2, room, st, ov, hM.turn hT hn, hO⟩
theorem MkAt.keep (h : MkAt w T xa c) (hk : ∀ k, T.has k → w'.heap[k]? = w.heap[k]?) : MkAt w' T xa c := by
  obtain ⟨S, S2, room, st, ov, hM, hO⟩ := h.ex
  exact ⟨S, S2, room, st, ov, hM.keep hk, hO⟩
theorem MkAt.lt (h : MkAt w T xa c) : ∀ k, T.has k → k < w.heap.size := by
  obtain ⟨S, S2, room, st, ov, hM, hO⟩ := h.ex
  exact hM.lt
theorem MkAt.below (h : MkAt w T xa c) (hB : Below w.heap.size w w') : MkAt w' T xa c := h.turn (Turn.ofBelow hB) (fun k hk e => by have := h.lt k hk; omega)
/-- None of a marker's blocks is one of deferred calls, or of a range. -/
theorem MkAt.cells (h : MkAt w T xa c) {k : Nat} (hk : T.has k) {o : Obj} (ho : w.heap[k]? = some o) : o.isCells = true := by
  obtain ⟨S, S2, room, st, ov, hM, hO⟩ := h.ex
  have go : ∀ {j : Nat} {cs : Array Value} {X : TypeId}, Blk w j cs X → w.heap[j]? = some o → o.isCells = true := fun hb h2 => by
    unfold Blk at hb; rw [hb] at h2; cases h2; rfl
  have gs : ∀ {b N : Nat} {lo : Option Nat} {S : Nat → Bool}, SetAt w b lo N S → (k = b ∨ lo = some k) → o.isCells = true := fun hs e => by
    rcases e with e | e
    · obtain ⟨d, l, hB⟩ := hs.2.2.blk
      exact go hB (e ▸ ho)
    · obtain ⟨_, _, h5⟩ := hs
      rw [e] at h5
      obtain ⟨_, _, ws, h6, _⟩ := h5
      exact go h6 ho
  rcases hk with e | e | e | e | e
  · exact go hM.head (e ▸ ho)
  · exact gs hM.s1 e
  · exact gs hM.s2 e
  · exact go hM.gr.head (e ▸ ho)
  · obtain ⟨_, h6⟩ := hM.gr.stk.own e
    exact go h6 ho
end
end Go.Proofs.YtkjpeacnponcfaaGreatDoor
