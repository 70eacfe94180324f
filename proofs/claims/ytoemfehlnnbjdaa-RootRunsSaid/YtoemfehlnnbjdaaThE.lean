/- A thread that a call made: its calls; fit; at this seat's numbers. -/
import Derived.Test.YtoemfehlnnbjdaaThD
namespace Go.Proofs.Ytoemfehlnnbjdaa
open Go Go.RowKit Go.Shelf
set_option linter.unusedSimpArgs false
set_option linter.unusedVariables false
attribute [local go_sem] Oper.semAt_some

/-- What blocks keep. -/
structure Keep (F : Nat → Prop) (w w' : World) : Prop where
  size : w.heap.size ≤ w'.heap.size
  block : ∀ k, F k → w'.heap[k]? = w.heap[k]?
/-- A thread that a call made since; none of its blocks is in F. -/
structure ThIn (B : Nat) (F : Nat → Prop) (t : Nat) (regs room : Int) (f : Nat → Int) (st : List Int) (wb wr : World) : Prop where
  ex : ∃ T : ThB, T.t = t ∧ ThAt wr T regs room f st ∧ ∀ k, T.has k → B ≤ k ∧ ¬ F k
  low : ∀ k, F k → k < wr.heap.size
  below : Below B wb wr
  base : B ≤ wb.heap.size
section
variable {B t : Nat} {F : Nat → Prop} {regs room : Int} {f : Nat → Int} {st : List Int} {wb wr w' : World}
theorem ThIn.size (h : ThIn B F t regs room f st wb wr) : B ≤ wr.heap.size := Nat.le_trans h.base h.below.size
theorem ThIn.ask (h : ThIn B F t regs room f st wb wr) (hB : Below wr.heap.size wr w') : ThIn B F t regs room f st wb w' := by
  obtain ⟨T, e, hA, hF⟩ := h.ex
  exact ⟨⟨T, e, hA.below hB, hF⟩, fun k hk => Nat.lt_of_lt_of_le (h.low k hk) hB.size, h.below.trans (hB.mono h.size), h.base⟩
theorem ThIn.alloc (h : ThIn B F t regs room f st wb wr) (o : Obj) : ThIn B F t regs room f st wb (wr.alloc o) := h.ask ((Below.refl _ wr).alloc (Nat.le_refl _) o)
theorem ThIn.drew (h : ThIn B F t regs room f st wb wr) : ThIn B F t regs room f st wb wr.drew := h.ask (Below.refl _ wr).drew
theorem Keep.ofBelow (h : ThIn B F t regs room f st wb wr) (hB : Below wr.heap.size wr w') : Keep F wr w' := ⟨hB.size, fun k hk => hB.block k (h.low k hk)⟩
theorem ThIn.turned {M : Nat → Prop} (h : ThIn B F t regs room f st wb wr) (hT : Turn M wr w') (hM : ∀ k, M k → F k ∧ B ≤ k) : ThIn B F t regs room f st wb w' := by
  obtain ⟨T, e, hA, hF⟩ := h.ex
  exact ⟨⟨T, e, hA.turn hT (fun k hk e2 => (hF k hk).2 (hM k e2).1), hF⟩, fun k hk => Nat.lt_of_lt_of_le (h.low k hk) hT.size, h.below.trans (hT.below B h.size fun k hk e2 => by have := (hM k e2).2; omega), h.base⟩
/-- New blocks are none of a thread's. -/
theorem ThIn.add {F' : Nat → Prop} (h : ThIn B F t regs room f st wb wr) (hB : Below wr.heap.size wr w') (hF : ∀ k, F' k → F k ∨ (wr.heap.size ≤ k ∧ k < w'.heap.size)) : ThIn B F' t regs room f st wb w' := by
  obtain ⟨T, e, hA, hG⟩ := h.ex
  refine ⟨⟨T, e, hA.below hB, fun k hk => ⟨(hG k hk).1, fun e2 => ?_⟩⟩, fun k hk => ?_, h.below.trans (hB.mono h.size), h.base⟩
  · rcases hF k e2 with e3 | ⟨e3, _⟩
    · exact (hG k hk).2 e3
    · have := hA.lt k hk; omega
  · rcases hF k hk with e3 | ⟨_, e3⟩
    · exact Nat.lt_of_lt_of_le (h.low k e3) hB.size
    · exact e3
theorem ThIn.step {T T' : ThB} {f' : Nat → Int} {st' : List Int} (h : ThIn B F t regs room f st wb wr) (e : T.t = t) (hA : ThAt wr T regs room f st) (hF : ∀ k, T.has k → B ≤ k ∧ ¬ F k) (hA' : ThAt w' T' regs room f' st') (hS : ThStep T wr T' w') :
    ThIn B F t regs room f' st' wb w' ∧ Keep F wr w' := by
  have hs := h.size
  refine ⟨⟨⟨T', hS.t.trans e, hA', fun k hk => ?_⟩, fun k hk => Nat.lt_of_lt_of_le (h.low k hk) hS.turn.size, h.below.trans (hS.turn.below B hs fun k hk e2 => by have := (hF k e2).1; omega), h.base⟩, hS.turn.size, fun k hk => hS.turn.block k (h.low k hk) (fun e2 => (hF k e2).2 hk)⟩
  rcases hS.new k hk with e2 | e2
  · exact hF k e2
  · exact ⟨by omega, fun e3 => by have := h.low k e3; omega⟩
theorem thIn_new (regs room : Int) (h1 : regs ≤ 4096) (h2 : room ≤ 4096) (hF : ∀ k, F k → k < wr.heap.size) (hB : Below B wb wr) (hb : B ≤ wb.heap.size) : Calls Try.prog 27 #[.int .i64 regs, .int .i64 room] wr fun e w' =>
    ∃ t, e = .returned (.pointer (some ⟨t, 0, none⟩)) ∧ ThIn B F t regs room (fun _ => 0) [] wb w' ∧ Below wr.heap.size wr w' := by
  refine (thNew regs room h1 h2 wr).mono ?_
  rintro e w1 ⟨T, rfl, hA, hT, hB1⟩
  have hs := hB.size
  exact ⟨T.t, rfl, ⟨⟨T, rfl, hA, fun k hk => ⟨by have := hT k hk; omega, fun e => by have := hT k hk; have := hF k e; omega⟩⟩, fun k hk => Nat.lt_of_lt_of_le (hF k hk) hB1.size, hB.trans (hB1.mono (by omega)), hb⟩, hB1⟩
theorem ThIn.depth (h : ThIn B F t regs room f st wb wr) : Calls Try.prog 24 #[.pointer (some ⟨t, 0, none⟩)] wr fun e w' => e = .returned (.int .i64 (st.length : Int)) ∧ wr = w' := by
  obtain ⟨T, rfl, hA, hF⟩ := h.ex
  exact hA.depth
theorem ThIn.full (h : ThIn B F t regs room f st wb wr) (q : Bool) (hq : decide (room ≤ (st.length : Int)) = q) : Calls Try.prog 33 #[.pointer (some ⟨t, 0, none⟩)] wr fun e w' => e = .returned (.bool q) ∧ wr.drew = w' := by
  obtain ⟨T, rfl, hA, hF⟩ := h.ex
  exact hA.full q hq
theorem ThIn.setReg (h : ThIn B F t regs room f st wb wr) (i : Nat) (x : Int) (hx : x = i) (hi : x < regs) (r : Int) : Calls Try.prog 14 #[.pointer (some ⟨t, 0, none⟩), .int .i64 x, .int .i64 r] wr fun e w' =>
    e = .returned (.int .i64 0) ∧ ThIn B F t regs room (updR f i r) st wb w' ∧ Keep F wr w' := by
  obtain ⟨T, rfl, hA, hF⟩ := h.ex
  subst hx
  refine (hA.setReg i hi r).mono ?_
  rintro e w1 ⟨rfl, T', hA', hS⟩
  exact ⟨rfl, h.step rfl hA hF hA' hS⟩
theorem ThIn.setRegNo (h : ThIn B F t regs room f st wb wr) (i : Int) (hi : ¬ (0 ≤ i ∧ i < regs)) (r : Int) : Calls Try.prog 14 #[.pointer (some ⟨t, 0, none⟩), .int .i64 i, .int .i64 r] wr fun e w' =>
    e = .returned (.int .i64 4) ∧ wr = w' := by
  obtain ⟨T, rfl, hA, hF⟩ := h.ex
  exact hA.setRegNo i hi r
theorem ThIn.push (h : ThIn B F t regs room f st wb wr) (hr : (st.length : Int) < room) (r : Int) : Calls Try.prog 20 #[.pointer (some ⟨t, 0, none⟩), .int .i64 r] wr fun e w' =>
    e = .returned (.int .i64 0) ∧ ThIn B F t regs room f (st ++ [r]) wb w' ∧ Keep F wr w' := by
  obtain ⟨T, rfl, hA, hF⟩ := h.ex
  refine (hA.push hr r).mono ?_
  rintro e w1 ⟨rfl, T', hA', hS⟩
  exact ⟨rfl, h.step rfl hA hF hA' hS⟩
theorem ThIn.pushNo (h : ThIn B F t regs room f st wb wr) (hr : room ≤ (st.length : Int)) (r : Int) : Calls Try.prog 20 #[.pointer (some ⟨t, 0, none⟩), .int .i64 r] wr fun e w' =>
    e = .returned (.int .i64 9) ∧ Below wr.heap.size wr w' := by
  obtain ⟨T, rfl, hA, hF⟩ := h.ex
  exact hA.pushNo hr r
end
end Go.Proofs.Ytoemfehlnnbjdaa
