/- A stack that a call made: its calls; fit; at this seat's numbers. -/
import Derived.Test.YtgpeppakohnmjaaGrB
namespace Go.Proofs.Ytgpeppakohnmjaa
open Go Go.RowKit
set_option linter.unusedSimpArgs false
set_option linter.unusedVariables false
attribute [local go_sem] Oper.semAt_some

/-- What blocks keep. -/
structure Keep (F : Nat → Prop) (w w' : World) : Prop where
  size : w.heap.size ≤ w'.heap.size
  block : ∀ k, F k → w'.heap[k]? = w.heap[k]?
/-- A stack that a call made since; none of its blocks is in F. -/
structure GrIn (B : Nat) (F : Nat → Prop) (s : Nat) (room : Int) (st : List Int) (ov : Bool) (wb wr : World) : Prop where
  ex : ∃ T : GrB, T.s = s ∧ GrAt wr T room st ov ∧ ∀ k, T.has k → B ≤ k ∧ ¬ F k
  low : ∀ k, F k → k < wr.heap.size
  below : Below B wb wr
  base : B ≤ wb.heap.size
section
variable {B s : Nat} {F : Nat → Prop} {room : Int} {st : List Int} {ov : Bool} {wb wr w' : World}
theorem GrIn.size (h : GrIn B F s room st ov wb wr) : B ≤ wr.heap.size := Nat.le_trans h.base h.below.size
theorem GrIn.ask (h : GrIn B F s room st ov wb wr) (hB : Below wr.heap.size wr w') : GrIn B F s room st ov wb w' := by
  obtain ⟨T, e, hA, hF⟩ := h.ex
  exact ⟨⟨T, e, hA.below hB, hF⟩, fun k hk => Nat.lt_of_lt_of_le (h.low k hk) hB.size, h.below.trans (hB.mono h.size), h.base⟩
theorem GrIn.alloc (h : GrIn B F s room st ov wb wr) (o : Obj) : GrIn B F s room st ov wb (wr.alloc o) := h.ask ((Below.refl _ wr).alloc (Nat.le_refl _) o)
theorem GrIn.drew (h : GrIn B F s room st ov wb wr) : GrIn B F s room st ov wb wr.drew := h.ask (Below.refl _ wr).drew
theorem Keep.ofBelow (h : GrIn B F s room st ov wb wr) (hB : Below wr.heap.size wr w') : Keep F wr w' := ⟨hB.size, fun k hk => hB.block k (h.low k hk)⟩
theorem GrIn.turned {M : Nat → Prop} (h : GrIn B F s room st ov wb wr) (hT : Turn M wr w') (hM : ∀ k, M k → F k ∧ B ≤ k) : GrIn B F s room st ov wb w' := by
  obtain ⟨T, e, hA, hF⟩ := h.ex
  exact ⟨⟨T, e, hA.turn hT (fun k hk e2 => (hF k hk).2 (hM k e2).1), hF⟩, fun k hk => Nat.lt_of_lt_of_le (h.low k hk) hT.size, h.below.trans (hT.below B h.size fun k hk e2 => by have := (hM k e2).2; omega), h.base⟩
/-- New blocks are none of a stack's. -/
theorem GrIn.add {F' : Nat → Prop} (h : GrIn B F s room st ov wb wr) (hB : Below wr.heap.size wr w') (hF : ∀ k, F' k → F k ∨ (wr.heap.size ≤ k ∧ k < w'.heap.size)) : GrIn B F' s room st ov wb w' := by
  obtain ⟨T, e, hA, hG⟩ := h.ex
  refine ⟨⟨T, e, hA.below hB, fun k hk => ⟨(hG k hk).1, fun e2 => ?_⟩⟩, fun k hk => ?_, h.below.trans (hB.mono h.size), h.base⟩
  · rcases hF k e2 with e3 | ⟨e3, _⟩
    · exact (hG k hk).2 e3
    · have := hA.lt k hk; omega
  · rcases hF k hk with e3 | ⟨_, e3⟩
    · exact Nat.lt_of_lt_of_le (h.low k e3) hB.size
    · exact e3
theorem GrIn.step {T T' : GrB} {st' : List Int} {ov' : Bool} (h : GrIn B F s room st ov wb wr) (e : T.s = s) (hA : GrAt wr T room st ov) (hF : ∀ k, T.has k → B ≤ k ∧ ¬ F k) (hA' : GrAt w' T' room st' ov') (hS : GrStep T wr T' w') :
    GrIn B F s room st' ov' wb w' ∧ Keep F wr w' := by
  have hs := h.size
  refine ⟨⟨⟨T', hS.s.trans e, hA', fun k hk => ?_⟩, fun k hk => Nat.lt_of_lt_of_le (h.low k hk) hS.turn.size, h.below.trans (hS.turn.below B hs fun k hk e2 => by have := (hF k e2).1; omega), h.base⟩, hS.turn.size, fun k hk => hS.turn.block k (h.low k hk) (fun e2 => (hF k e2).2 hk)⟩
  rcases hS.new k hk with e2 | e2
  · exact hF k e2
  · exact ⟨by omega, fun e3 => by have := h.low k e3; omega⟩
theorem grIn_new (room : Int) (hF : ∀ k, F k → k < wr.heap.size) (hB : Below B wb wr) (hb : B ≤ wb.heap.size) : Calls Try.prog 8 #[.int .i64 room] wr fun e w' =>
    ∃ s, e = .returned (.pointer (some ⟨s, 0, none⟩)) ∧ GrIn B F s room [] false wb w' ∧ Below wr.heap.size wr w' := by
  refine (grNew room wr).mono ?_
  rintro e w1 ⟨T, rfl, hA, hT, hB1⟩
  have hs := hB.size
  exact ⟨T.s, rfl, ⟨⟨T, rfl, hA, fun k hk => ⟨by have := hT k hk; omega, fun e => by have := hT k hk; have := hF k e; omega⟩⟩, fun k hk => Nat.lt_of_lt_of_le (hF k hk) hB1.size, hB.trans (hB1.mono (by omega)), hb⟩, hB1⟩
theorem GrIn.len (h : GrIn B F s room st ov wb wr) (n : Int) (hn : (st.length : Int) = n) : Calls Try.prog 13 #[.pointer (some ⟨s, 0, none⟩)] wr fun e w' => e = .returned (.int .i64 n) ∧ wr = w' := by
  obtain ⟨T, rfl, hA, hF⟩ := h.ex
  subst hn
  exact hA.len
theorem GrIn.over (h : GrIn B F s room st ov wb wr) : Calls Try.prog 14 #[.pointer (some ⟨s, 0, none⟩)] wr fun e w' => e = .returned (.bool ov) ∧ wr = w' := by
  obtain ⟨T, rfl, hA, hF⟩ := h.ex
  exact hA.over
theorem GrIn.settle (h : GrIn B F s room st ov wb wr) : Calls Try.prog 11 #[.pointer (some ⟨s, 0, none⟩)] wr fun e w' =>
    e = .returned (.tuple #[]) ∧ GrIn B F s room st false wb w' ∧ Keep F wr w' := by
  obtain ⟨T, rfl, hA, hF⟩ := h.ex
  refine hA.settle.mono ?_
  rintro e w1 ⟨rfl, T', hA', hS⟩
  exact ⟨rfl, h.step rfl hA hF hA' hS⟩
theorem GrIn.reset (h : GrIn B F s room st ov wb wr) : Calls Try.prog 12 #[.pointer (some ⟨s, 0, none⟩)] wr fun e w' =>
    e = .returned (.tuple #[]) ∧ GrIn B F s room [] false wb w' ∧ Keep F wr w' := by
  obtain ⟨T, rfl, hA, hF⟩ := h.ex
  refine hA.reset.mono ?_
  rintro e w1 ⟨rfl, T', hA', hS⟩
  exact ⟨rfl, h.step rfl hA hF hA' hS⟩
theorem GrIn.push (h : GrIn B F s room st ov wb wr) (hr : (st.length : Int) < room) (hl : st.length ≤ 100000) (r : Int) : Calls Try.prog 9 #[.pointer (some ⟨s, 0, none⟩), .int .i64 r] wr fun e w' =>
    e = .returned (.bool true) ∧ GrIn B F s room (st ++ [r]) ov wb w' ∧ Keep F wr w' := by
  obtain ⟨T, rfl, hA, hF⟩ := h.ex
  refine (hA.push hr hl r).mono ?_
  rintro e w1 ⟨rfl, T', hA', hS⟩
  exact ⟨rfl, h.step rfl hA hF hA' hS⟩
theorem GrIn.pushNo (h : GrIn B F s room st ov wb wr) (hr : room ≤ (st.length : Int)) (r : Int) : Calls Try.prog 9 #[.pointer (some ⟨s, 0, none⟩), .int .i64 r] wr fun e w' =>
    e = .returned (.bool false) ∧ GrIn B F s room st true wb w' ∧ Keep F wr w' := by
  obtain ⟨T, rfl, hA, hF⟩ := h.ex
  refine (hA.pushNo hr r).mono ?_
  rintro e w1 ⟨rfl, T', hA', hS⟩
  exact ⟨rfl, h.step rfl hA hF hA' hS⟩
theorem GrIn.pop {r : Int} (h : GrIn B F s room (st ++ [r]) ov wb wr) (hl : st.length ≤ 100000) : Calls Try.prog 10 #[.pointer (some ⟨s, 0, none⟩)] wr fun e w' =>
    e = .returned (.tuple #[.int .i64 r, .bool true]) ∧ GrIn B F s room st ov wb w' ∧ Keep F wr w' := by
  obtain ⟨T, rfl, hA, hF⟩ := h.ex
  refine (hA.pop hl).mono ?_
  rintro e w1 ⟨rfl, T', hA', hS⟩
  exact ⟨rfl, h.step rfl hA hF hA' hS⟩
theorem GrIn.popNo (h : GrIn B F s room [] ov wb wr) : Calls Try.prog 10 #[.pointer (some ⟨s, 0, none⟩)] wr fun e w' =>
    e = .returned (.tuple #[.int .i64 0, .bool false]) ∧ wr = w' := by
  obtain ⟨T, rfl, hA, hF⟩ := h.ex
  exact hA.popNo
end
set_option maxRecDepth 100000 in
set_option maxHeartbeats 2000000 in
theorem grfit_true (w : World) : Calls Try.prog 7 #[] w fun e w' => e = .returned (.bool true) ∧ Below w.heap.size w w' := by
  go_enter Try.func7, Try.ntmps7
  go_wp2_with fail
  refine (grIn_new (B := w.heap.size) (F := fun _ => False) (wb := w) (wr := w) 1 (fun _ h => h.elim) (Below.refl _ _) (Nat.le_refl _)).mono ?_
  rintro e w1 ⟨s, rfl, h1, _⟩
  go_wp2_with fail
  refine (h1.push (by decide) (by decide) 4).mono ?_
  rintro e w2 ⟨rfl, h2, _⟩
  clear h1
  go_wp2_with fail
  refine h2.over.mono ?_
  rintro e w3 ⟨rfl, rfl⟩
  go_wp2_with fail
  refine (h2.pushNo (by decide) 5).mono ?_
  rintro e w4 ⟨rfl, h4, _⟩
  clear h2
  go_wp2_with fail
  refine h4.over.mono ?_
  rintro e w5 ⟨rfl, rfl⟩
  go_wp2_with fail
  refine (GrIn.pop (st := []) h4 (by decide)).mono ?_
  rintro e w6 ⟨rfl, h6, _⟩
  clear h4
  go_wp2_with fail
  refine (h6.len 0 rfl).mono ?_
  rintro e w7 ⟨rfl, rfl⟩
  go_wp2_with fail
  refine h6.over.mono ?_
  rintro e w8 ⟨rfl, rfl⟩
  have hbl := h6.below
  clear h6
  go_wp2_with fail
  go_ret
  exact ⟨rfl, hbl⟩
end Go.Proofs.Ytgpeppakohnmjaa
