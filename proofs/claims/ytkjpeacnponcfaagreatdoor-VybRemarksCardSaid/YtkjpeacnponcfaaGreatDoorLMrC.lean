/- Two markers of one arena; at this seat's numbers. -/
import Derived.Test.YtkjpeacnponcfaaGreatDoorLMrA
namespace Go.Proofs.YtkjpeacnponcfaaGreatDoor
open Go Go.RowKit Go.Shelf
set_option linter.unusedSimpArgs false
set_option linter.unusedVariables false

structure Gm2 (B mb n : Nat) (X : ArB) (s : ArS) (obs : List Ob) (vl : Value) (f : Int → Value) (adj : Int → List Int) (E : Nat → Prop) (T : MkB) (c : Col) (T2 : MkB) (c2 : Col) (wb wr : World) : Prop where
  a : GmIn B mb n X s obs vl f adj (fun k => E k ∨ T2.has k) T c wb wr
  b : GmIn B mb n X s obs vl f adj (fun k => E k ∨ T.has k) T2 c2 wb wr
section
variable {B mb n : Nat} {X : ArB} {s : ArS} {obs : List Ob} {vl : Value} {f : Int → Value} {adj : Int → List Int} {E E' : Nat → Prop} {T T' T2 : MkB} {c c' c2 : Col} {wb wr w' : World}
theorem Gm2.symm (h : Gm2 B mb n X s obs vl f adj E T c T2 c2 wb wr) : Gm2 B mb n X s obs vl f adj E T2 c2 T c wb wr := ⟨h.b, h.a⟩
theorem Gm2.ask (h : Gm2 B mb n X s obs vl f adj E T c T2 c2 wb wr) (hB : Below wr.heap.size wr w') : Gm2 B mb n X s obs vl f adj E T c T2 c2 wb w' := ⟨h.a.ask hB, h.b.ask hB⟩
theorem Gm2.watch (h : Gm2 B mb n X s obs vl f adj E T c T2 c2 wb wr) (hB : Below wr.heap.size wr w') (hE : ∀ k, E' k → E k ∨ (wr.heap.size ≤ k ∧ k < w'.heap.size)) : Gm2 B mb n X s obs vl f adj E' T c T2 c2 wb w' :=
  ⟨h.a.watch hB fun k e => by
    rcases e with e | e
    · rcases hE k e with e2 | e2
      · exact .inl (.inl e2)
      · exact .inr e2
    · exact .inl (.inr e), h.b.watch hB fun k e => by
    rcases e with e | e
    · rcases hE k e with e2 | e2
      · exact .inl (.inl e2)
      · exact .inr e2
    · exact .inl (.inr e)⟩
theorem Gm2.stepA (h : Gm2 B mb n X s obs vl f adj E T c T2 c2 wb wr) (ha : GmIn B mb n X s obs vl f adj (fun k => E k ∨ T2.has k) T' c' wb w') (hk : ∀ k, (E k ∨ T2.has k) → w'.heap[k]? = wr.heap[k]?) :
    Gm2 B mb n X s obs vl f adj E T' c' T2 c2 wb w' ∧ ∀ k, E k → w'.heap[k]? = wr.heap[k]? := by
  refine ⟨⟨ha, ha.go, h.b.mt.keep fun k e => hk k (.inr e), fun k e => ⟨(h.b.own k e).1, (h.b.own k e).2.1, fun e2 => ?_⟩, fun k e => ?_, h.b.inn, h.b.ex⟩, fun k e => hk k (.inl e)⟩
  · rcases e2 with e2 | e2
    · exact (h.b.own k e).2.2 (.inl e2)
    · exact (ha.own k e2).2.2 (.inr e)
  · rcases e with e | e
    · exact ha.ext k (.inl e)
    · exact ha.mt.lt k e
theorem gm2_new (h : GoIn B mb n X s obs vl f adj wb wr) (hP : s.P = 64) (r1 r2 : Int) (hE : ∀ k, E k → k < wr.heap.size) (hr1 : r1 ≤ 4096) (hr2 : r2 ≤ 4096) (hD : TabQ wb) (hDB : True) : Calls Tryz.prog 11 #[.pointer (some ⟨X.a, 0, none⟩), .int .i64 r1] wr fun e w1 =>
    ∃ T : MkB, e = .returned (.pointer (some ⟨T.m, 0, none⟩)) ∧ Calls Tryz.prog 11 #[.pointer (some ⟨X.a, 0, none⟩), .int .i64 r2] w1 fun e w' =>
      ∃ T2 : MkB, e = .returned (.pointer (some ⟨T2.m, 0, none⟩)) ∧ Gm2 B mb n X s obs vl f adj E T Col.white T2 Col.white wb w' := by
  refine (gm_new (E := E) h hP r1 hE hr1 hD hDB).mono ?_
  rintro e w1 ⟨T, rfl, h1, hB1⟩
  refine ⟨T, rfl, ?_⟩
  refine (gm_new (E := fun k => E k ∨ T.has k) h1.go hP r2 (fun k e => by
    rcases e with e | e
    · exact h1.ext k e
    · exact h1.mt.lt k e) hr2 hD hDB).mono ?_
  rintro e w2 ⟨T2, rfl, h2, hB2⟩
  have h1' := h1.ask hB2
  exact ⟨T2, rfl, ⟨⟨h1'.go, h1'.mt, fun k e => ⟨(h1'.own k e).1, (h1'.own k e).2.1, fun e2 => by
    rcases e2 with e2 | e2
    · exact (h1'.own k e).2.2 e2
    · exact (h2.own k e2).2.2 (.inr e)⟩, fun k e => by
    rcases e with e | e
    · exact h1'.ext k e
    · exact h2.mt.lt k e, h1'.inn, h1'.ex⟩, h2⟩⟩
end
theorem Col.white_dry : Col.white.dry := fun x h => by cases h
theorem filter_ord {obs : List Ob} {P : Int → List Int} {fr ord : List Int} {c : Col} (hT : Tri P fr c ord) (hn : (refsI obs).Nodup) (hi : ∀ x, c.ma x = true → x ∈ refsI obs) : ((refsI obs).filter c.sc).length = ord.length :=
  same_length (hn.filter _) hT.nod fun x => by
    rw [List.mem_filter, ← hT.ord x]
    exact ⟨fun h => h.2, fun h => ⟨hi x (hT.sub x h), h⟩⟩
end Go.Proofs.YtkjpeacnponcfaaGreatDoor
