/- What MarkBlacks asks beside: a group is cut, blocks beside turn; colours with blacks; at this seat's numbers. -/
import Derived.Test.YtkjpeacnponcfaaGreatDoorLMrA
namespace Go.Proofs.YtkjpeacnponcfaaGreatDoor
open Go Go.RowKit Go.Shelf
set_option linter.unusedSimpArgs false
set_option linter.unusedVariables false

section
variable {B mb n : Nat} {X : ArB} {s : ArS} {obs : List Ob} {vl : Value} {f : Int → Value} {adj : Int → List Int} {E E' : Nat → Prop} {T : MkB} {c : Col} {wb wr w' : World}
theorem GmIn.turnE {M : Nat → Prop} (h : GmIn B mb n X s obs vl f adj E T c wb wr) (hT : Turn M wr w') (hM : ∀ k, M k → E k ∧ B ≤ k ∧ ¬ GoHas X mb vl f k) : GmIn B mb n X s obs vl f adj E T c wb w' :=
  ⟨h.go.turned hT (fun k e e2 => (hM k e2).2.2 e) (fun k hk e => by have := (hM k e).2.1; omega), h.mt.turn hT (fun k e e2 => (h.own k e).2.2 (hM k e2).1), h.own, fun k e => Nat.lt_of_lt_of_le (h.ext k e) hT.size, h.inn, h.ex⟩
theorem GmIn.reE (h : GmIn B mb n X s obs vl f adj E T c wb wr) (hE : ∀ k, E' k → ¬ T.has k ∧ k < wr.heap.size) : GmIn B mb n X s obs vl f adj E' T c wb wr :=
  ⟨h.go, h.mt, fun k e => ⟨(h.own k e).1, (h.own k e).2.1, fun e2 => (hE k e2).1 e⟩, fun k e => (hE k e).2, h.inn, h.ex⟩
/-- to[x] = nil. -/
theorem GmIn.cut (h : GmIn B mb n X s obs vl f adj E T c wb wr) (hn : n < 9223372036854775807) (x : Int) (hx : (Lit.int .i64 x).wf = true) :
    ∃ w', (Instr.mapUpdate 30 (.map (some mb)) (.int .i64 x) (.slice none 0 0)).run Tryz.prog wr = .ok () w' ∧ GmIn B mb (n + 1) X s obs vl (updI f x (.slice none 0 0)) (updI adj x []) E T c wb w' ∧ Turn (fun k => k = mb) wr w' := by
  obtain ⟨w', hrun, hs, hS⟩ := h.go.grp.map.store hn x hx (.inl rfl)
  refine ⟨w', hrun, ⟨h.go.grow x (Turn.refl _ wr) (World.ownsRow_nil _ _ _ _) (fun k e => by cases e) hs hS, h.mt.turn hS (fun k e e2 => (h.own k e).2.1 (.inr (.inr (.inl e2)))), fun k e => ⟨(h.own k e).1, fun e2 => ?_, (h.own k e).2.2⟩, fun k e => Nat.lt_of_lt_of_le (h.ext k e) hS.size, h.inn, h.ex⟩, hS⟩
  rcases goHas_upd e2 with e3 | e3
  · exact (h.own k e).2.1 e3
  · cases e3
/-- What holds no cells, and isn't its map, is none of a graph's. -/
theorem GoIn.farObj {k : Nat} {o : Obj} (h : GoIn B mb n X s obs vl f adj wb wr) (hk : wr.heap[k]? = some o) (ho : o.isCells = false) (hne : k ≠ mb) : ¬ GoHas X mb vl f k := fun e => by
  rcases h.cells e hk with e2 | e2
  · exact hne e2
  · rw [e2] at ho; cases ho
end
/-- Where each points, but for the blacks. -/
def adjB (obs : List Ob) (bl : List Int) (x : Int) : List Int := if x ∈ bl then [] else ptsAt obs x
theorem adjB_nil (obs : List Ob) : adjB obs [] = ptsAt obs := by funext x; simp [adjB]
theorem adjB_cons (obs : List Ob) (bl : List Int) (x : Int) : updI (adjB obs bl) x [] = adjB obs (x :: bl) := by
  funext y
  by_cases e : y = x
  · rw [e, updI_at]; unfold adjB; rw [if_pos List.mem_cons_self]
  · rw [updI_ne e]; unfold adjB
    by_cases e2 : y ∈ bl
    · rw [if_pos e2, if_pos (List.mem_cons_of_mem _ e2)]
    · rw [if_neg e2, if_neg (fun e3 => by rcases List.mem_cons.1 e3 with e4 | e4; exact e e4; exact e2 e4)]
theorem adjB_zero {obs : List Ob} {bl : List Int} (x : Int) : ∀ y ∈ adjB obs bl x, y ≠ 0 := fun y hy => by
  unfold adjB at hy
  split at hy
  · cases hy
  · exact ptsAt_zero x y hy
/-- Just these are black, and none is grey. -/
structure Bl (bl : List Int) (c : Col) : Prop where
  ma : ∀ x, c.ma x = true ↔ x ∈ bl
  sc : ∀ x, c.sc x = true ↔ x ∈ bl
theorem bl_white : Bl [] Col.white := ⟨fun x => ⟨fun h => (by cases h), fun h => (by cases h)⟩, fun x => ⟨fun h => (by cases h), fun h => (by cases h)⟩⟩
theorem Bl.cons {bl : List Int} {c : Col} (h : Bl bl c) (x : Int) : Bl (x :: bl) (c.black x) := by
  have key : ∀ (g : Int → Bool), (∀ y, g y = true ↔ y ∈ bl) → ∀ y, updI g x true y = true ↔ y ∈ x :: bl := fun g hg y => by
    by_cases e : y = x
    · rw [e, updI_at]; simp
    · rw [updI_ne e, hg y]
      constructor
      · exact fun e2 => List.mem_cons_of_mem _ e2
      · intro e2
        rcases List.mem_cons.1 e2 with e3 | e3
        · exact absurd e3 e
        · exact e3
  exact ⟨key c.ma h.ma, key c.sc h.sc⟩
theorem nodup_of : ∀ bl : List Int, ∃ l : List Int, l.Nodup ∧ ∀ x, x ∈ l ↔ x ∈ bl
  | [] => ⟨[], List.nodup_nil, fun _ => Iff.rfl⟩
  | y :: bl => by
    obtain ⟨l, h1, h2⟩ := nodup_of bl
    by_cases e : y ∈ bl
    · refine ⟨l, h1, fun x => ?_⟩
      rw [h2 x]
      constructor
      · exact fun e2 => List.mem_cons_of_mem _ e2
      · intro e2
        rcases List.mem_cons.1 e2 with e3 | e3
        · rw [e3]; exact e
        · exact e3
    · exact ⟨y :: l, List.nodup_cons.2 ⟨fun e2 => e ((h2 y).1 e2), h1⟩, fun x => by rw [List.mem_cons, List.mem_cons, h2 x]⟩
theorem Bl.tri {obs : List Ob} {bl : List Int} {c : Col} (h : Bl bl c) (h0 : ∀ x ∈ bl, x ≠ 0) : ∃ ord, Tri (adjB obs bl) bl c ord := by
  obtain ⟨ord, h1, h2⟩ := nodup_of bl
  refine ⟨ord, fun x hx => (h.ma x).2 ((h.sc x).1 hx), fun x hx y hy => ?_, fun x hx => .root ((h.ma x).1 hx) (h0 x ((h.ma x).1 hx)), h1, fun x => (h.sc x).trans (h2 x).symm, fun x hx _ => (h.ma x).2 hx⟩
  unfold adjB at hy
  rw [if_pos ((h.sc x).1 hx)] at hy
  cases hy
theorem Scans.swap {P P' : Int → List Int} {c c' : Col} {l : List Int} (h : Scans P c l c') (hp : ∀ x, c.sc x = false → P x = P' x) : Scans P' c l c' ∧ ∀ x, c.sc x = true → c'.sc x = true := by
  induction h with
  | nil c => exact ⟨.nil c, fun _ h => h⟩
  | @cons c0 c1 x0 l0 h1 h2 h3 ih =>
    have e : c0.scan P x0 = c0.scan P' x0 := by unfold Col.scan; rw [hp x0 h2]
    have keep : ∀ y, c0.sc y = true → (c0.scan P x0).sc y = true := fun y hy => by
      show updI c0.sc x0 true y = true
      by_cases e2 : y = x0
      · rw [e2, updI_at]
      · rw [updI_ne e2]; exact hy
    obtain ⟨k1, k2⟩ := ih fun y hy => hp y (by
      cases e3 : c0.sc y with
      | false => rfl
      | true => have := keep y e3; rw [hy] at this; cases this)
    rw [e] at k1
    exact ⟨.cons h1 h2 k1, fun y hy => k2 y (keep y hy)⟩
theorem rch_blacks {obs : List Ob} {bl fr : List Int} {x : Int} : Rch (bl ++ fr) (adjB obs bl) x ↔ (x ∈ bl ∧ x ≠ 0) ∨ Rch fr (adjB obs bl) x := by
  constructor
  · intro h
    induction h with
    | root h1 h2 =>
      rcases List.mem_append.1 h1 with e | e
      · exact .inl ⟨e, h2⟩
      · exact .inr (.root e h2)
    | step h1 h2 h3 ih =>
      rcases ih with e | e
      · unfold adjB at h2
        rw [if_pos e.1] at h2
        cases h2
      · exact .inr (.step e h2 h3)
  · rintro (⟨e, e0⟩ | e)
    · exact .root (List.mem_append.2 (.inl e)) e0
    · exact e.more fun y hy => List.mem_append.2 (.inr hy)
end Go.Proofs.YtkjpeacnponcfaaGreatDoor
