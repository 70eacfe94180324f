/- Arena and model side by side, and a third block, the map of what was said; at this seat's numbers. -/
import Derived.Test.YtlloanoohphgcaaDoorWdN
import Derived.Test.YtlloanoohphgcaaDoorCeA
import Derived.Test.YtlloanoohphgcaaDoorArSa
namespace Go.Proofs.YtlloanoohphgcaaDoor
open Go Go.RowKit Go.Shelf Go.MuLone Go.RwLone Go.Maps
set_option linter.unusedSimpArgs false
set_option linter.unusedVariables false

/-- Block b is the map D, of the call's own, and none of the arena's or the model's. -/
structure SaidAt (B : Nat) (X : ArB) (Y : MdB) (b n : Nat) (D : DataW Unit) (w : World) : Prop where
  own : w.ownsMap Tryd.prog 50 (plainElem Tryd.prog 3) b n D
  base : B ≤ b
  x : ¬ X.has b
  y : ¬ Y.has b
theorem SaidAt.turn {M : Nat → Prop} {B : Nat} {X X' : ArB} {Y : MdB} {b n : Nat} {D : DataW Unit} {w w' : World} (h : SaidAt B X Y b n D w) (hT : Turn M w w') (hM : ¬ M b) (hx : ¬ X'.has b) : SaidAt B X' Y b n D w' := by
  obtain ⟨es, clock, hb, r⟩ := h.own
  exact ⟨⟨es, clock, (hT.block b (Array.getElem?_eq_some_iff.1 hb).1 hM).trans hb, r⟩, h.base, hx, h.y⟩
theorem SaidAt.below {B : Nat} {X : ArB} {Y : MdB} {b n : Nat} {D : DataW Unit} {w w' : World} (h : SaidAt B X Y b n D w) (hB : Below w.heap.size w w') : SaidAt B X Y b n D w' := by
  have := h.own.lt
  exact h.turn (Turn.ofBelow hB) (fun e => by omega) h.x
theorem SaidAt.step {B : Nat} {X X' : ArB} {Y : MdB} {b n : Nat} {D : DataW Unit} {w w' : World} (h : SaidAt B X Y b n D w) (hS : ArStep X w X' w') : SaidAt B X' Y b n D w' :=
  h.turn hS.turn h.x (hS.keep h.own.lt h.x).2
theorem SaidAt.stepM {B : Nat} {X : ArB} {Y : MdB} {b n : Nat} {D : DataW Unit} {w w' : World} (h : SaidAt B X Y b n D w) (hT : Turn Y.has w w') : SaidAt B X Y b n D w' := h.turn hT h.y h.x

section
variable {B : Nat} {X : ArB} {Y : MdB} {s t : ArS} {b n : Nat} {D : DataW Unit} {wb wr : World}
/-- All three. -/
structure Trio (B : Nat) (X : ArB) (Y : MdB) (s : ArS) (b n : Nat) (D : DataW Unit) (wb wr : World) : Prop where
  two : TwoAt B X Y s s wb wr
  said : SaidAt B X Y b n D wr
theorem Trio.ask (h : Trio B X Y s b n D wb wr) {w' : World} (hB : Below wr.heap.size wr w') : Trio B X Y s b n D wb w' := ⟨h.two.ask hB, h.said.below hB⟩
theorem Trio.alloc (h : Trio B X Y s b n D wb wr) (o : Obj) : Trio B X Y s b n D wb (wr.alloc o) := h.ask ((Below.refl _ wr).alloc (Nat.le_refl _) o)
theorem Trio.nth (h : Trio B X Y s b n D wb wr) (k : Int) : Calls Tryd.prog 16 #[.pointer (some ⟨Y.m, 0, none⟩), .int .i64 k] wr fun e w' =>
    ∃ r : Nat, r ≤ 2048 ∧ e = .returned (.int .i64 (r : Int)) ∧ Trio B X Y s b n D wb w' :=
  (h.two.nth k).mono fun _ _ ⟨r, h1, h2, h3, h4⟩ => ⟨r, h1, h2, h3, h.said.below h4⟩
/-- A cell is given by the model, then by the arena: between the two they differ. -/
theorem Trio.giveM (h : Trio B X Y s b n D wb wr) (r : Int) (hr : (Lit.int .i64 r).wf = true) : Calls Tryd.prog 18 #[.pointer (some ⟨Y.m, 0, none⟩), .int .i64 r] wr fun e w' =>
    e = .returned (.bool (inS s.S r)) ∧ TwoAt B X Y s (s.giveI r) wb w' ∧ SaidAt B X Y b n D w' :=
  (giveM_any h.two.md r hr).mono fun _ _ ⟨he, h1, h2⟩ => ⟨he, (h.two.stepM h1 h2).1, h.said.stepM h2⟩
theorem TwoAt.giveAS (h : TwoAt B X Y s t wb wr) (hS : SaidAt B X Y b n D wr) (r : Int) : Calls Tryd.prog 17 #[.pointer (some ⟨X.a, 0, none⟩), .int .i64 r] wr fun e w' =>
    e = .returned (.bool (inS s.S r)) ∧ ∃ lo', TwoAt B (X.with lo') Y (s.giveI r) t wb w' ∧ SaidAt B (X.with lo') Y b n D w' :=
  (h.ar.give r).mono fun _ _ ⟨he, lo', h1, h2⟩ => ⟨he, lo', (h.stepA h1 h2).1, hS.step h2⟩
theorem Trio.takeA (h : Trio B X Y s b n D wb wr) (c : Int) : Calls Tryd.prog 20 #[.pointer (some ⟨X.a, 0, none⟩), .int .i64 c] wr fun e w' =>
    e = .returned (.tuple #[.int .i64 ((seekF s c : Nat) : Int), .bool (decide (seekF s c ≠ 0))]) ∧ ∃ lo', TwoAt B (X.with lo') Y (s.take c) s wb w' ∧ SaidAt B (X.with lo') Y b n D w' ∧ Boxes wr w' :=
  (h.two.ar.take c).mono fun _ _ ⟨he, lo', h1, h2⟩ => ⟨he, lo', (h.two.stepA h1 h2).1, h.said.step h2, (h.two.stepA h1 h2).2⟩
theorem TwoAt.takeMS (h : TwoAt B X Y s t wb wr) (hS : SaidAt B X Y b n D wr) (c : Int) : Calls Tryd.prog 21 #[.pointer (some ⟨Y.m, 0, none⟩), .int .i64 c] wr fun e w' =>
    e = .returned (.tuple #[.int .i64 ((seekF t c : Nat) : Int), .bool (decide (seekF t c ≠ 0))]) ∧ TwoAt B X Y s (t.take c) wb w' ∧ SaidAt B X Y b n D w' ∧ Boxes wr w' :=
  (takeM_any h.md c).mono fun _ _ ⟨he, h1, h2⟩ => ⟨he, (h.stepM h1 h2).1, hS.stepM h2, (h.stepM h1 h2).2⟩
theorem Trio.word (h : Trio B X Y s b n D wb wr) (r i v : Int) (hv : wordI s r i = v) : Calls Tryd.prog 30 #[.pointer (some ⟨X.a, 0, none⟩), .int .i64 r, .int .i64 i] wr fun e w' =>
    e = .returned (.int .i64 v) ∧ Trio B X Y s b n D wb w' ∧ Below wr.heap.size wr w' := (h.two.ar.word r i v hv).mono fun _ _ ⟨he, hB⟩ => ⟨he, h.ask hB, hB⟩
theorem Trio.set (h : Trio B X Y s b n D wb wr) (r i x : Int) : Calls Tryd.prog 31 #[.pointer (some ⟨X.a, 0, none⟩), .int .i64 r, .int .i64 i, .int .i64 x] wr fun e w' =>
    e = .returned (.bool (hasWd s r i)) ∧ ∃ lo', Trio B (X.with lo') Y (s.setW r i x) b n D wb w' ∧ Boxes wr w' := (h.two.ar.set r i x).mono fun _ _ ⟨he, lo', h1, h2⟩ => by
  have h3 := h.two.stepA h1 h2
  refine ⟨he, lo', ⟨h3.1.same (h.two.md.fits.setW r i x) ?_ ?_ ?_, h.said.step h2⟩, h3.2⟩
  · unfold ArS.setW; split <;> rfl
  · unfold ArS.setW; split <;> rfl
  · unfold ArS.setW; split <;> rfl
end
end Go.Proofs.YtlloanoohphgcaaDoor
