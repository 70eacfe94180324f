/- An arena and the law's model beside it, at this seat's numbers. -/
import Derived.Test.YtlloanoohphgcaaDoorMdF
namespace Go.Proofs.YtlloanoohphgcaaDoor
open Go Go.RowKit Go.Shelf Go.MuLone Go.RwLone Go.Maps
set_option linter.unusedSimpArgs false
set_option linter.unusedVariables false

/-- An arena that holds s, and a model that holds t. -/
structure TwoAt (B : Nat) (X : ArB) (Y : MdB) (s t : ArS) (wb wr : World) : Prop where
  ar : ArIn B X s wb wr
  md : MdAt wr Y t
  own : ∀ k, Y.has k → B ≤ k
  sep : ∀ k, Y.has k → ¬ X.has k
/-- No type of an arena's or a model's block. -/
def boxy (T : TypeId) : Bool := T != 92 && (T != 3 && (T != 127 && (T != 164 && T != 44)))
theorem boxy_is {T : TypeId} (h : boxy T = true) : T ≠ 92 ∧ T ≠ 3 ∧ T ≠ 127 ∧ T ≠ 164 ∧ T ≠ 44 := by simpa [boxy] using h
/-- Blocks of other types stay. -/
def Boxes (w w' : World) : Prop := ∀ b cs T, boxy T = true → Blk w b cs T → Blk w' b cs T
theorem Boxes.trans {a b c : World} (h : Boxes a b) (k : Boxes b c) : Boxes a c := fun _ _ _ hT hb => k _ _ _ hT (h _ _ _ hT hb)
theorem Boxes.below {w w' : World} (h : Below w.heap.size w w') : Boxes w w' := fun _ _ _ _ hb => hb.below h

section
variable {B : Nat} {X : ArB} {Y : MdB} {s t : ArS} {wb wr w' : World}
theorem MdAt.far {b : Nat} {cs : Array Value} {T : TypeId} (h : MdAt wr Y t) (hb : Blk wr b cs T) (hT : boxy T = true) : ¬ Y.has b := by
  obtain ⟨_, h2, _, _, h5⟩ := boxy_is hT
  rintro (e | e | e)
  · rw [e] at hb; exact blk_types hb h.head h5
  · obtain ⟨o, ho, hc⟩ := h.map.block
    unfold Blk at hb
    rw [← e, hb] at ho
    cases ho; cases hc
  · obtain ⟨cur, hg⟩ := h.pages.own e
    exact blk_types hb hg h2
theorem TwoAt.ask (h : TwoAt B X Y s t wb wr) (hB : Below wr.heap.size wr w') : TwoAt B X Y s t wb w' := ⟨h.ar.ask hB, h.md.below hB, h.own, h.sep⟩
theorem TwoAt.alloc (h : TwoAt B X Y s t wb wr) (o : Obj) : TwoAt B X Y s t wb (wr.alloc o) := h.ask ((Below.refl _ wr).alloc (Nat.le_refl _) o)
theorem TwoAt.drew (h : TwoAt B X Y s t wb wr) : TwoAt B X Y s t wb wr.drew := h.ask (Below.refl _ wr).drew
theorem TwoAt.stepA {X' : ArB} {s' : ArS} (h : TwoAt B X Y s t wb wr) (hI : ArIn B X' s' wb w') (hS : ArStep X wr X' w') : TwoAt B X' Y s' t wb w' ∧ Boxes wr w' := by
  refine ⟨⟨hI, h.md.turn hS.turn (fun k hk => h.sep k hk), h.own, fun k hk hx => ?_⟩, fun b cs T hT hb => ?_⟩
  · rcases hS.has_new hx with y | y
    · exact h.sep k hk y
    · have := h.md.lt k hk; omega
  · obtain ⟨h1, h2, h3, h4, _⟩ := boxy_is hT
    exact (hb.step hS (h.ar.at_.far hb h1 h2 h3 h4)).1
theorem TwoAt.stepM {t' : ArS} (h : TwoAt B X Y s t wb wr) (hM : MdAt w' Y t') (hT : Turn Y.has wr w') : TwoAt B X Y s t' wb w' ∧ Boxes wr w' :=
  ⟨⟨h.ar.turned hT (fun k hk e => h.sep k e hk) (fun k hk e => by have := h.own k e; omega), hM, h.own, h.sep⟩, fun b cs T hx hb => hb.turn hT (h.md.far hb hx)⟩

theorem TwoAt.takeA (h : TwoAt B X Y s t wb wr) (c : Int) : Calls Tryd.prog 20 #[.pointer (some ⟨X.a, 0, none⟩), .int .i64 c] wr fun e w' =>
    e = .returned (.tuple #[.int .i64 ((seekF s c : Nat) : Int), .bool (decide (seekF s c ≠ 0))]) ∧ ∃ lo', TwoAt B (X.with lo') Y (s.take c) t wb w' ∧ Boxes wr w' ∧ wr.heap.size ≤ w'.heap.size :=
  (h.ar.take c).mono fun _ _ ⟨he, lo', h1, h2⟩ => ⟨he, lo', (h.stepA h1 h2).1, (h.stepA h1 h2).2, h2.turn.size⟩
theorem TwoAt.giveA (h : TwoAt B X Y s t wb wr) (r : Int) : Calls Tryd.prog 17 #[.pointer (some ⟨X.a, 0, none⟩), .int .i64 r] wr fun e w' =>
    e = .returned (.bool (inS s.S r)) ∧ ∃ lo', TwoAt B (X.with lo') Y (s.giveI r) t wb w' ∧ Boxes wr w' ∧ wr.heap.size ≤ w'.heap.size :=
  (h.ar.give r).mono fun _ _ ⟨he, lo', h1, h2⟩ => ⟨he, lo', (h.stepA h1 h2).1, (h.stepA h1 h2).2, h2.turn.size⟩
theorem TwoAt.takeM (h : TwoAt B X Y s t wb wr) (c : Int) : Calls Tryd.prog 21 #[.pointer (some ⟨Y.m, 0, none⟩), .int .i64 c] wr fun e w' =>
    e = .returned (.tuple #[.int .i64 ((seekF t c : Nat) : Int), .bool (decide (seekF t c ≠ 0))]) ∧ TwoAt B X Y s (t.take c) wb w' ∧ Boxes wr w' ∧ wr.heap.size ≤ w'.heap.size :=
  (takeM_any h.md c).mono fun _ _ ⟨he, h1, h2⟩ => ⟨he, (h.stepM h1 h2).1, (h.stepM h1 h2).2, h2.size⟩
theorem TwoAt.giveM (h : TwoAt B X Y s t wb wr) (r : Int) (hr : (Lit.int .i64 r).wf = true) : Calls Tryd.prog 18 #[.pointer (some ⟨Y.m, 0, none⟩), .int .i64 r] wr fun e w' =>
    e = .returned (.bool (inS t.S r)) ∧ TwoAt B X Y s (t.giveI r) wb w' ∧ Boxes wr w' ∧ wr.heap.size ≤ w'.heap.size :=
  (giveM_any h.md r hr).mono fun _ _ ⟨he, h1, h2⟩ => ⟨he, (h.stepM h1 h2).1, (h.stepM h1 h2).2, h2.size⟩
theorem TwoAt.nth (h : TwoAt B X Y s t wb wr) (n : Int) : Calls Tryd.prog 16 #[.pointer (some ⟨Y.m, 0, none⟩), .int .i64 n] wr fun e w' =>
    ∃ r : Nat, r ≤ 2048 ∧ e = .returned (.int .i64 (r : Int)) ∧ TwoAt B X Y s t wb w' ∧ Below wr.heap.size wr w' :=
  (nth_any h.md n).mono fun _ _ ⟨r, hr, he, hB⟩ => ⟨r, hr, he, h.ask hB, hB⟩
end

/-- A new arena, and a new model. -/
theorem two_new {B : Nat} {X : ArB} {P : Nat} {wb wr : World} (hP : P ≤ 64) (h : ArIn B X (.new P) wb wr) :
    Calls Tryd.prog 15 #[.int .i64 (P : Int)] wr fun e w' => ∃ Y : MdB, e = .returned (.pointer (some ⟨Y.m, 0, none⟩)) ∧ TwoAt B X Y (.new P) (.new P) wb w' ∧ Below wr.heap.size wr w' :=
  (begin_any P hP wr).mono fun _ _ ⟨Y, he, h1, h2, h3⟩ => ⟨Y, he, ⟨h.ask h3, h1, fun k hk => Nat.le_trans h.size (h2 k hk), fun k hk hx => by have := h2 k hk; have := h.at_.lt k hx; omega⟩, h3⟩
end Go.Proofs.YtlloanoohphgcaaDoor
