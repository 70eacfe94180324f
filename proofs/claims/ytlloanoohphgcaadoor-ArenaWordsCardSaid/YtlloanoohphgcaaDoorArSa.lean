/- Arena and model side by side, with the boxes of both; at this seat's numbers. -/
import Derived.Test.YtlloanoohphgcaaDoorMdG
import Derived.Test.YtlloanoohphgcaaDoorArPa
import Derived.Test.YtlloanoohphgcaaDoorArQ
import Derived.Maps.OwnIn
namespace Go.Proofs.YtlloanoohphgcaaDoor
open Go Go.RowKit Go.Shelf Go.MuLone Go.RwLone Go.Maps
set_option linter.unusedSimpArgs false
set_option linter.unusedVariables false
attribute [local go_sem] Oper.semAt_some

/-- The boxes of the arena and of the model. -/
structure Two2 (xa ym ba bm : Nat) (w : World) : Prop where
  ab : Blk w ba #[.pointer (some ⟨xa, 0, none⟩)] 24
  mb : Blk w bm #[.pointer (some ⟨ym, 0, none⟩)] 26
abbrev Cells2 (xa ym ba bm : Nat) (w : World) : Prop := w.cell? ⟨ba, 0, none⟩ = some (.pointer (some ⟨xa, 0, none⟩)) ∧ w.cell? ⟨bm, 0, none⟩ = some (.pointer (some ⟨ym, 0, none⟩))
section
variable {xa ym ba bm : Nat} {w w' : World}
theorem Two2.c0 (h : Two2 xa ym ba bm w) : w.cell? ⟨ba, 0, none⟩ = some (.pointer (some ⟨xa, 0, none⟩)) := h.ab.cell 0
theorem Two2.c1 (h : Two2 xa ym ba bm w) : w.cell? ⟨bm, 0, none⟩ = some (.pointer (some ⟨ym, 0, none⟩)) := h.mb.cell 0
theorem Two2.cells (h : Two2 xa ym ba bm w) : Cells2 xa ym ba bm w := ⟨h.c0, h.c1⟩
theorem Two2.keep (h : Two2 xa ym ba bm w) (hB : Boxes w w') : Two2 xa ym ba bm w' := ⟨hB _ _ _ (by decide) h.ab, hB _ _ _ (by decide) h.mb⟩
theorem Two2.drew (h : Two2 xa ym ba bm w) : Two2 xa ym ba bm w.drew := ⟨h.ab, h.mb⟩
theorem Two2.alloc (h : Two2 xa ym ba bm w) (o : Obj) : Two2 xa ym ba bm (w.alloc o) := ⟨h.ab.alloc o, h.mb.alloc o⟩
end
section
variable {B : Nat} {X : ArB} {Y : MdB} {s t : ArS} {wb wr : World}
theorem TwoAt.giveAb (h : TwoAt B X Y s t wb wr) (r : Int) (b : Bool) (hb : inS s.S r = b) : Calls Tryd.prog 17 #[.pointer (some ⟨X.a, 0, none⟩), .int .i64 r] wr fun e w' =>
    e = .returned (.bool b) ∧ ∃ lo', TwoAt B (X.with lo') Y (s.giveI r) t wb w' ∧ Boxes wr w' := (h.giveA r).mono fun _ _ ⟨he, lo', h1, h2, _⟩ => ⟨by rw [he, hb], lo', h1, h2⟩
theorem TwoAt.giveMb (h : TwoAt B X Y s t wb wr) (r : Int) (b : Bool) (hr : (Lit.int .i64 r).wf = true) (hb : inS t.S r = b) : Calls Tryd.prog 18 #[.pointer (some ⟨Y.m, 0, none⟩), .int .i64 r] wr fun e w' =>
    e = .returned (.bool b) ∧ TwoAt B X Y s (t.giveI r) wb w' ∧ Boxes wr w' := (h.giveM r hr).mono fun _ _ ⟨he, h1, h2, _⟩ => ⟨by rw [he, hb], h1, h2⟩
theorem TwoAt.takeAb (h : TwoAt B X Y s t wb wr) (c : Int) (x : Nat) (b : Bool) (hx : seekF s c = x) (hb : decide (x ≠ 0) = b) : Calls Tryd.prog 20 #[.pointer (some ⟨X.a, 0, none⟩), .int .i64 c] wr fun e w' =>
    e = .returned (.tuple #[.int .i64 (x : Int), .bool b]) ∧ ∃ lo', TwoAt B (X.with lo') Y (s.take c) t wb w' ∧ Boxes wr w' := (h.takeA c).mono fun _ _ ⟨he, lo', h1, h2, _⟩ => ⟨by rw [he, hx, hb], lo', h1, h2⟩
theorem TwoAt.takeMb (h : TwoAt B X Y s t wb wr) (c : Int) (x : Nat) (b : Bool) (hx : seekF t c = x) (hb : decide (x ≠ 0) = b) : Calls Tryd.prog 21 #[.pointer (some ⟨Y.m, 0, none⟩), .int .i64 c] wr fun e w' =>
    e = .returned (.tuple #[.int .i64 (x : Int), .bool b]) ∧ TwoAt B X Y s (t.take c) wb w' ∧ Boxes wr w' := (h.takeM c).mono fun _ _ ⟨he, h1, h2, _⟩ => ⟨by rw [he, hx, hb], h1, h2⟩
theorem TwoAt.roomb (h : TwoAt B X Y s t wb wr) (c : Int) (x : Nat) (b : Bool) (hx : seekF s c = x) (hb : decide (x ≠ 0) = b) : Calls Tryd.prog 19 #[.pointer (some ⟨X.a, 0, none⟩), .int .i64 c] wr fun e w' =>
    e = .returned (.bool b) ∧ TwoAt B X Y s t wb w' ∧ Boxes wr w' := (h.ar.room c).mono fun _ _ ⟨he, h1⟩ => by
      refine ⟨?_, h.ask h1, Boxes.below h1⟩
      rw [he, hx]
      have : (((x : Nat) : Int) != 0) = b := by
        rw [← hb]
        by_cases e : x = 0
        · subst e; rfl
        · rw [decide_eq_true e]; exact bne_iff_ne.2 (by omega)
      rw [this]
end
theorem TwoAt.far {B : Nat} {X : ArB} {Y : MdB} {s t : ArS} {wb wr w' : World} {row : Option Nat} (h : TwoAt B X Y s t wb wr) (hg : wr.grownBy w' row) (hr : ∀ r, row = some r → B ≤ r ∧ ∃ o : Obj, wr.heap[r]? = some o ∧ o.isCells = false) (hY : ∀ r, row = some r → ¬ Y.has r) : TwoAt B X Y s t wb w' :=
  ⟨h.ar.far hg hr, h.md.turn (M := fun k => row = some k) ⟨hg.os, hg.tape, hg.output, hg.size, fun k hk hn => hg.block k hk (fun e => hn e.symm)⟩ (fun k hk e => hY k e hk), h.own, h.sep⟩
theorem Owned.ofBelow {B : Nat} {O : Nat → Prop} {W W' : World} (h : Below W.heap.size W W') (_ : B ≤ W.heap.size) : Owned B O O W W' := ⟨h.size, fun k _ hk _ => h.block k hk, fun _ h => .inl h⟩
/-- 'v, ok := m.taken[x]' inside the fence. -/
theorem wpListIn_lookM {F : Fence} {n : Nat} {ops : Array Oper} {rest : List Oper} {o : Oper} {a : Act} {Q : Exit → Act → World → Prop} {w : World} {t : Nat} {s : ArS} (hg : o.guard = none) (m x : Operand) (hop : o.op = Op.lookup 42 m x true)
    (h : MapM w t s) (y : Int) (hy : (Lit.int .i64 y).wf = true) (b : Bool) (hb : inS s.S y = b) (hm : a.eval m = .map (some t)) (hx : a.eval x = .int .i64 y)
    (hK : ∀ c : Int, wpListIn F n Tryd.prog ops Q rest (a.put o.dst (.tuple #[.int .i64 c, .bool b])) w) : wpListIn F n Tryd.prog ops Q (o :: rest) a w := by
  obtain ⟨D, hD, hf⟩ := h
  refine wpListIn_lookup_own_ok_int w hg m x 42 hop 30 3 .i64 keyRef Tryd.underlying42 Tryd.underlying3 (zeroInt w) t 4096 D hm hD (.int .i64 y) (.int .i64 y) hx (keyOf_int_mk Tryd.underlying30 hy) fun c _ _ => ?_
  rw [hf.has_ y hy, hb]
  exact hK c
end Go.Proofs.YtlloanoohphgcaaDoor
