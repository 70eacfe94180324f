/- The marker's contracts, as the laws want them; at this seat's numbers. -/
import Derived.Test.YtkjpeacnponcfaaGreatDoorGmF
import Derived.Test.YtkjpeacnponcfaaGreatDoorGoT
namespace Go.Proofs.YtkjpeacnponcfaaGreatDoor
open Go Go.RowKit Go.Shelf
set_option linter.unusedSimpArgs false
set_option linter.unusedVariables false

/-- Nothing is asked of the table of bits. -/
def TabQ (w : World) : Prop := True
theorem TabQ.lt {w : World} (h : TabQ w) : True := trivial
/-- The table of words, alone. -/
structure Tabs (w : World) : Prop where
  c : TableAt w
  b : TabQ w
theorem TabQ.below {w w' : World} (h : TabQ w) (hB : Below w.heap.size w w') : TabQ w' := trivial
theorem Tabs.below {w w' : World} (h : Tabs w) (hB : Below w.heap.size w w') : Tabs w' := ⟨h.c.below hB, h.b.below hB⟩
/-- What does not change of a marker and what lies below it. -/
structure GmEx (B P : Nat) (T : MkB) (wb : World) : Prop where
  tab : TabQ wb
  tabB : True
  n : T.n = 32 * P + 1
theorem GmEx.step {B P : Nat} {T T' : MkB} {wb w w' : World} (h : GmEx B P T wb) (hS : MkStep T w T' w') : GmEx B P T' wb := ⟨h.tab, h.tabB, hS.n.trans h.n⟩
/-- A marker by an arena's objects. -/
structure MkBy (B : Nat) (X : ArB) (s : ArS) (obs : List Ob) (T : MkB) (c : Col) (wb wr : World) : Prop where
  ar : ArIn B X s wb wr
  ob : Objs s obs
  mt : MkAt wr T X.a c
  own : ∀ k, T.has k → B ≤ k ∧ ¬ X.has k
  inn : ∀ x, c.ma x = true → x ∈ refsI obs
  ex : GmEx B s.P T wb
section
variable {B : Nat} {X : ArB} {s : ArS} {obs : List Ob} {T T' : MkB} {c c' : Col} {wb wr w' : World}
theorem MkBy.sees (h : MkBy B X s obs T c wb wr) : ∃ S S2, MkSees wr T X s S S2 c := h.mt.sees h.ar.at_.toArMem (inAr_of h.ob h.inn)
theorem MkBy.inS (h : MkBy B X s obs T c wb wr) {x : Int} (hx : x ∈ refsI obs) : Go.Proofs.YtkjpeacnponcfaaGreatDoor.inS s.S x = true := by
  obtain ⟨y, hy, rfl⟩ := List.mem_map.1 hx
  obtain ⟨i, hi⟩ := List.mem_iff_getElem?.1 hy
  rw [inS_nat]; exact (h.ob.at_ i y hi).S
theorem MkBy.marked (h : MkBy B X s obs T c wb wr) (x : Int) : Calls Tryz.prog 21 #[.pointer (some ⟨T.m, 0, none⟩), .int .i64 x] wr fun e w' => e = .returned (.bool (c.ma x)) ∧ Below wr.heap.size wr w' := by
  obtain ⟨S, S2, hS⟩ := h.sees
  exact mkMarked hS x _ rfl
theorem MkBy.scanned (h : MkBy B X s obs T c wb wr) (x : Int) : Calls Tryz.prog 22 #[.pointer (some ⟨T.m, 0, none⟩), .int .i64 x] wr fun e w' => e = .returned (.bool (c.sc x)) ∧ Below wr.heap.size wr w' := by
  obtain ⟨S, S2, hS⟩ := h.sees
  exact mkScanned hS x _ rfl
theorem MkBy.shade (h : MkBy B X s obs T c wb wr) (x : Int) (hx : x ∈ refsI obs) : Calls Tryz.prog 51 #[.pointer (some ⟨T.m, 0, none⟩), .int .i64 x] wr fun e w' =>
    e = .returned (.bool (!c.ma x)) ∧ ∃ T', MkAt w' T' X.a (c.shade x) ∧ MkStep T wr T' w' := mkShade h.mt h.ar.at_.toArMem h.ex.n x (h.inS hx) _ (by simp)
end
end Go.Proofs.YtkjpeacnponcfaaGreatDoor
