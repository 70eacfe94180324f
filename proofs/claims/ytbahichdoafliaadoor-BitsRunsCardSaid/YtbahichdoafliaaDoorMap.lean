/- A map[int]int that the call makes, at this seat's numbers. -/
import Derived.Test.YtbahichdoafliaaDoorBitsS
import Derived.Maps.Own
import Derived.Maps.OwnOps
import Derived.Maps.Keyed
import Derived.Maps.Views
namespace Go.Proofs.YtbahichdoafliaaDoor
open Go.RowKit Go.Maps

theorem keyInt : Keyed Tryd.prog 3 := int_keyed Tryd.underlying3
theorem zeroInt (w : World) : (zeroValue 3).run Tryd.prog w = .ok (.int .i64 0) w := by kernel_rfl

/-- Block B is a map of at most n entries; at key x stands f x, 0 where there is none. -/
def MapAt (w : World) (B n : Nat) (f : Int → Int) : Prop :=
  ∃ D : DataW Unit, w.ownsMap Tryd.prog 3 (plainElem Tryd.prog 3) B n D ∧ ∀ x, (Lit.int .i64 x).wf = true → D.atKey (.int .i64 x) (.lit (.int .i64 0)) = .lit (.int .i64 (f x))

theorem MapAt.look {w : World} {B n : Nat} {f : Int → Int} (h : MapAt w B n f) (x : Int) (hx : (Lit.int .i64 x).wf = true) :
    (Instr.lookup 28 (.map (some B)) (.int .i64 x) false).run Tryd.prog w = .ok (.int .i64 (f x)) w := by
  obtain ⟨D, hD, hf⟩ := h
  obtain ⟨c, hrun, hat, _⟩ := hD.lookup_int keyInt Tryd.underlying28 Tryd.underlying3 (zeroInt _) (keyOf_int_mk Tryd.underlying3 hx)
  have e := (hf x hx).symm.trans hat
  cases e
  exact hrun

theorem MapAt.turn {M : Nat → Prop} {w w' : World} {B n : Nat} {f : Int → Int} (h : MapAt w B n f) (hT : Turn M w w') (hM : ¬ M B) : MapAt w' B n f := by
  obtain ⟨D, ⟨es, clock, hb, r⟩, hf⟩ := h
  exact ⟨D, ⟨es, clock, (hT.block B (Array.getElem?_eq_some_iff.1 hb).1 hM).trans hb, r⟩, hf⟩

theorem MapAt.made (w : World) : MapAt (w.alloc (.map #[] 0)) w.heap.size 0 (fun _ => 0) :=
  ⟨_, World.ownsMap_made _ _ _ _, fun _ _ => rfl⟩

theorem MapAt.store {w : World} {B n : Nat} {f : Int → Int} (h : MapAt w B n f) (hn : n < 9223372036854775807) (x v : Int) (hx : (Lit.int .i64 x).wf = true) (hv : (Lit.int .i64 v).wf = true) :
    ∃ w', (Instr.mapUpdate 28 (.map (some B)) (.int .i64 x) (.int .i64 v)).run Tryd.prog w = .ok () w' ∧ MapAt w' B (n + 1) (fun y => if y = x then v else f y) ∧ w.grownBy w' (some B) := by
  obtain ⟨D, hD, hf⟩ := h
  obtain ⟨w', hrun, h1, h2⟩ := hD.update keyInt Tryd.underlying28 hn (keyOf_int_mk Tryd.underlying3 hx) (plainElem_int Tryd.underlying3 hv)
  refine ⟨w', hrun, ⟨_, h1, fun y hy => ?_⟩, h2⟩
  have hM : IsMap D := by obtain ⟨_, _, _, _, _, e⟩ := hD; exact ⟨_, e⟩
  by_cases e : y = x
  · subst e
    rw [Maps.atKey_put_same hM (by simp [WideAt.IsKeyLit])]
    simp
  · rw [Maps.atKey_put_other (by simpa using e), hf y hy]
    simp [e]

theorem MapAt.block {w : World} {B n : Nat} {f : Int → Int} (h : MapAt w B n f) : ∃ o : Obj, w.heap[B]? = some o ∧ o.isCells = false := by
  obtain ⟨D, ⟨es, clock, hb, r⟩, hf⟩ := h
  exact ⟨_, hb, rfl⟩
end Go.Proofs.YtbahichdoafliaaDoor
