/- What a range over a thread's roots keeps; boxes; at this seat's numbers. -/
import Derived.Test.YtoemfehlnnbjdaaThS
import Derived.Test.YtoemfehlnnbjdaaGrow
namespace Go.Proofs.Ytoemfehlnnbjdaa
open Go Go.RowKit Go.Shelf
set_option linter.unusedSimpArgs false
set_option linter.unusedVariables false

theorem Blk.keptT {W W' : World} {b : Nat} {cs : Array Value} {T : TypeId} {row : Option Nat} (h : Blk W b cs T) (hg : W.grownBy W' row) (hrow : ∀ r, row = some r → ∃ o : Obj, W.heap[r]? = some o ∧ o.isCells = false) : Blk W' b cs T := by
  have hlt := h.lt
  unfold Blk at h ⊢
  rw [hg.block b hlt (fun e => by
    obtain ⟨o, ho, hc⟩ := hrow b e.symm
    rw [h] at ho; cases ho; cases hc)]
  exact h
section
variable {T : ThB} {regs room : Int} {f : Nat → Int} {st : List Int}
theorem ThAt.blk {w : World} (h : ThAt w T regs room f st) : ∀ k, T.has k → ∃ cs X, Blk w k cs X := by
  rintro k (e | e | e)
  · exact ⟨_, _, e ▸ h.head⟩
  · obtain ⟨cs, hb⟩ := h.set.own e; exact ⟨_, _, hb⟩
  · obtain ⟨cs, hb⟩ := h.stk.own e; exact ⟨_, _, hb⟩
theorem ThAt.kept {W W' : World} {row : Option Nat} (h : ThAt W T regs room f st) (hg : W.grownBy W' row) (hrow : ∀ r, row = some r → ∃ o : Obj, W.heap[r]? = some o ∧ o.isCells = false) : ThAt W' T regs room f st :=
  h.keep fun k hk => by
    obtain ⟨cs, X, hb⟩ := h.blk k hk
    have h1 := hb.keptT hg hrow
    unfold Blk at hb h1
    rw [hb, h1]
/-- A round that writes but boxes that no thread has. -/
theorem KpTh.ofTurn {M : Nat → Prop} {W W' : World} {B b0 : Nat} (hA : ThAt W T regs room f st) (hB : B < W.heap.size) (hT : Turn M W W') (h1 : ∀ k, T.has k → ¬ M k) (h2 : ¬ M B) (h3 : ∀ k, b0 ≤ k → ¬ M k) : KpTh T B b0 W W' :=
  ⟨fun k hk => hT.block k (hA.lt k hk) (h1 k hk), hT.block B hB h2, fun k cs hb ho => (hT.block k ho.lt (h3 k hb)).trans ho⟩
end
theorem KeepsOthers.two (W : World) (a b : Addr) (v u : Value) : KeepsOthers W ((W.setCell a v).setCell b u) := (KeepsOthers.setCell W a v).trans (KeepsOthers.setCell _ b u)
theorem take_endT {V : World} {D : Nat} (hK : V.heap[D]? = some (.deferred (some []))) {w : World} {B : Nat} (hD : B ≤ D) (hb : Below B w V) : Below B w (V.putObj D (.deferred none)) := by
  exact ⟨hb.os, hb.tape, hb.output, by simpa using hb.size, fun k hk => (World.putObj_heap_other (by omega)).trans (hb.block k hk)⟩
end Go.Proofs.Ytoemfehlnnbjdaa
