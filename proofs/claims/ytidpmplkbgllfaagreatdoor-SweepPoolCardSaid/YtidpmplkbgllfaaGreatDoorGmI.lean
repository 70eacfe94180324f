/- The iterator over those with a mark that are so: told, All, greys; at this seat's numbers. -/
import Derived.Test.YtidpmplkbgllfaaGreatDoorGmN
import Derived.Test.YtidpmplkbgllfaaGreatDoorRange
namespace Go.Proofs.YtidpmplkbgllfaaGreatDoor
open Go Go.RowKit Go.Shelf Go.MuLone Go.RwLone
set_option linter.unusedSimpArgs false
set_option linter.unusedVariables false
attribute [local go_sem] Oper.semAt_some

theorem own_below {β : Type} {n0 : Nat} {J : β → World → Prop} (hJ : OwnFrom n0 J) {x : β} {W W' : World} (h : J x W) (hB : Below W.heap.size W W') : J x W' :=
  hJ x W W' none h ⟨hB.os, hB.tape, hB.output, hB.size, fun k hk _ => hB.block k hk⟩ (fun r e => by cases e)
abbrev InMk (S : Nat → Bool) (f : Int → Bool) : Type := { x : Fin 4096 // S x.val = true ∧ f ((x.val : Nat) : Int) = true }
def tmArgs {S : Nat → Bool} {f : Int → Bool} (x : InMk S f) : Array Value := #[.int .i64 ((x.1.val : Nat) : Int)]
def tmVals {S : Nat → Bool} {f : Int → Bool} (q : List (InMk S f)) : List Nat := q.map fun x => x.1.val
theorem tmVals_append {S : Nat → Bool} {f : Int → Bool} (p q : List (InMk S f)) : tmVals (p ++ q) = tmVals p ++ tmVals q := by unfold tmVals; exact List.map_append
theorem tmVals_length {S : Nat → Bool} {f : Int → Bool} (q : List (InMk S f)) : (tmVals q).length = q.length := by unfold tmVals; exact List.length_map _
/-- Of some numbers those that are so. -/
def soL (f : Int → Bool) (l : List Nat) : List Nat := l.filter fun n => f (n : Int)
theorem soL_yes {f : Int → Bool} {l : List Nat} {n : Nat} (h : f (n : Int) = true) : soL f (l ++ [n]) = soL f l ++ [n] := by unfold soL; rw [List.filter_append]; simp [h]
theorem soL_no {f : Int → Bool} {l : List Nat} {n : Nat} (h : f (n : Int) = false) : soL f (l ++ [n]) = soL f l := by unfold soL; rw [List.filter_append]; simp [h]
theorem soL_length (f : Int → Bool) (l : List Nat) : (soL f l).length ≤ l.length := by unfold soL; exact List.length_filter_le _ _

/-- What a round over a marker's objects keeps: its sets, its arena, the closure's boxes, the table. -/
def KpMk (T : MkB) (X : ArB) (B : Nat) (W W' : World) : Prop :=
  (∀ k, T.sets k → W'.heap[k]? = W.heap[k]?) ∧ (∀ k, X.has k → W'.heap[k]? = W.heap[k]?) ∧ (W'.heap[B]? = W.heap[B]? ∧ W'.heap[B + 1]? = W.heap[B + 1]?) ∧ W'.heap[(1 : Nat)]? = W.heap[(1 : Nat)]?
theorem KpMk.trans {T : MkB} {X : ArB} {B : Nat} {A C D : World} (h : KpMk T X B A C) (k : KpMk T X B C D) : KpMk T X B A D :=
  ⟨fun i hi => (k.1 i hi).trans (h.1 i hi), fun i hi => (k.2.1 i hi).trans (h.2.1 i hi), ⟨k.2.2.1.1.trans h.2.2.1.1, k.2.2.1.2.trans h.2.2.1.2⟩, k.2.2.2.trans h.2.2.2⟩
theorem KpMk.putObj {T : MkB} {X : ArB} {B : Nat} {n0 : Nat} (hT : ∀ k, T.sets k → k < n0) (hX : ∀ k, X.has k → k < n0) (hB : B + 1 < n0) (ht : (1 : Nat) < n0) (W : World) (l : Nat) (o : Obj) (h : n0 ≤ l) : KpMk T X B W (W.putObj l o) :=
  ⟨fun k hk => World.putObj_heap_other (by have := hT k hk; omega), fun k hk => World.putObj_heap_other (by have := hX k hk; omega), ⟨World.putObj_heap_other (by omega), World.putObj_heap_other (by omega)⟩, World.putObj_heap_other (by have := ht; omega)⟩
theorem KpMk.ofTurn {T : MkB} {X : ArB} {B : Nat} {M : Nat → Prop} {W W' : World} (h : Turn M W W') (hT : ∀ k, T.sets k → k < W.heap.size ∧ ¬ M k) (hX : ∀ k, X.has k → k < W.heap.size ∧ ¬ M k) (hB : B + 1 < W.heap.size) (hB1 : ¬ M B) (hB2 : ¬ M (B + 1)) (ht : (1 : Nat) < W.heap.size) (ht2 : ¬ M 1) : KpMk T X B W W' :=
  ⟨fun k hk => h.block k (hT k hk).1 (hT k hk).2, fun k hk => h.block k (hX k hk).1 (hX k hk).2, ⟨h.block _ (by omega) hB1, h.block _ hB hB2⟩, h.block _ ht ht2⟩
section
variable {w w' : World} {T : MkB} {X : ArB} {s : ArS} {S S2 : Nat → Bool} {c : Col}
theorem ArMem.keepA (h : ArMem w X s) (hk : ∀ k, X.has k → w'.heap[k]? = w.heap[k]?) : ArMem w' X s :=
  ⟨by have h1 := h.head; unfold Blk at *; rw [hk _ (.inl rfl)]; exact h1, by have h1 := h.page; unfold Blk at *; rw [hk _ (.inr (.inl rfl))]; exact h1, by have h1 := h.word; unfold Blk at *; rw [hk _ (.inr (.inr (.inl rfl)))]; exact h1,
    h.set.keep (hk _ (.inr (.inr (.inr (.inl rfl))))) (fun l e => hk l (.inr (.inr (.inr (.inr e))))), h.ne, h.p64⟩
theorem MkSees.keep (h : MkSees w T X s S S2 c) (hk : ∀ k, T.sets k → w'.heap[k]? = w.heap[k]?) (hX : ∀ k, X.has k → w'.heap[k]? = w.heap[k]?) : MkSees w' T X s S S2 c :=
  ⟨by have h1 := h.head; unfold Blk at *; rw [hk _ (.inl rfl)]; exact h1, h.s1.keep (hk _ (.inr (.inl (.inl rfl)))) (fun l e => hk l (.inr (.inl (.inr e)))), h.s2.keep (hk _ (.inr (.inr (.inl rfl)))) (fun l e => hk l (.inr (.inr (.inr e)))), h.ar.keepA hX, h.ma, h.sc, h.sub, h.inn⟩
theorem TabAt.keep (h : TabAt w) (hk : w'.heap[(1 : Nat)]? = w.heap[(1 : Nat)]?) : TabAt w' := fun j hj => (World.cell?_of_block (w := w) (a := ⟨1, j, none⟩) hk).trans (h j hj)
/-- What is so can be asked for. -/
def Asks (T : MkB) (X : ArB) (s : ArS) (S S2 : Nat → Bool) (c : Col) (g : Nat) (f : Int → Bool) : Prop :=
  ∀ (x : Int) (t : Bool) (V : World), MkSees V T X s S S2 c → f x = t → Calls Tryz.prog g #[.pointer (some ⟨T.m, 0, none⟩), .int .i64 x] V fun e V' => e = .returned (.bool t) ∧ Below V.heap.size V V'
theorem asks_marked : Asks T X s S S2 c 20 c.ma := fun x t V h ht => mkMarked h x t ht
end

end Go.Proofs.YtidpmplkbgllfaaGreatDoor
