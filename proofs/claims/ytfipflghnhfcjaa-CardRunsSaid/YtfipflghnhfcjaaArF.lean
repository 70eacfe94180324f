/- Take at any class; Cells, at this seat's numbers. -/
import Derived.Test.YtfipflghnhfcjaaArE
namespace Go.Proofs.Ytfipflghnhfcjaa
open Go Go.RowKit Go.Shelf Go.MuLone Go.RwLone
set_option linter.unusedSimpArgs false
set_option linter.unusedVariables false
attribute [local go_sem] Oper.semAt_some

theorem wN_pos {c : Int} (hc : okC c = true) : (wN c = 2 ∨ wN c = 4 ∨ wN c = 8) ∧ wordsOf c = (wN c : Nat) := by
  rcases okC_cases hc with rfl | rfl | rfl <;> simp [wN, wordsOf]

theorem ArMem.same {w w' : World} {X : ArB} {s : ArS} (h : ArMem w X s) (hk : ∀ k, X.has k → w'.heap[k]? = w.heap[k]?) : ArMem w' X s := by
  have hb := hk X.b (.inr (.inr (.inr (.inl rfl))))
  refine ⟨(hk _ (.inl rfl)).trans h.head, (hk _ (.inr (.inl rfl))).trans h.page, (hk _ (.inr (.inr (.inl rfl)))).trans h.word, ?_, h.ne, h.p64⟩
  obtain ⟨h1, h2, h3⟩ := h.set
  refine ⟨h1, h2, ?_⟩
  have hl : ∀ l, X.lo = some l → w'.heap[l]? = w.heap[l]? := fun l e => hk l (.inr (.inr (.inr (.inr e))))
  generalize X.lo = lo at *
  cases lo with
  | none => exact ⟨hb.trans h3.1, h3.2⟩
  | some l =>
    obtain ⟨h4, h5, ws, h6, h7⟩ := h3
    exact ⟨hb.trans h4, h5, ws, (hl l rfl).trans h6, h7⟩

theorem ArAt.same {w w' : World} {X : ArB} {s : ArS} (h : ArAt w X s) (hk : ∀ k, X.has k → w'.heap[k]? = w.heap[k]?) : ArAt w' X s := ⟨h.toArMem.same hk, h.fits⟩

/-- Which cells of a page are taken, by where they begin. -/
def inPage (S : Nat → Bool) (p : Nat) : Nat → Bool := fun o => S (32 * p + o + 1)
theorem elems_yes {T : Nat → Bool} {j : Nat} (h : T j = true) : elems T (j + 1) = elems T j ++ [j] := by
  unfold elems; rw [List.range_succ, List.filter_append]; simp [h]
theorem elems_no {T : Nat → Bool} {j : Nat} (h : T j = false) : elems T (j + 1) = elems T j := by
  unfold elems; rw [List.range_succ, List.filter_append]; simp [h]

/-- What a round over a page's cells keeps: the arena, the closure's boxes. -/
def KpAr (X : ArB) (B : Nat) (W W' : World) : Prop :=
  (∀ k, X.has k → W'.heap[k]? = W.heap[k]?) ∧ W'.heap[B]? = W.heap[B]? ∧ W'.heap[B + 1]? = W.heap[B + 1]?
theorem KpAr.trans {X : ArB} {B : Nat} {A C D : World} (h : KpAr X B A C) (k : KpAr X B C D) : KpAr X B A D :=
  ⟨fun i hi => (k.1 i hi).trans (h.1 i hi), k.2.1.trans h.2.1, k.2.2.trans h.2.2⟩
theorem KpAr.putObj {X : ArB} {B : Nat} {n0 : Nat} (hX : ∀ k, X.has k → k < n0) (hB : B + 1 < n0) (W : World) (l : Nat) (o : Obj) (h : n0 ≤ l) : KpAr X B W (W.putObj l o) :=
  ⟨fun k hk => World.putObj_heap_other (by have := hX k hk; omega), World.putObj_heap_other (by omega), World.putObj_heap_other (by omega)⟩
theorem KpAr.ofBelow {X : ArB} {B : Nat} {n0 : Nat} {W W' : World} (h : Below n0 W W') (hX : ∀ k, X.has k → k < n0) (hB : B + 1 < n0) : KpAr X B W W' :=
  ⟨fun k hk => h.block k (hX k hk), h.block _ (by omega), h.block _ hB⟩

/-- What holds between two places of a page. -/
def CellRel (X : ArB) (s : ArS) (B p : Nat) (J : List (Fin 32) → World → Prop) (v10 : Value) (W : World) : Prop :=
  ArMem W X s ∧ W.cell? ⟨B, 0, none⟩ = some (.pointer (some ⟨X.a, 0, none⟩)) ∧ W.cell? ⟨B + 1, 0, none⟩ = some (.int .i64 (p : Int)) ∧
    ∃ j : Nat, j ≤ 32 ∧ v10 = .int .i64 (j : Int) ∧ ∃ q : List (Fin 32), q.map Fin.val = elems (inPage s.S p) j ∧ J q W

theorem abides_below {β : Type} {n0 : Nat} {J : β → World → Prop} (hJ : AbidesFrom n0 J) {x : β} {W W' : World} (h : J x W) (hB : Below W.heap.size W W') : J x W' :=
  hJ _ _ _ none h ⟨hB.os, hB.tape, hB.output, hB.size, fun k hk _ => hB.block k hk⟩ (fun r e => by cases e)

end Go.Proofs.Ytfipflghnhfcjaa
