/- A barrier of one block, which names its marker (Dijkstra's, Yuasa's), beside a graph and the marker; t: its type. At this seat's numbers. (Prepared over barriers of our own.) -/
import Derived.Test.YtkjpeacnponcfaaGreatDoorLMrB
import Derived.Test.YtkjpeacnponcfaaGreatDoorLMrE
import Derived.Deep.RegionHeld3
namespace Go.Proofs.YtkjpeacnponcfaaGreatDoor
open Go Go.RowKit Go.Shelf
set_option linter.unusedSimpArgs false
set_option linter.unusedVariables false

/-- Shaded, if it is anything. -/
def Col.shadeZ (c : Col) (x : Int) : Col := if x = 0 then c else c.shade x
theorem Col.shadeZ_no (c : Col) : c.shadeZ 0 = c := if_pos rfl
theorem Col.shadeZ_yes {c : Col} {x : Int} (h : x ≠ 0) : c.shadeZ x = c.shade x := if_neg h
theorem row_cellB {w : World} {g m cap i : Nat} {l : List Int} {x : Int} (h : RefRow w (.slice (some ⟨g, 0, none⟩) m cap) l) (hi : l[i]? = some x) : w.cell? ⟨g, i, none⟩ = some (.int .i64 x) := by
  obtain ⟨hl, hx⟩ := List.getElem?_eq_some_iff.1 hi
  rcases h.is with ⟨e, _⟩ | ⟨g', cap', cur, e, _, _, _, _, hc⟩
  · cases e
  · cases e
    rw [hc i hl, hx]
/-- A kind of barrier: its type, what its one cell has. -/
structure BrK where
  t : TypeId
  v : Nat → Value
def BrCells (K : BrK) (tm : Nat) : Array Value := #[K.v tm]
/-- A graph, a marker, a barrier at b; other blocks E that their calls keep. -/
structure BrIn (t : BrK) (B mb n : Nat) (X : ArB) (s : ArS) (obs : List Ob) (vl : Value) (f : Int → Value) (adj : Int → List Int) (E : Nat → Prop) (T : MkB) (c : Col) (b tm : Nat) (wb wr : World) : Prop where
  gm : GmIn B mb n X s obs vl f adj (fun k => E k ∨ k = b) T c wb wr
  at_ : Blk wr b (BrCells t tm) t.t
  tm : T.m = tm
section
variable {t : BrK} {B mb n : Nat} {X : ArB} {s : ArS} {obs : List Ob} {vl : Value} {f : Int → Value} {adj : Int → List Int} {E E' : Nat → Prop} {T T' : MkB} {c c' : Col} {b tm : Nat} {wb wr w' : World}
theorem BrIn.ask (h : BrIn t B mb n X s obs vl f adj E T c b tm wb wr) (hB : Below wr.heap.size wr w') : BrIn t B mb n X s obs vl f adj E T c b tm wb w' :=
  ⟨h.gm.ask hB, h.at_.turn (Turn.ofBelow hB) (fun e => Nat.lt_irrefl _ (Nat.lt_of_lt_of_le h.at_.lt e)), h.tm⟩
theorem BrIn.drew (h : BrIn t B mb n X s obs vl f adj E T c b tm wb wr) : BrIn t B mb n X s obs vl f adj E T c b tm wb wr.drew := h.ask (Below.refl _ wr).drew
theorem BrIn.alloc (h : BrIn t B mb n X s obs vl f adj E T c b tm wb wr) (o : Obj) : BrIn t B mb n X s obs vl f adj E T c b tm wb (wr.alloc o) := h.ask ((Below.refl _ wr).alloc (Nat.le_refl _) o)
/-- A marker's call beside the barrier. -/
theorem BrIn.went (h : BrIn t B mb n X s obs vl f adj E T c b tm wb wr) (hm : T'.m = T.m) (hG : GmIn B mb n X s obs vl f adj (fun k => E k ∨ k = b) T' c' wb w') (hk : ∀ k, (E k ∨ k = b) → w'.heap[k]? = wr.heap[k]?) :
    BrIn t B mb n X s obs vl f adj E T' c' b tm wb w' ∧ ∀ k, E k → w'.heap[k]? = wr.heap[k]? :=
  ⟨⟨hG, by have h1 := h.at_; unfold Blk at *; rw [hk b (.inr rfl)]; exact h1, hm.trans h.tm⟩, fun k e => hk k (.inl e)⟩
theorem BrIn.cell (h : BrIn t B mb n X s obs vl f adj E T c b tm wb wr) : wr.cell? ⟨b, 0, none⟩ = some (t.v tm) := h.at_.cell 0
/-- The barrier is laid. -/
theorem BrIn.made (h : GmIn B mb n X s obs vl f adj E T c wb wr) (hm : T.m = tm) : BrIn t B mb n X s obs vl f adj E T c wr.heap.size tm wb (wr.alloc (.cells (BrCells t tm) t.t)) :=
  ⟨h.watch ((Below.refl _ wr).alloc (Nat.le_refl _) _) (fun k e => by
    rcases e with e | e
    · exact .inl e
    · exact .inr ⟨by omega, by simp; omega⟩), Blk.new wr _ _, hm⟩
/-- An object, or nothing, is shaded. -/
theorem BrIn.shade (h : BrIn t B mb n X s obs vl f adj E T c b tm wb wr) (x : Int) (hx : x ∈ refsI obs ∨ x = 0) (hb : ∀ y ∈ refsI obs, 1 ≤ y ∧ y ≤ 2048) :
    Calls Tryz.prog 51 #[.pointer (some ⟨tm, 0, none⟩), .int .i64 x] wr fun e w' =>
    ∃ q, e = .returned (.bool q) ∧ ∃ T', BrIn t B mb n X s obs vl f adj E T' (c.shadeZ x) b tm wb w' ∧ ∀ k, (E k ∨ k = b) → w'.heap[k]? = wr.heap[k]? := by
  rcases hx with hx | rfl
  · obtain ⟨h1, h2⟩ := hb x hx
    have hS := h.gm.shade x hx h1 h2
    rw [h.tm] at hS
    refine hS.mono ?_
    rintro e w1 ⟨rfl, T', hm, hG, hk⟩
    have hne : x ≠ 0 := by omega
    rw [Col.shadeZ_yes hne]
    exact ⟨_, rfl, T', (h.went (hm.trans h.tm.symm) hG hk).1, hk⟩
  · have hS := mkShadeNo h.gm.mt h.gm.go.ar.at_.toArMem 0 (by
      cases hS : inS s.S 0 with
      | false => rfl
      | true =>
        have h2 : s.S 0 = true := by simpa [inS] using hS
        have := (h.gm.go.ar.at_.fits.at_ 0 h2).1
        omega)
    rw [h.tm] at hS
    refine hS.mono ?_
    rintro e w1 ⟨rfl, hB⟩
    rw [Col.shadeZ_no]
    exact ⟨_, rfl, T, h.ask hB, fun k e => hB.block k (h.gm.ext k e)⟩
theorem BrIn.watch (h : BrIn t B mb n X s obs vl f adj E T c b tm wb wr) (hB : Below wr.heap.size wr w') (hE : ∀ k, E' k → E k ∨ (wr.heap.size ≤ k ∧ k < w'.heap.size)) : BrIn t B mb n X s obs vl f adj E' T c b tm wb w' :=
  ⟨h.gm.watch hB fun k e => by
    rcases e with e | e
    · rcases hE k e with e2 | e2
      · exact .inl (.inl e2)
      · exact .inr e2
    · exact .inl (.inr e), (h.ask hB).at_, h.tm⟩
theorem BrIn.less (h : BrIn t B mb n X s obs vl f adj E T c b tm wb wr) (hE : ∀ k, E' k → E k) : BrIn t B mb n X s obs vl f adj E' T c b tm wb wr :=
  ⟨h.gm.reE fun k e => by
    rcases e with e | e
    · exact ⟨fun e2 => (h.gm.own k e2).2.2 (.inl (hE k e)), h.gm.ext k (.inl (hE k e))⟩
    · exact ⟨fun e2 => (h.gm.own k e2).2.2 (.inr e), h.gm.ext k (.inr e)⟩, h.at_, h.tm⟩
/-- A box beside it, among what calls keep. -/
theorem BrIn.box (h : BrIn t B mb n X s obs vl f adj E T c b tm wb wr) (o : Obj) : BrIn t B mb n X s obs vl f adj (fun k => E k ∨ k = wr.heap.size) T c b tm wb (wr.alloc o) :=
  h.watch ((Below.refl _ wr).alloc (Nat.le_refl _) _) fun k e => by
    rcases e with e | e
    · exact .inl e
    · exact .inr ⟨by omega, by simp; omega⟩
end
end Go.Proofs.YtkjpeacnponcfaaGreatDoor
