/- A map of colours, unboxed, beside a marker and other blocks; at this seat's numbers. -/
import Derived.Test.YtkjpeacnponcfaaGreatDoorLBrC
import Derived.Test.YtkjpeacnponcfaaGreatDoorLMrH
namespace Go.Proofs.YtkjpeacnponcfaaGreatDoor
open Go Go.RowKit Go.Shelf
set_option linter.unusedSimpArgs false
set_option linter.unusedVariables false

/-- Block rb is a map of numbers, one of those that a marker's calls keep. -/
structure HuA (B mb n rb q : Nat) (X : ArB) (s : ArS) (obs : List Ob) (vl : Value) (f : Int → Value) (adj : Int → List Int) (E : Nat → Prop) (wb : World) (hue : Int → Int) (T : MkB) (c : Col) (wr : World) : Prop where
  gm : GmIn B mb n X s obs vl f adj E T c wb wr
  hE : E rb
  map : ∃ nn K cc, nn ≤ q ∧ MapIn wr rb nn hue K cc
  far : B ≤ rb ∧ ¬ GoHas X mb vl f rb
section
variable {B mb n rb q : Nat} {X : ArB} {s : ArS} {obs : List Ob} {vl : Value} {f : Int → Value} {adj : Int → List Int} {E E' : Nat → Prop} {T T' : MkB} {c c' : Col} {wb wr w' : World} {hue : Int → Int}
theorem HuA.ask (h : HuA B mb n rb q X s obs vl f adj E wb hue T c wr) (hB : Below wr.heap.size wr w') : HuA B mb n rb q X s obs vl f adj E wb hue T c w' := by
  obtain ⟨nn, K, cc, hn, hM⟩ := h.map
  exact ⟨h.gm.ask hB, h.hE, ⟨nn, K, cc, hn, hM.ask hB⟩, h.far⟩
theorem HuA.up {q' : Nat} (h : HuA B mb n rb q X s obs vl f adj E wb hue T c wr) (hq : q ≤ q') : HuA B mb n rb q' X s obs vl f adj E wb hue T c wr := by
  obtain ⟨nn, K, cc, hn, hM⟩ := h.map
  exact ⟨h.gm, h.hE, ⟨nn, K, cc, by omega, hM⟩, h.far⟩
theorem HuA.look (h : HuA B mb n rb q X s obs vl f adj E wb hue T c wr) (x : Int) (hx : (Lit.int .i64 x).wf = true) (v : Int) (hv : hue x = v) :
    (Instr.lookup 37 (.map (some rb)) (.int .i64 x) false).run Tryz.prog wr = .ok (.int .i64 v) wr := by
  obtain ⟨nn, K, cc, hn, hM⟩ := h.map
  subst hv
  exact hM.look x hx
/-- A marker's call, or a barrier's. -/
theorem HuA.went (h : HuA B mb n rb q X s obs vl f adj E wb hue T c wr) (hG : GmIn B mb n X s obs vl f adj E T' c' wb w') (hk : w'.heap[rb]? = wr.heap[rb]?) : HuA B mb n rb q X s obs vl f adj E wb hue T' c' w' := by
  obtain ⟨nn, K, cc, hn, hM⟩ := h.map
  exact ⟨hG, h.hE, ⟨nn, K, cc, hn, hM.keep hk⟩, h.far⟩
/-- The map is told a colour. -/
theorem HuA.put (h : HuA B mb n rb q X s obs vl f adj E wb hue T c wr) (hq : q ≤ 100000) (x : Int) (hx : (Lit.int .i64 x).wf = true) (v : Int) (hv : (Lit.int .i64 v).wf = true) :
    ∃ w', (Instr.mapUpdate 37 (.map (some rb)) (.int .i64 x) (.int .i64 v)).run Tryz.prog wr = .ok () w' ∧ HuA B mb n rb (q + 1) X s obs vl f adj E wb (updI hue x v) T c w' ∧ Turn (fun k => k = rb) wr w' := by
  obtain ⟨nn, K, cc, hn, hM⟩ := h.map
  obtain ⟨w', hrun, hM', hT⟩ := hM.store (by omega) x hx v hv
  exact ⟨w', hrun, ⟨h.gm.turnE hT (fun k e => ⟨e ▸ h.hE, e ▸ h.far.1, e ▸ h.far.2⟩), h.hE, ⟨_, _, _, by omega, hM'⟩, h.far⟩, hT⟩
theorem HuA.reE (h : HuA B mb n rb q X s obs vl f adj E wb hue T c wr) (hG : GmIn B mb n X s obs vl f adj E' T c wb wr) (hE : E' rb) : HuA B mb n rb q X s obs vl f adj E' wb hue T c wr := ⟨hG, hE, h.map, h.far⟩
/-- A new map. -/
theorem HuA.made (h : GmIn B mb n X s obs vl f adj (fun _ => False) T c wb wr) : HuA B mb n wr.heap.size 0 X s obs vl f adj (fun k => k = wr.heap.size) wb (fun _ => 0) T c (wr.alloc (.map #[] 0)) :=
  ⟨h.watch ((Below.refl _ wr).alloc (Nat.le_refl _) _) fun k e => .inr ⟨Nat.le_of_eq (show wr.heap.size = k from e.symm), by have e2 : k = wr.heap.size := e; simp; omega⟩, rfl, ⟨0, _, 0, Nat.le_refl _, MapIn.made wr⟩, h.size, fun e => by have := h.go.lt _ e; omega⟩
end
/-- A map of colours, and a barrier beside it. -/
structure HuB (t : BrK) (B mb n rb q : Nat) (X : ArB) (s : ArS) (obs : List Ob) (vl : Value) (f : Int → Value) (adj : Int → List Int) (wb : World) (hue : Int → Int) (T : MkB) (c : Col) (b tm : Nat) (wr : World) : Prop where
  br : BrIn t B mb n X s obs vl f adj (fun k => k = rb) T c b tm wb wr
  map : ∃ nn K cc, nn ≤ q ∧ MapIn wr rb nn hue K cc
  far : B ≤ rb ∧ ¬ GoHas X mb vl f rb
section
variable {t : BrK} {B mb n rb q b tm : Nat} {X : ArB} {s : ArS} {obs : List Ob} {vl : Value} {f : Int → Value} {adj : Int → List Int} {T T' : MkB} {c c' : Col} {wb wr w' : World} {hue : Int → Int}
theorem HuB.hu (h : HuB t B mb n rb q X s obs vl f adj wb hue T c b tm wr) : HuA B mb n rb q X s obs vl f adj (fun k => k = rb ∨ k = b) wb hue T c wr := ⟨h.br.gm, .inl rfl, h.map, h.far⟩
theorem HuB.ask (h : HuB t B mb n rb q X s obs vl f adj wb hue T c b tm wr) (hB : Below wr.heap.size wr w') : HuB t B mb n rb q X s obs vl f adj wb hue T c b tm w' := ⟨h.br.ask hB, (h.hu.ask hB).map, h.far⟩
theorem HuB.look (h : HuB t B mb n rb q X s obs vl f adj wb hue T c b tm wr) (x : Int) (hx : (Lit.int .i64 x).wf = true) (v : Int) (hv : hue x = v) :
    (Instr.lookup 37 (.map (some rb)) (.int .i64 x) false).run Tryz.prog wr = .ok (.int .i64 v) wr := h.hu.look x hx v hv
theorem HuB.went (h : HuB t B mb n rb q X s obs vl f adj wb hue T c b tm wr) (hG : BrIn t B mb n X s obs vl f adj (fun k => k = rb) T' c' b tm wb w') (hk : w'.heap[rb]? = wr.heap[rb]?) : HuB t B mb n rb q X s obs vl f adj wb hue T' c' b tm w' := by
  obtain ⟨nn, K, cc, hn, hM⟩ := h.map
  exact ⟨hG, ⟨nn, K, cc, hn, hM.keep hk⟩, h.far⟩
theorem HuB.put (h : HuB t B mb n rb q X s obs vl f adj wb hue T c b tm wr) (hq : q ≤ 100000) (x : Int) (hx : (Lit.int .i64 x).wf = true) (v : Int) (hv : (Lit.int .i64 v).wf = true) :
    ∃ w', (Instr.mapUpdate 37 (.map (some rb)) (.int .i64 x) (.int .i64 v)).run Tryz.prog wr = .ok () w' ∧ HuB t B mb n rb (q + 1) X s obs vl f adj wb (updI hue x v) T c b tm w' := by
  obtain ⟨w', hrun, h2, hT⟩ := h.hu.put hq x hx v hv
  obtain ⟨nn, K, cc, hn, hM⟩ := h.map
  have hne : ¬ b = rb := fun e => hM.farBlk h.br.at_ e
  exact ⟨w', hrun, ⟨h2.gm, h.br.at_.turn hT hne, h.br.tm⟩, h2.map, h2.far⟩
theorem HuB.made (h : HuA B mb n rb q X s obs vl f adj (fun k => k = rb) wb hue T c wr) (hm : T.m = tm) : HuB t B mb n rb q X s obs vl f adj wb hue T c wr.heap.size tm (wr.alloc (.cells (BrCells t tm) t.t)) :=
  ⟨BrIn.made h.gm hm, (h.ask ((Below.refl _ wr).alloc (Nat.le_refl _) _)).map, h.far⟩
end
/-- Colours by the map, behind a shading. -/
theorem Hue.shadeZ {R : List Int} {c : Col} {f : Int → Int} {x v : Int} (h : Hue R c f) (hx : x ∈ R) (h0 : x ≠ 0) (hv : f x = v) : Hue R (c.shadeZ x) (updI f x (if v < 1 then 1 else v)) := by
  rw [Col.shadeZ_yes h0, ← hv]; exact h.shade hx
/-- Only of the first some are marked. -/
def Fro (R : List Int) (i : Nat) (c : Col) : Prop := ∀ z, c.ma z = true → z ∈ R.take i
section
variable {R : List Int} {i : Nat} {c : Col} {x : Int} {f : Int → Int}
theorem not_take (hn : R.Nodup) (hx : R[i]? = some x) : x ∉ R.take i := fun h => by
  obtain ⟨j, hj⟩ := List.mem_iff_getElem?.1 h
  rw [List.getElem?_take] at hj
  split at hj
  · obtain ⟨l1, e1⟩ := List.getElem?_eq_some_iff.1 hj
    obtain ⟨l2, e2⟩ := List.getElem?_eq_some_iff.1 hx
    exact List.pairwise_iff_getElem.1 hn j i l1 l2 (by assumption) (by rw [e1, e2])
  · cases hj
theorem fro_white (R : List Int) : Fro R 0 Col.white := fun z h => by cases h
theorem Fro.next (h : Fro R i c) (hx : R[i]? = some x) : Fro R (i + 1) c := fun z hz => by rw [take_nextR hx]; exact List.mem_append.2 (.inl (h z hz))
theorem Fro.put (h : Fro R i c) (hx : R[i]? = some x) : ∀ z, updI c.ma x true z = true → z ∈ R.take (i + 1) := fun z hz => by
  rw [take_nextR hx]
  by_cases e : z = x
  · rw [e]; simp
  · rw [updI_ne e] at hz; exact List.mem_append.2 (.inl (h z hz))
/-- The next one is white yet: it is shaded, and its colour is 1. -/
theorem Fro.hue (h : Fro R i c) (hn : R.Nodup) (hx : R[i]? = some x) (hH : Hue R c f) : Hue R (c.shade x) (updI f x 1) := by
  have hxR : x ∈ R := List.mem_of_getElem? hx
  have hm : c.ma x = false := by
    cases e : c.ma x with
    | false => rfl
    | true => exact absurd (h x e) (not_take hn hx)
  have h0 := hH.zero hxR
  rw [hm] at h0
  have h1 : f x = 0 := by simpa using h0
  have h2 := hH.shade hxR
  rw [h1] at h2
  simpa using h2
end
end Go.Proofs.YtkjpeacnponcfaaGreatDoor
