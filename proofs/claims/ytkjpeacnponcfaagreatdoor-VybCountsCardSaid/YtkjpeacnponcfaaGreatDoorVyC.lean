/- The counting barrier, and a map of numbers beside it; at this seat's numbers. -/
import Derived.Test.YtkjpeacnponcfaaGreatDoorVyF
import Derived.Test.YtkjpeacnponcfaaGreatDoorDjH
namespace Go.Proofs.YtkjpeacnponcfaaGreatDoor
open Go Go.RowKit Go.Shelf
set_option linter.unusedSimpArgs false
set_option linter.unusedVariables false

/-- Block rb is a map of numbers, one of those that a barrier's calls keep. -/
structure VyC (B mb n rb q : Nat) (X : ArB) (s : ArS) (obs : List Ob) (vl : Value) (f : Int → Value) (adj : Int → List Int) (E : Nat → Prop) (hue : Int → Int) (T : MkB) (c : Col) (bt tm : Nat) (cnt : Int → Nat) (lg room : Nat) (wb wr : World) : Prop where
  vy : VyIn B mb n X s obs vl f adj E T c bt tm cnt lg room wb wr
  hE : E rb
  map : ∃ nn K cc, nn ≤ q ∧ MapIn wr rb nn hue K cc
  far : B ≤ rb ∧ ¬ GoHas X mb vl f rb
section
variable {B mb n rb q lg lg' room bt tm : Nat} {X : ArB} {s : ArS} {obs : List Ob} {vl : Value} {f : Int → Value} {adj : Int → List Int} {E E' : Nat → Prop} {hue : Int → Int} {T T' : MkB} {c c' : Col} {cnt cnt' : Int → Nat} {wb wr w' : World}
theorem VyC.ask (h : VyC B mb n rb q X s obs vl f adj E hue T c bt tm cnt lg room wb wr) (hB : Below wr.heap.size wr w') : VyC B mb n rb q X s obs vl f adj E hue T c bt tm cnt lg room wb w' := by
  obtain ⟨nn, K, cc, hn, hM⟩ := h.map
  exact ⟨h.vy.ask hB, h.hE, ⟨nn, K, cc, hn, hM.ask hB⟩, h.far⟩
theorem VyC.up {q' : Nat} (h : VyC B mb n rb q X s obs vl f adj E hue T c bt tm cnt lg room wb wr) (hq : q ≤ q') : VyC B mb n rb q' X s obs vl f adj E hue T c bt tm cnt lg room wb wr := by
  obtain ⟨nn, K, cc, hn, hM⟩ := h.map
  exact ⟨h.vy, h.hE, ⟨nn, K, cc, by omega, hM⟩, h.far⟩
theorem VyC.look (h : VyC B mb n rb q X s obs vl f adj E hue T c bt tm cnt lg room wb wr) (x : Int) (hx : (Lit.int .i64 x).wf = true) (v : Int) (hv : hue x = v) :
    (Instr.lookup 37 (.map (some rb)) (.int .i64 x) false).run Tryz.prog wr = .ok (.int .i64 v) wr := by
  obtain ⟨nn, K, cc, hn, hM⟩ := h.map
  subst hv
  exact hM.look x hx
/-- A call of the barrier's. -/
theorem VyC.went (h : VyC B mb n rb q X s obs vl f adj E hue T c bt tm cnt lg room wb wr) (hG : VyIn B mb n X s obs vl f adj E T' c' bt tm cnt' lg' room wb w') (hk : ∀ k, E k → w'.heap[k]? = wr.heap[k]?) : VyC B mb n rb q X s obs vl f adj E hue T' c' bt tm cnt' lg' room wb w' := by
  obtain ⟨nn, K, cc, hn, hM⟩ := h.map
  exact ⟨hG, h.hE, ⟨nn, K, cc, hn, hM.keep (hk rb h.hE)⟩, h.far⟩
theorem VyC.put (h : VyC B mb n rb q X s obs vl f adj E hue T c bt tm cnt lg room wb wr) (hq : q ≤ 100000) (x : Int) (hx : (Lit.int .i64 x).wf = true) (v : Int) (hv : (Lit.int .i64 v).wf = true) :
    ∃ w', (Instr.mapUpdate 37 (.map (some rb)) (.int .i64 x) (.int .i64 v)).run Tryz.prog wr = .ok () w' ∧ VyC B mb n rb (q + 1) X s obs vl f adj E (updI hue x v) T c bt tm cnt lg room wb w' ∧ Turn (fun k => k = rb) wr w' := by
  obtain ⟨nn, K, cc, hn, hM⟩ := h.map
  obtain ⟨w', hrun, hM', hT⟩ := hM.store (by omega) x hx v hv
  exact ⟨w', hrun, ⟨h.vy.turnE hT (fun k e => ⟨e ▸ h.hE, e ▸ h.far.1, e ▸ h.far.2⟩), h.hE, ⟨_, _, _, by omega, hM'⟩, h.far⟩, hT⟩
theorem VyC.watch (h : VyC B mb n rb q X s obs vl f adj E hue T c bt tm cnt lg room wb wr) (hB : Below wr.heap.size wr w') (hE : ∀ k, E' k → E k ∨ (wr.heap.size ≤ k ∧ k < w'.heap.size)) (hr : E' rb) : VyC B mb n rb q X s obs vl f adj E' hue T c bt tm cnt lg room wb w' := by
  obtain ⟨nn, K, cc, hn, hM⟩ := h.map
  exact ⟨h.vy.watch hB hE, hr, ⟨nn, K, cc, hn, hM.ask hB⟩, h.far⟩
theorem VyC.less (h : VyC B mb n rb q X s obs vl f adj E hue T c bt tm cnt lg room wb wr) (hE : ∀ k, E' k → E k) (hr : E' rb) : VyC B mb n rb q X s obs vl f adj E' hue T c bt tm cnt lg room wb wr := ⟨h.vy.less hE, hr, h.map, h.far⟩
/-- A new map. -/
theorem VyC.made (h : VyIn B mb n X s obs vl f adj (fun _ => False) T c bt tm cnt lg room wb wr) : VyC B mb n wr.heap.size 0 X s obs vl f adj (fun k => k = wr.heap.size) (fun _ => 0) T c bt tm cnt lg room wb (wr.alloc (.map #[] 0)) :=
  ⟨h.watch ((Below.refl _ wr).alloc (Nat.le_refl _) _) fun k e => .inr ⟨Nat.le_of_eq (show wr.heap.size = k from e.symm), by have e2 : k = wr.heap.size := e; simp; omega⟩, rfl, ⟨0, _, 0, Nat.le_refl _, MapIn.made wr⟩, h.gm.size, fun e => by have := h.go.lt _ e; omega⟩
/-- A box beside. -/
theorem VyC.box (h : VyC B mb n rb q X s obs vl f adj (fun k => k = rb) hue T c bt tm cnt lg room wb wr) (o : Obj) : VyC B mb n rb q X s obs vl f adj (fun k => k = rb ∨ k = wr.heap.size) hue T c bt tm cnt lg room wb (wr.alloc o) :=
  h.watch ((Below.refl _ wr).alloc (Nat.le_refl _) _) (fun k e => by
    rcases e with e | e
    · exact .inl e
    · exact .inr ⟨Nat.le_of_eq (show wr.heap.size = k from e.symm), by have e2 : k = wr.heap.size := e; simp; omega⟩) (.inl rfl)
end
/-- Counts, as whole numbers. -/
def cntI (cnt : Int → Nat) : Int → Int := fun z => ((cnt z : Nat) : Int)
theorem cntI_zero : cntI (fun _ => 0) = fun _ => 0 := rfl
theorem wf_small {v : Int} (h1 : -1000 ≤ v) (h2 : v ≤ 1000) : (Lit.int .i64 v).wf = true := by simp [Lit.wf, IntKind.min, IntKind.max, IntKind.signed, IntKind.bits]; omega
theorem wrapM {v : Int} (h1 : -1000 ≤ v) (h2 : v ≤ 1000) : wrap64 v = v := by simp [wrap64]; omega
/-- What is more, and what is less. -/
def netP (net : Int → Int) (p : Bool) (y o : Int) : Int → Int := if p then updI (updI net y (net y + 1)) o (updI net y (net y + 1) o - 1) else net
theorem netP_bd {net : Int → Int} {i : Int} (h : ∀ z, -i ≤ net z ∧ net z ≤ i) (p : Bool) (y o : Int) : ∀ z, -(i + 1) ≤ netP net p y o z ∧ netP net p y o z ≤ i + 1 := fun z => by
  have h1 := h z
  have h2 := h y
  have h3 := h o
  unfold netP
  split
  · by_cases e1 : z = o
    · subst e1
      rw [updI_at]
      by_cases e2 : z = y
      · subst e2; rw [updI_at]; omega
      · rw [updI_ne e2]; omega
    · rw [updI_ne e1]
      by_cases e2 : z = y
      · subst e2; rw [updI_at]; omega
      · rw [updI_ne e2]; omega
  · omega
theorem Enough.next {cnt : Int → Nat} {net : Int → Int} (h : Enough cnt net) (h3 : ∀ y, cnt y ≤ 3) (p : Bool) (x y : Int) : Enough (vyPost cnt p x y) (netP net p x y) := by
  unfold vyPost netP
  split
  · exact h.post h3 x y
  · exact h
end Go.Proofs.YtkjpeacnponcfaaGreatDoor
