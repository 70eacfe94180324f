/- Between two steps of DijkstraKeeps: a graph that is written to, a marker in its box, a barrier; marks of loops among what calls keep; at this seat's numbers. -/
import Derived.Test.YtdgkgcfnddmofaaGreatDoorBrC
import Derived.Test.YtdgkgcfnddmofaaGreatDoorMrE
import Derived.Test.YtdgkgcfnddmofaaGreatDoorMrF
import Derived.Test.YtdgkgcfnddmofaaGreatDoorRange
import Derived.Test.YtdgkgcfnddmofaaGreatDoorGrow
namespace Go.Proofs.YtdgkgcfnddmofaaGreatDoor
open Go Go.RowKit Go.Shelf
set_option linter.unusedSimpArgs false
set_option linter.unusedVariables false

/-- One of the deferred is that mark. -/
def DsHas : List Deferred → Nat → Prop
  | [], _ => False
  | d :: ds, k => d.target = .collected k ∨ DsHas ds k
theorem Marks.inside {B : Nat} {w : World} : ∀ {ds : List Deferred} {hi : Nat}, Marks B hi ds w → ∀ k, DsHas ds k → B ≤ k ∧ k < hi
  | [], _, _, _, h => h.elim
  | _ :: _, _, ⟨D, h1, h2, h3, _, h5⟩, k, h => by
    rcases h with e | e
    · rw [h1] at e
      have e2 : D = k := by injection e
      omega
    · have := h5.inside k e; omega
theorem Marks.keepE {B : Nat} {w w' : World} : ∀ {ds : List Deferred} {hi : Nat}, Marks B hi ds w → (∀ k, DsHas ds k → w'.heap[k]? = w.heap[k]?) → Marks B hi ds w'
  | [], _, _, _ => trivial
  | _ :: _, _, ⟨D, h1, h2, h3, h4, h5⟩, hk => ⟨D, h1, h2, h3, (hk D (.inl (by rw [h1]))).trans h4, h5.keepE fun k e => hk k (.inr e)⟩
theorem Marks.top {B : Nat} {w : World} : ∀ {ds : List Deferred} {hi : Nat}, Marks B hi ds w → ∃ hi', hi' ≤ w.heap.size ∧ Marks B hi' ds w
  | [], _, _ => ⟨0, Nat.zero_le _, trivial⟩
  | _ :: _, _, ⟨D, h1, h2, h3, h4, h5⟩ => ⟨D + 1, (Array.getElem?_eq_some_iff.1 h4).1, D, h1, h2, Nat.lt_succ_self D, h4, h5⟩
/-- What a step's calls keep. -/
def EM (mc : Nat) (ds : List Deferred) : Nat → Prop := fun k => k = mc ∨ DsHas ds k
structure DkA (t : TypeId) (B mb n mc tm bt xa : Nat) (R : List Int) (vl : Value) (f : Int → Value) (adj : Int → List Int) (E : Nat → Prop) (wb : World) (X : ArB) (s : ArS) (obs : List Ob) (T : MkB) (c : Col) (wr : World) : Prop where
  br : BrIn t B mb n X s obs vl f adj E T c bt tm wb wr
  hmc : E mc
  box : Blk wr mc #[.pointer (some ⟨tm, 0, none⟩)] 33
  far : ∀ k, (E k ∨ k = bt) → ¬ X.has k
  xa : X.a = xa
  re : refsI obs = R
  cl : Closed obs
section
variable {t : TypeId} {B mb n mc tm bt xa : Nat} {R : List Int} {vl : Value} {f : Int → Value} {adj : Int → List Int} {E E' : Nat → Prop} {wb : World} {X : ArB} {s : ArS} {obs : List Ob} {T T' : MkB} {c c' : Col} {wr w' : World}
theorem DkA.watch (h : DkA t B mb n mc tm bt xa R vl f adj E wb X s obs T c wr) (hB : Below wr.heap.size wr w') (hE : ∀ k, E' k → E k ∨ (wr.heap.size ≤ k ∧ k < w'.heap.size)) (hm : E' mc) : DkA t B mb n mc tm bt xa R vl f adj E' wb X s obs T c w' :=
  ⟨h.br.watch hB hE, hm, h.box.turn (Turn.ofBelow hB) (fun e => Nat.lt_irrefl _ (Nat.lt_of_lt_of_le h.box.lt e)), fun k e e2 => by
    rcases e with e | e
    · rcases hE k e with e3 | e3
      · exact h.far k (.inl e3) e2
      · have := h.br.gm.go.ar.at_.lt k e2; omega
    · exact h.far k (.inr e) e2, h.xa, h.re, h.cl⟩
theorem DkA.ask (h : DkA t B mb n mc tm bt xa R vl f adj E wb X s obs T c wr) (hB : Below wr.heap.size wr w') : DkA t B mb n mc tm bt xa R vl f adj E wb X s obs T c w' := h.watch hB (fun _ e => .inl e) h.hmc
theorem DkA.cell (h : DkA t B mb n mc tm bt xa R vl f adj E wb X s obs T c wr) : wr.cell? ⟨mc, 0, none⟩ = some (.pointer (some ⟨tm, 0, none⟩)) := h.box.cell 0
/-- A marker's call. -/
theorem DkA.went (h : DkA t B mb n mc tm bt xa R vl f adj E wb X s obs T c wr) (hm : T'.m = tm) (hG : GmIn B mb n X s obs vl f adj (fun k => E k ∨ k = bt) T' c' wb w') (hk : ∀ k, (E k ∨ k = bt) → w'.heap[k]? = wr.heap[k]?) : DkA t B mb n mc tm bt xa R vl f adj E wb X s obs T' c' w' :=
  ⟨(h.br.went (hm.trans h.br.tm.symm) hG hk).1, h.hmc, by have h1 := h.box; unfold Blk at *; rw [hk mc (.inl h.hmc)]; exact h1, h.far, h.xa, h.re, h.cl⟩
/-- The barrier's. -/
theorem DkA.told (h : DkA t B mb n mc tm bt xa R vl f adj E wb X s obs T c wr) (hG : BrIn t B mb n X s obs vl f adj E T' c' bt tm wb w') (hk : ∀ k, E k → w'.heap[k]? = wr.heap[k]?) : DkA t B mb n mc tm bt xa R vl f adj E wb X s obs T' c' w' :=
  ⟨hG, h.hmc, by have h1 := h.box; unfold Blk at *; rw [hk mc h.hmc]; exact h1, h.far, h.xa, h.re, h.cl⟩
/-- A field is set. -/
theorem DkA.set (h : DkA t B mb n mc tm bt xa R vl f adj E wb X s obs T c wr) {i j : Nat} {x y : Ob} (hx : obs[i]? = some x) (hy : y ∈ obs) (hj : j < x.k) :
    Calls Tryz.prog 22 #[.pointer (some ⟨xa, 0, none⟩), .int .i64 (x.r : Int), .int .i64 (j : Int), .int .i64 (y.r : Int)] wr fun e w' =>
      e = .returned (.int .i64 0) ∧ ∃ X' s', DkA t B mb n mc tm bt xa R vl f adj E wb X' s' (obs.set i { x with F := Go.Proofs.YtdgkgcfnddmofaaGreatDoor.upd x.F j (y.r : Int) }) T c w' ∧ (∀ k, E k → w'.heap[k]? = wr.heap[k]?) ∧
        (∀ z : Int, z ≠ (x.r : Int) → ptsAt (obs.set i { x with F := Go.Proofs.YtdgkgcfnddmofaaGreatDoor.upd x.F j (y.r : Int) }) z = ptsAt obs z) ∧ ∀ u ∈ ptsAt (obs.set i { x with F := Go.Proofs.YtdgkgcfnddmofaaGreatDoor.upd x.F j (y.r : Int) }) (x.r : Int), u ∈ ptsAt obs (x.r : Int) ∨ u = (y.r : Int) := by
  have cS := h.br.gm.setField hx hj (y.r : Int) h.far
  rw [h.xa] at cS
  refine cS.mono ?_
  rintro e w5 ⟨rfl, lo, hG, hk, hf⟩
  have hps := ptsAt_set h.br.gm.go.ob hG.go.ob hx
  exact ⟨rfl, X.with lo, _, ⟨⟨hG, by have h1 := h.br.at_; unfold Blk at *; rw [hk bt (.inr rfl)]; exact h1, h.br.tm⟩, h.hmc, by have h1 := h.box; unfold Blk at *; rw [hk mc (.inl h.hmc)]; exact h1, hf, h.xa, (refsI_set (x := { x with F := Go.Proofs.YtdgkgcfnddmofaaGreatDoor.upd x.F j (y.r : Int) }) hx rfl).trans h.re, h.cl.set hx hy rfl⟩, fun k e => hk k (.inl e), hps.1, hps.2⟩
end
end Go.Proofs.YtdgkgcfnddmofaaGreatDoor
