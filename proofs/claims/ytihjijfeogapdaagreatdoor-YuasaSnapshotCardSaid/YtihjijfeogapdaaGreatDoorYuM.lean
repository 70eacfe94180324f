/- Between two steps of YuasaSnapshot: a graph that is written to, a marker, a barrier; at this seat's numbers. -/
import Derived.Test.YtihjijfeogapdaaGreatDoorBrC
import Derived.Test.YtihjijfeogapdaaGreatDoorMrE
namespace Go.Proofs.YtihjijfeogapdaaGreatDoor
open Go Go.RowKit Go.Shelf
set_option linter.unusedSimpArgs false
set_option linter.unusedVariables false

structure YsA (t : BrK) (B mb n tm bt xa : Nat) (R : List Int) (vl : Value) (f : Int → Value) (adj : Int → List Int) (E : Nat → Prop) (wb : World) (X : ArB) (s : ArS) (obs : List Ob) (T : MkB) (c : Col) (wr : World) : Prop where
  br : BrIn t B mb n X s obs vl f adj E T c bt tm wb wr
  far : ∀ k, (E k ∨ k = bt) → ¬ X.has k
  xa : X.a = xa
  re : refsI obs = R
  cl : Closed obs
section
variable {t : BrK} {B mb n tm bt xa : Nat} {R : List Int} {vl : Value} {f : Int → Value} {adj : Int → List Int} {E E' : Nat → Prop} {wb : World} {X : ArB} {s : ArS} {obs : List Ob} {T T' : MkB} {c c' : Col} {wr w' : World}
theorem YsA.watch (h : YsA t B mb n tm bt xa R vl f adj E wb X s obs T c wr) (hB : Below wr.heap.size wr w') (hE : ∀ k, E' k → E k ∨ (wr.heap.size ≤ k ∧ k < w'.heap.size)) : YsA t B mb n tm bt xa R vl f adj E' wb X s obs T c w' :=
  ⟨h.br.watch hB hE, fun k e e2 => by
    rcases e with e | e
    · rcases hE k e with e3 | e3
      · exact h.far k (.inl e3) e2
      · have := h.br.gm.go.ar.at_.lt k e2; omega
    · exact h.far k (.inr e) e2, h.xa, h.re, h.cl⟩
theorem YsA.ask (h : YsA t B mb n tm bt xa R vl f adj E wb X s obs T c wr) (hB : Below wr.heap.size wr w') : YsA t B mb n tm bt xa R vl f adj E wb X s obs T c w' := h.watch hB (fun _ e => .inl e)
theorem YsA.less (h : YsA t B mb n tm bt xa R vl f adj E wb X s obs T c wr) (hE : ∀ k, E' k → E k) : YsA t B mb n tm bt xa R vl f adj E' wb X s obs T c wr := ⟨h.br.less hE, fun k e => h.far k (e.imp (hE k) id), h.xa, h.re, h.cl⟩
/-- A marker's call. -/
theorem YsA.went (h : YsA t B mb n tm bt xa R vl f adj E wb X s obs T c wr) (hm : T'.m = tm) (hG : GmIn B mb n X s obs vl f adj (fun k => E k ∨ k = bt) T' c' wb w') (hk : ∀ k, (E k ∨ k = bt) → w'.heap[k]? = wr.heap[k]?) : YsA t B mb n tm bt xa R vl f adj E wb X s obs T' c' w' :=
  ⟨(h.br.went (hm.trans h.br.tm.symm) hG hk).1, h.far, h.xa, h.re, h.cl⟩
/-- The barrier's. -/
theorem YsA.told (h : YsA t B mb n tm bt xa R vl f adj E wb X s obs T c wr) (hG : BrIn t B mb n X s obs vl f adj E T' c' bt tm wb w') : YsA t B mb n tm bt xa R vl f adj E wb X s obs T' c' w' := ⟨hG, h.far, h.xa, h.re, h.cl⟩
/-- What a field that is written over led to. -/
theorem ptsAt_lost {s s' : ArS} {obs : List Ob} {i j : Nat} {x : Ob} {y : Int} (ho : Objs s obs) (ho' : Objs s' (obs.set i { x with F := Go.Proofs.YtihjijfeogapdaaGreatDoor.upd x.F j y })) (hx : obs[i]? = some x) :
    ∀ u ∈ ptsAt obs (x.r : Int), u ∈ ptsAt (obs.set i { x with F := Go.Proofs.YtihjijfeogapdaaGreatDoor.upd x.F j y }) (x.r : Int) ∨ u = x.F j := by
  intro u hu
  have hi : i < obs.length := (List.getElem?_eq_some_iff.1 hx).1
  have hxm : x ∈ obs := List.mem_of_getElem? hx
  have hym : ({ x with F := Go.Proofs.YtihjijfeogapdaaGreatDoor.upd x.F j y } : Ob) ∈ obs.set i { x with F := Go.Proofs.YtihjijfeogapdaaGreatDoor.upd x.F j y } := List.mem_of_getElem? (i := i) (by simp [hi])
  have e1' : ptsAt (obs.set i { x with F := Go.Proofs.YtihjijfeogapdaaGreatDoor.upd x.F j y }) (x.r : Int) = pts { x with F := Go.Proofs.YtihjijfeogapdaaGreatDoor.upd x.F j y } := ptsAt_mem ho' hym
  rw [ptsAt_mem ho hxm] at hu
  rw [e1']
  unfold pts elems nz at hu ⊢
  obtain ⟨t, ht, rfl⟩ := List.mem_map.1 hu
  obtain ⟨ht1, ht2⟩ := List.mem_filter.1 ht
  by_cases e : t = j
  · right; rw [e]
  · left
    have e3 : Go.Proofs.YtihjijfeogapdaaGreatDoor.upd x.F j y t = x.F t := by simp [Go.Proofs.YtihjijfeogapdaaGreatDoor.upd, e]
    refine List.mem_map.2 ⟨t, List.mem_filter.2 ⟨ht1, ?_⟩, e3⟩
    show (!decide (Go.Proofs.YtihjijfeogapdaaGreatDoor.upd x.F j y t = 0)) = true
    rw [e3]; exact ht2
/-- A field is set. -/
theorem YsA.set (h : YsA t B mb n tm bt xa R vl f adj E wb X s obs T c wr) {i j : Nat} {x y : Ob} (hx : obs[i]? = some x) (hy : y ∈ obs) (hj : j < x.k) :
    Calls Tryz.prog 23 #[.pointer (some ⟨xa, 0, none⟩), .int .i64 (x.r : Int), .int .i64 (j : Int), .int .i64 (y.r : Int)] wr fun e w' =>
      e = .returned (.int .i64 0) ∧ ∃ X' s', YsA t B mb n tm bt xa R vl f adj E wb X' s' (obs.set i { x with F := Go.Proofs.YtihjijfeogapdaaGreatDoor.upd x.F j (y.r : Int) }) T c w' ∧ (∀ k, E k → w'.heap[k]? = wr.heap[k]?) ∧
        (∀ z : Int, z ≠ (x.r : Int) → ptsAt (obs.set i { x with F := Go.Proofs.YtihjijfeogapdaaGreatDoor.upd x.F j (y.r : Int) }) z = ptsAt obs z) ∧ ∀ u ∈ ptsAt obs (x.r : Int), u ∈ ptsAt (obs.set i { x with F := Go.Proofs.YtihjijfeogapdaaGreatDoor.upd x.F j (y.r : Int) }) (x.r : Int) ∨ u = x.F j := by
  have cS := h.br.gm.setField hx hj (y.r : Int) h.far
  rw [h.xa] at cS
  refine cS.mono ?_
  rintro e w5 ⟨rfl, lo, hG, hk, hf⟩
  exact ⟨rfl, X.with lo, _, ⟨⟨hG, by have h1 := h.br.at_; unfold Blk at *; rw [hk bt (.inr rfl)]; exact h1, h.br.tm⟩, hf, h.xa, (refsI_set (x := { x with F := Go.Proofs.YtihjijfeogapdaaGreatDoor.upd x.F j (y.r : Int) }) hx rfl).trans h.re, h.cl.set hx hy rfl⟩, fun k e => hk k (.inl e), (ptsAt_set h.br.gm.go.ob hG.go.ob hx).1, ptsAt_lost h.br.gm.go.ob hG.go.ob hx⟩
end
/-- The least of some numbers. -/
theorem least_of {P : Nat → Prop} (h : ∃ k, P k) : ∃ k, P k ∧ ∀ j, P j → k ≤ j := by
  obtain ⟨k, hk⟩ := h
  induction k using Nat.strongRecOn with
  | _ k ih =>
    by_cases e : ∃ j, j < k ∧ P j
    · obtain ⟨j, hj, hp⟩ := e; exact ih j hj hp
    · exact ⟨k, hk, fun j hj => Nat.le_of_not_lt fun h => e ⟨j, h, hj⟩⟩
open Classical in
noncomputable def leastN (P : Nat → Prop) : Nat := if h : ∃ k, P k then Classical.choose (least_of h) else 0
theorem leastN_is {P : Nat → Prop} (h : ∃ k, P k) : P (leastN P) := by
  unfold leastN; rw [dif_pos h]; exact (Classical.choose_spec (least_of h)).1
theorem leastN_le {P : Nat → Prop} {k : Nat} (h : P k) : leastN P ≤ k := by
  unfold leastN; rw [dif_pos ⟨k, h⟩]; exact (Classical.choose_spec (least_of ⟨k, h⟩)).2 k h
/-- How many are not scanned yet. -/
def leftU (R : List Int) (c : Col) : Nat := (R.filter fun x => !c.sc x).length
theorem leftU_less {P : Int → List Int} {c c' : Col} {l R : List Int} {x : Int} (h : Scans P c (x :: l) c') (hx : x ∈ R) : leftU R c' < leftU R c := by
  have h1 := h.once
  have hsc : c.sc x = false := (h1.2.1 x (by simp)).1
  have hmono : ∀ {c c' : Col} {l : List Int}, Scans P c l c' → ∀ y, c.sc y = true → c'.sc y = true := fun {c c' l} h => by
    induction h with
    | nil c => exact fun _ h => h
    | @cons c c' u l _ _ _ ih =>
      intro y hy
      refine ih y ?_
      show updI c.sc u true y = true
      by_cases e : y = u
      · rw [e, updI_at]
      · rw [updI_ne e]; exact hy
  have hsc' : c'.sc x = true := by
    cases h with
    | cons _ _ h3 => exact hmono h3 x (updI_at _ _ _)
  unfold leftU
  have sub : ∀ R : List Int, (R.filter fun x => !c'.sc x).length ≤ (R.filter fun x => !c.sc x).length := fun R => by
    induction R with
    | nil => exact Nat.le_refl _
    | cons y R ih =>
      have := hmono h y
      cases e : c.sc y <;> cases e' : c'.sc y <;> simp_all <;> omega
  induction R with
  | nil => cases hx
  | cons y R ih =>
    rcases List.mem_cons.1 hx with e | e
    · subst e
      have := sub R
      simp [hsc, hsc']; omega
    · have h2 := ih e
      have := hmono h y
      cases e : c.sc y <;> cases e' : c'.sc y <;> simp_all <;> omega
end Go.Proofs.YtihjijfeogapdaaGreatDoor
