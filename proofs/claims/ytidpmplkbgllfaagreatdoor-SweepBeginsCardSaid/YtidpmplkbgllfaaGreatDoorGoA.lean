/- Plain: an arena's objects, the row of their references, and where each points, as a map of rows; at this seat's numbers. -/
import Derived.Test.YtidpmplkbgllfaaGreatDoorUg
import Derived.Test.YtidpmplkbgllfaaGreatDoorUh
namespace Go.Proofs.YtidpmplkbgllfaaGreatDoor
open Go Go.RowKit Go.Shelf
set_option linter.unusedSimpArgs false
set_option linter.unusedVariables false

theorem ArIn.turnedG {B : Nat} {X : ArB} {s : ArS} {wb wr w' : World} {M : Nat → Prop} (h : ArIn B X s wb wr) (hT : Turn M wr w') (hX : ∀ k, X.has k → ¬ M k) (hB : ∀ k, k < B → ¬ M k) : ArIn B X s wb w' :=
  ⟨h.at_.turn hT hX, h.own, h.below.trans (hT.below B h.size hB), h.base, h.tab, h.tabB⟩
/-- The objects' references. -/
def refsI (obs : List Ob) : List Int := obs.map fun x => (x.r : Int)
theorem refsI_length (obs : List Ob) : (refsI obs).length = obs.length := by simp [refsI]
theorem refsI_at {obs : List Ob} {i : Nat} {x : Ob} (h : obs[i]? = some x) : (refsI obs)[i]? = some (x.r : Int) := by simp [refsI, h]
theorem refsI_push (obs : List Ob) (x : Ob) : refsI (obs ++ [x]) = refsI obs ++ [(x.r : Int)] := by simp [refsI]
theorem refsI_of (obs : List Ob) : refsI obs = (obRefs obs).map (fun r : Nat => (r : Int)) := by simp [refsI, obRefs]
/-- Where an object points. -/
def pts (x : Ob) : List Int := (elems (nz x.F) x.k).map x.F

structure GoIn (B mb n : Nat) (X : ArB) (s : ArS) (obs : List Ob) (vl : Value) (f : Int → Value) (adj : Int → List Int) (wb wr : World) : Prop where
  ar : ArIn B X s wb wr
  ob : Objs s obs
  row : RefRow wr vl (refsI obs)
  grp : GrpAt wr mb n f adj
  new : ∀ k, (vl.ownBlock = some k ∨ GrpHas mb f k) → B ≤ k
  apart : ∀ k, vl.ownBlock = some k → ¬ GrpHas mb f k
def GoHas (X : ArB) (mb : Nat) (vl : Value) (f : Int → Value) (k : Nat) : Prop := X.has k ∨ vl.ownBlock = some k ∨ GrpHas mb f k
section
variable {B mb n : Nat} {X : ArB} {s s' : ArS} {obs obs' : List Ob} {vl : Value} {f : Int → Value} {adj : Int → List Int} {wb wr w' : World}
theorem GoIn.rowFar (h : GoIn B mb n X s obs vl f adj wb wr) {k : Nat} (e : vl.ownBlock = some k) : ¬ X.has k := by
  obtain ⟨_, hb⟩ := h.row.own e
  exact h.ar.at_.far hb (by decide) (by decide) (by decide) (by decide)
theorem GoIn.grpFar (h : GoIn B mb n X s obs vl f adj wb wr) {k : Nat} (e : GrpHas mb f k) : ¬ X.has k := by
  rcases e with rfl | ⟨x, e⟩
  · obtain ⟨o, h1, h2⟩ := h.grp.map.block
    exact h.ar.at_.farObj h1 h2
  · obtain ⟨_, hb⟩ := (h.grp.row x).own e
    exact h.ar.at_.far hb (by decide) (by decide) (by decide) (by decide)
theorem GoIn.lt (h : GoIn B mb n X s obs vl f adj wb wr) : ∀ k, GoHas X mb vl f k → k < wr.heap.size := by
  rintro k (e | e | e)
  · exact h.ar.at_.lt k e
  · exact h.row.lt e
  · exact h.grp.lt k e
theorem GoIn.from_ (h : GoIn B mb n X s obs vl f adj wb wr) : ∀ k, GoHas X mb vl f k → B ≤ k := by
  rintro k (e | e)
  · exact h.ar.own k e
  · exact h.new k e
theorem GoIn.turned {M : Nat → Prop} (h : GoIn B mb n X s obs vl f adj wb wr) (hT : Turn M wr w') (hM : ∀ k, GoHas X mb vl f k → ¬ M k) (hB : ∀ k, k < B → ¬ M k) : GoIn B mb n X s obs vl f adj wb w' :=
  ⟨h.ar.turnedG hT (fun k e => hM k (.inl e)) hB, h.ob, h.row.turn hT (fun k e => hM k (.inr (.inl e))), h.grp.turn hT (fun k e => hM k (.inr (.inr e))), h.new, h.apart⟩
theorem GoIn.ask (h : GoIn B mb n X s obs vl f adj wb wr) (hB : Below wr.heap.size wr w') : GoIn B mb n X s obs vl f adj wb w' :=
  h.turned (Turn.ofBelow hB) (fun k e e2 => by have := h.lt k e; omega) (fun k hk e => by have := h.ar.size; omega)
theorem GoIn.drew (h : GoIn B mb n X s obs vl f adj wb wr) : GoIn B mb n X s obs vl f adj wb wr.drew := h.ask (Below.refl _ wr).drew
theorem GoIn.alloc (h : GoIn B mb n X s obs vl f adj wb wr) (o : Obj) : GoIn B mb n X s obs vl f adj wb (wr.alloc o) := h.ask ((Below.refl _ wr).alloc (Nat.le_refl _) o)
/-- The arena has another state; the objects are as many, at the same places. -/
theorem GoIn.step {lo : Option Nat} (h : GoIn B mb n X s obs vl f adj wb wr) (hA : ArIn B (X.with lo) s' wb w') (hS : ArStep X wr (X.with lo) w') (ho : Objs s' obs') (hr : refsI obs' = refsI obs) : GoIn B mb n (X.with lo) s' obs' vl f adj wb w' :=
  ⟨hA, ho, by rw [hr]; exact h.row.turn hS.turn (fun k e => h.rowFar e), h.grp.turn hS.turn (fun k e => h.grpFar e), h.new, h.apart⟩
/-- The row is told one more. -/
theorem GoIn.push {x : Ob} {g m cap : Nat} (h : GoIn B mb n X s obs vl f adj wb wr) (ho : Objs s (obs ++ [x])) (hR : RefRow w' (.slice (some ⟨g, 0, none⟩) m cap) (refsI obs ++ [(x.r : Int)])) (hT : Turn (fun k => vl.ownBlock = some k) wr w') (hg : vl.ownBlock = some g ∨ wr.heap.size ≤ g) :
    GoIn B mb n X s (obs ++ [x]) (.slice (some ⟨g, 0, none⟩) m cap) f adj wb w' := by
  have hs := h.ar.size
  have ha := h.ar.turnedG hT (fun k e e2 => h.rowFar e2 e) (fun k hk e => by have := h.new k (.inl e); omega)
  refine ⟨ha, ho, by rw [refsI_push]; exact hR, h.grp.turn hT (fun k e e2 => h.apart k e2 e), ?_, ?_⟩
  · rintro k (e | e)
    · have e3 := own_slice e
      subst e3
      rcases hg with e4 | e4
      · exact h.new _ (.inl e4)
      · omega
    · exact h.new k (.inr e)
  · intro k e e2
    have e3 := own_slice e
    subst e3
    rcases hg with e4 | e4
    · exact h.apart _ e4 e2
    · have := h.grp.lt _ e2; omega
/-- A group is told one more. -/
theorem GoIn.grow {v : Value} {l : List Int} {w1 : World} (h : GoIn B mb n X s obs vl f adj wb wr) (x : Int) (hT : Turn (fun k => (f x).ownBlock = some k) wr w1) (hR : RefRow w1 v l) (hg : ∀ k, v.ownBlock = some k → (f x).ownBlock = some k ∨ wr.heap.size ≤ k)
    (hs : MapSl w' mb (n + 1) (updI f x v)) (hS : Turn (fun k => k = mb) w1 w') : GoIn B mb (n + 1) X s obs vl (updI f x v) (updI adj x l) wb w' := by
  have hsz := h.ar.size
  have hT2 : Turn (fun k => GrpHas mb f k) wr w' := (hT.mono (fun k _ e => .inr ⟨x, e⟩)).trans hS (fun k _ e => .inl e)
  have sub : ∀ k, GrpHas mb (updI f x v) k → GrpHas mb f k ∨ wr.heap.size ≤ k := by
    rintro k (e | ⟨y, e⟩)
    · exact .inl (.inl e)
    · by_cases e2 : y = x
      · rw [e2, updI_at] at e
        rcases hg k e with e3 | e3
        · exact .inl (.inr ⟨x, e3⟩)
        · exact .inr e3
      · rw [updI_ne e2] at e
        exact .inl (.inr ⟨y, e⟩)
  refine ⟨h.ar.turnedG hT2 (fun k e e2 => h.grpFar e2 e) (fun k hk e => by have := h.new k (.inr e); omega), h.ob, h.row.turn hT2 (fun k e e2 => h.apart k e e2), h.grp.swap x hT hR hg hs hS, ?_, ?_⟩
  · rintro k (e | e)
    · exact h.new k (.inl e)
    · rcases sub k e with e2 | e2
      · exact h.new k (.inr e2)
      · omega
  · intro k e e2
    rcases sub k e2 with e3 | e3
    · exact h.apart k e e3
    · have := h.row.lt e; omega
end
/-- A field leads to an object, or nowhere. -/
def Closed (obs : List Ob) : Prop := ∀ x ∈ obs, ∀ j, j < x.k → x.F j = 0 ∨ ∃ y ∈ obs, x.F j = (y.r : Int)
theorem Closed.push {obs : List Ob} {x : Ob} (h : Closed obs) (hx : ∀ j, x.F j = 0) : Closed (obs ++ [x]) := by
  intro y hy j hj
  rcases List.mem_append.1 hy with hy | hy
  · rcases h y hy j hj with e | ⟨z, hz, e⟩
    · exact .inl e
    · exact .inr ⟨z, List.mem_append.2 (.inl hz), e⟩
  · obtain rfl := List.mem_singleton.1 hy
    exact .inl (hx j)
theorem mem_set_same {obs : List Ob} {i : Nat} {x y z : Ob} (hx : obs[i]? = some x) (hr : y.r = x.r) (hz : z ∈ obs) : ∃ z' ∈ obs.set i y, z'.r = z.r := by
  obtain ⟨j, hj⟩ := List.mem_iff_getElem?.1 hz
  by_cases e : i = j
  · subst e
    rw [hx] at hj
    cases hj
    exact ⟨y, List.mem_iff_getElem?.2 ⟨i, set_same hx⟩, hr⟩
  · exact ⟨z, List.mem_iff_getElem?.2 ⟨j, by rw [set_other e]; exact hj⟩, rfl⟩
theorem Closed.set {obs : List Ob} (h : Closed obs) {i t : Nat} {x y : Ob} (hx : obs[i]? = some x) (hy : y ∈ obs) {v : Int} (hv : v = (y.r : Int)) : Closed (obs.set i { x with F := Go.Proofs.YtidpmplkbgllfaaGreatDoor.upd x.F t v }) := by
  intro z hz j hj
  have out : ∀ {u : Int}, (u = 0 ∨ ∃ y ∈ obs, u = (y.r : Int)) → u = 0 ∨ ∃ y' ∈ obs.set i { x with F := Go.Proofs.YtidpmplkbgllfaaGreatDoor.upd x.F t v }, u = (y'.r : Int) := by
    rintro u (e | ⟨y', hy', e⟩)
    · exact .inl e
    · obtain ⟨z', hz', e2⟩ := mem_set_same (y := { x with F := Go.Proofs.YtidpmplkbgllfaaGreatDoor.upd x.F t v }) hx rfl hy'
      exact .inr ⟨z', hz', by rw [e, e2]⟩
  obtain ⟨k, hk⟩ := List.mem_iff_getElem?.1 hz
  by_cases e : i = k
  · subst e
    rw [set_same hx] at hk
    cases hk
    refine out (u := Go.Proofs.YtidpmplkbgllfaaGreatDoor.upd x.F t v j) ?_
    by_cases e2 : j = t
    · have e3 : Go.Proofs.YtidpmplkbgllfaaGreatDoor.upd x.F t v j = v := by unfold Go.Proofs.YtidpmplkbgllfaaGreatDoor.upd; rw [if_pos e2]
      rw [e3]; exact .inr ⟨y, hy, hv⟩
    · have e3 : Go.Proofs.YtidpmplkbgllfaaGreatDoor.upd x.F t v j = x.F j := by unfold Go.Proofs.YtidpmplkbgllfaaGreatDoor.upd; rw [if_neg e2]
      rw [e3]; exact h x (List.mem_of_getElem? hx) j hj
  · rw [set_other e] at hk
    exact out (h z (List.mem_of_getElem? hk) j hj)
theorem refsI_set {obs : List Ob} {i : Nat} {x y : Ob} (h : obs[i]? = some y) (hr : x.r = y.r) : refsI (obs.set i x) = refsI obs := by
  rw [refsI_of, refsI_of, obRefs_set h hr]
end Go.Proofs.YtidpmplkbgllfaaGreatDoor
