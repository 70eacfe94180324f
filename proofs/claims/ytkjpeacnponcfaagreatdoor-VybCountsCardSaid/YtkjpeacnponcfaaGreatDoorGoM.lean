/- Maps from references: to rows of references, and to numbers; at this seat's numbers. -/
import Derived.Test.YtkjpeacnponcfaaGreatDoorUa
import Derived.Maps.Own
import Derived.Maps.OwnOps
import Derived.Maps.Keyed
import Derived.Maps.Views
import Derived.Maps.OwnSet
import Derived.RangeFuncOwn
namespace Go.Proofs.YtkjpeacnponcfaaGreatDoor
open Go Go.RowKit Go.Maps
set_option linter.unusedSimpArgs false
set_option linter.unusedVariables false

theorem keyRef : Keyed Tryz.prog 39 := int_keyed Tryz.underlying39
theorem zeroRow (w : World) : (zeroValue 29).run Tryz.prog w = .ok (.slice none 0 0) w := by kernel_rfl
theorem zeroIntG (w : World) : (zeroValue 3).run Tryz.prog w = .ok (.int .i64 0) w := by kernel_rfl
theorem lit_neG {x y : Int} (h : y ≠ x) : Lit.int .i64 y ≠ Lit.int .i64 x := fun e => h (by injection e)

/-- What a row's slice reads as: where it lies. -/
def datR : Value → DataW Unit
  | .slice (some ⟨g, _, _⟩) n c => .agg [.lit (.int .i64 (g : Int)), .lit (.int .i64 (n : Int)), .lit (.int .i64 (c : Int))]
  | _ => .agg []
def rowElem : Value → Option (DataW Unit × List MemPlace)
  | .slice none 0 0 => some (.agg [], [])
  | .slice (some ⟨g, 0, none⟩) n c => some (.agg [.lit (.int .i64 (g : Int)), .lit (.int .i64 (n : Int)), .lit (.int .i64 (c : Int))], [])
  | _ => none
/-- Nothing, or a slice from a block's front on. -/
def IsRow (v : Value) : Prop := v = .slice none 0 0 ∨ ∃ g n c, v = .slice (some ⟨g, 0, none⟩) n c
theorem rowElem_mk {v : Value} (h : IsRow v) : rowElem v = some (datR v, []) := by
  rcases h with rfl | ⟨g, n, c, rfl⟩ <;> rfl
theorem rowElem_inv {v u : Value} {ps : List MemPlace} (hu : IsRow u) (h : rowElem v = some (datR u, ps)) : v = u := by
  unfold rowElem at h
  split at h
  · rcases hu with rfl | ⟨g, n, c, rfl⟩
    · rfl
    · simp [datR] at h
  · rcases hu with rfl | ⟨g, n, c, rfl⟩
    · simp [datR] at h
    · simp [datR] at h
      obtain ⟨⟨h1, h2, h3⟩, _⟩ := h
      have h1 := Int.ofNat.inj h1
      have h2 := Int.ofNat.inj h2
      have h3 := Int.ofNat.inj h3
      subst h1 h2 h3
      rfl
  · cases h
theorem RefRow.isRow {w : World} {v : Value} {l : List Int} (h : RefRow w v l) : IsRow v := by
  rcases h.is with ⟨rfl, _⟩ | ⟨g, cap, cur, rfl, _⟩
  · exact .inl rfl
  · exact .inr ⟨g, _, cap, rfl⟩

/-- Another value at one place. -/
def updI {α : Type} (f : Int → α) (x : Int) (v : α) : Int → α := fun y => if y = x then v else f y
theorem updI_at {α : Type} (f : Int → α) (x : Int) (v : α) : updI f x v x = v := if_pos rfl
theorem updI_ne {α : Type} {f : Int → α} {x y : Int} {v : α} (h : y ≠ x) : updI f x v y = f y := if_neg h

/-- Block B is a map that has f. -/
structure MapSl (w : World) (B n : Nat) (f : Int → Value) : Prop where
  ex : ∃ D : DataW Unit, w.ownsMap Tryz.prog 39 rowElem B n D ∧ ∀ x, (Lit.int .i64 x).wf = true → D.atKey (.int .i64 x) (datR (.slice none 0 0)) = datR (f x)
  rows : ∀ x, IsRow (f x)
section
variable {w w' : World} {B n : Nat} {f : Int → Value}
theorem MapSl.keep (h : MapSl w B n f) (hk : w'.heap[B]? = w.heap[B]?) : MapSl w' B n f := by
  obtain ⟨⟨D, ⟨es, clock, hb, r⟩, hf⟩, h2⟩ := h
  exact ⟨⟨D, ⟨es, clock, hk.trans hb, r⟩, hf⟩, h2⟩
theorem MapSl.block (h : MapSl w B n f) : ∃ o : Obj, w.heap[B]? = some o ∧ o.isCells = false := by
  obtain ⟨⟨D, ⟨es, clock, hb, r⟩, hf⟩, h2⟩ := h
  exact ⟨_, hb, rfl⟩
theorem MapSl.lt (h : MapSl w B n f) : B < w.heap.size := by
  obtain ⟨o, h1, _⟩ := h.block
  exact (Array.getElem?_eq_some_iff.1 h1).1
theorem MapSl.turn {M : Nat → Prop} (h : MapSl w B n f) (hT : Turn M w w') (hM : ¬ M B) : MapSl w' B n f := h.keep (hT.block B h.lt hM)
theorem MapSl.made (w : World) : MapSl (w.alloc (.map #[] 0)) w.heap.size 0 (fun _ => .slice none 0 0) :=
  ⟨⟨_, World.ownsMap_made _ _ _ _, fun x _ => rfl⟩, fun _ => .inl rfl⟩
theorem MapSl.look (h : MapSl w B n f) (x : Int) (hx : (Lit.int .i64 x).wf = true) :
    (Instr.lookup 30 (.map (some B)) (.int .i64 x) false).run Tryz.prog w = .ok (f x) w := by
  obtain ⟨⟨D, hD, hf⟩, h2⟩ := h
  obtain ⟨v, ps, hrun, hv⟩ := hD.lookup keyRef Tryz.underlying30 (zeroRow _) (rowElem_mk (.inl rfl)) (keyOf_int_mk Tryz.underlying39 hx)
  rw [hf x hx] at hv
  rw [rowElem_inv (h2 x) hv] at hrun
  exact hrun
theorem MapSl.store (h : MapSl w B n f) (hn : n < 9223372036854775807) (x : Int) (hx : (Lit.int .i64 x).wf = true) {v : Value} (hv : IsRow v) :
    ∃ w', (Instr.mapUpdate 30 (.map (some B)) (.int .i64 x) v).run Tryz.prog w = .ok () w' ∧ MapSl w' B (n + 1) (updI f x v) ∧ Turn (fun k => k = B) w w' := by
  obtain ⟨⟨D, hD, hf⟩, h2⟩ := h
  have hM : IsMap D := hD.isMap
  have hk : WideAt.IsKeyLit (Lit.int .i64 x) := by simp [WideAt.IsKeyLit]
  obtain ⟨w', hrun, h1, h3⟩ := hD.store keyRef Tryz.underlying30 hn (keyOf_int_mk Tryz.underlying39 hx) (rowElem_mk hv)
  refine ⟨w', hrun, ⟨⟨_, h1, fun y hy => ?_⟩, fun y => ?_⟩, (Turn.ofGrownM h3.grown).mono fun k _ e => ((Option.some.inj e).symm : k = B)⟩
  · by_cases e : y = x
    · subst e
      rw [Maps.atKey_put_same hM hk, updI_at]
    · rw [Maps.atKey_put_other (lit_neG e), hf y hy, updI_ne e]
  · by_cases e : y = x
    · rw [e, updI_at]; exact hv
    · rw [updI_ne e]; exact h2 y
end

/-- A map of rows, each in a block of its own. -/
structure GrpAt (w : World) (B n : Nat) (f : Int → Value) (adj : Int → List Int) : Prop where
  map : MapSl w B n f
  row : ∀ x, RefRow w (f x) (adj x)
  apart : ∀ x y k, (f x).ownBlock = some k → (f y).ownBlock = some k → x = y
def GrpHas (B : Nat) (f : Int → Value) (k : Nat) : Prop := k = B ∨ ∃ x, (f x).ownBlock = some k
section
variable {w w' : World} {B n : Nat} {f : Int → Value} {adj : Int → List Int}
theorem GrpAt.lt (h : GrpAt w B n f adj) : ∀ k, GrpHas B f k → k < w.heap.size := by
  rintro k (rfl | ⟨x, e⟩)
  · exact h.map.lt
  · exact (h.row x).lt e
theorem GrpAt.turn {M : Nat → Prop} (h : GrpAt w B n f adj) (hT : Turn M w w') (hM : ∀ k, GrpHas B f k → ¬ M k) : GrpAt w' B n f adj :=
  ⟨h.map.turn hT (hM B (.inl rfl)), fun x => (h.row x).turn hT (fun k e => hM k (.inr ⟨x, e⟩)), h.apart⟩
theorem GrpAt.below (h : GrpAt w B n f adj) (hB : Below w.heap.size w w') : GrpAt w' B n f adj :=
  h.turn (Turn.ofBelow hB) (fun k hk e => by have := h.lt k hk; omega)
theorem GrpAt.made (w : World) : GrpAt (w.alloc (.map #[] 0)) w.heap.size 0 (fun _ => .slice none 0 0) (fun _ => []) :=
  ⟨MapSl.made w, fun x => World.ownsRow_nil _ _ _ _, fun x y k e => by cases e⟩
/-- A map's block is none of cells. -/
theorem GrpAt.farBlk (h : GrpAt w B n f adj) {b : Nat} {cs : Array Value} {T : TypeId} (hb : Blk w b cs T) : b ≠ B := fun e => by
  obtain ⟨o, h1, h2⟩ := h.map.block
  subst e
  unfold Blk at hb
  rw [hb] at h1
  cases h1
  cases h2
theorem GrpAt.farRow (h : GrpAt w B n f adj) {x : Int} {k : Nat} (e : (f x).ownBlock = some k) : k ≠ B := by
  obtain ⟨_, hb⟩ := (h.row x).own e
  exact h.farBlk hb
/-- None of its blocks is one of other cells. -/
theorem GrpAt.far (h : GrpAt w B n f adj) {b : Nat} {cs : Array Value} {T : TypeId} (hb : Blk w b cs T) (hT : T ≠ 39) : ¬ GrpHas B f b := by
  rintro (e | ⟨x, e⟩)
  · exact h.farBlk hb e
  · obtain ⟨_, hb2⟩ := (h.row x).own e
    exact blkT hb hb2 hT
/-- A row is another one: it lies where it lay, or in a new block. -/
theorem GrpAt.swap {w1 : World} {v : Value} {l : List Int} (h : GrpAt w B n f adj) (x : Int) (hT : Turn (fun k => (f x).ownBlock = some k) w w1) (hR : RefRow w1 v l) (hg : ∀ k, v.ownBlock = some k → (f x).ownBlock = some k ∨ w.heap.size ≤ k)
    (hs : MapSl w' B (n + 1) (updI f x v)) (hS : Turn (fun k => k = B) w1 w') : GrpAt w' B (n + 1) (updI f x v) (updI adj x l) := by
  have hnew : ∀ y k, y ≠ x → (f y).ownBlock = some k → v.ownBlock ≠ some k := fun y k hy e e2 => by
    rcases hg k e2 with e3 | e3
    · exact hy (h.apart y x k e e3)
    · have := (h.row y).lt e; omega
  have hBv : v.ownBlock ≠ some B := fun e => by
    rcases hg B e with e3 | e3
    · exact h.farRow e3 rfl
    · have := h.map.lt; omega
  refine ⟨hs, fun y => ?_, fun y z k => ?_⟩
  · by_cases e : y = x
    · rw [e, updI_at, updI_at]
      exact hR.turn hS (fun k e e2 => hBv ((show k = B from e2) ▸ e))
    · rw [updI_ne e, updI_ne e]
      exact ((h.row y).turn hT (fun k e1 e2 => e (h.apart y x k e1 e2))).turn hS (fun k e1 e2 => h.farRow e1 e2)
  · by_cases e : y = x
    · rw [e, updI_at]
      by_cases e' : z = x
      · rw [e']; exact fun _ _ => rfl
      · rw [updI_ne e']; exact fun h1 h2 => absurd h1 (hnew z k e' h2)
    · rw [updI_ne e]
      by_cases e' : z = x
      · rw [e', updI_at]; exact fun h1 h2 => absurd h2 (hnew y k e h1)
      · rw [updI_ne e']; exact h.apart y z k
end

/-- Block B is a map of numbers: at x it has f x; it has just the keys that K tells, c of them. -/
structure MapIn (w : World) (B n : Nat) (f : Int → Int) (K : Int → Bool) (c : Nat) : Prop where
  ex : ∃ D : DataW Unit, w.ownsMap Tryz.prog 39 (plainElem Tryz.prog 3) B n D ∧ (∀ x, (Lit.int .i64 x).wf = true → D.atKey (.int .i64 x) (.lit (.int .i64 0)) = .lit (.int .i64 (f x))) ∧
    (∀ x, (Lit.int .i64 x).wf = true → has D (.int .i64 x) = K x) ∧ size D = c
section
variable {w w' : World} {B n c : Nat} {f : Int → Int} {K : Int → Bool}
theorem MapIn.keep (h : MapIn w B n f K c) (hk : w'.heap[B]? = w.heap[B]?) : MapIn w' B n f K c := by
  obtain ⟨⟨D, ⟨es, clock, hb, r⟩, hf⟩⟩ := h
  exact ⟨⟨D, ⟨es, clock, hk.trans hb, r⟩, hf⟩⟩
theorem MapIn.block (h : MapIn w B n f K c) : ∃ o : Obj, w.heap[B]? = some o ∧ o.isCells = false := by
  obtain ⟨⟨D, ⟨es, clock, hb, r⟩, hf⟩⟩ := h
  exact ⟨_, hb, rfl⟩
theorem MapIn.lt (h : MapIn w B n f K c) : B < w.heap.size := by
  obtain ⟨o, h1, _⟩ := h.block
  exact (Array.getElem?_eq_some_iff.1 h1).1
theorem MapIn.turn {M : Nat → Prop} (h : MapIn w B n f K c) (hT : Turn M w w') (hM : ¬ M B) : MapIn w' B n f K c := h.keep (hT.block B h.lt hM)
theorem MapIn.farBlk (h : MapIn w B n f K c) {b : Nat} {cs : Array Value} {T : TypeId} (hb : Blk w b cs T) : b ≠ B := fun e => by
  obtain ⟨o, h1, h2⟩ := h.block
  subst e
  unfold Blk at hb
  rw [hb] at h1
  cases h1
  cases h2
theorem MapIn.made (w : World) : MapIn (w.alloc (.map #[] 0)) w.heap.size 0 (fun _ => 0) (fun _ => false) 0 :=
  ⟨⟨_, World.ownsMap_made _ _ _ _, fun x _ => rfl, fun x _ => rfl, rfl⟩⟩
theorem MapIn.look (h : MapIn w B n f K c) (x : Int) (hx : (Lit.int .i64 x).wf = true) :
    (Instr.lookup 37 (.map (some B)) (.int .i64 x) false).run Tryz.prog w = .ok (.int .i64 (f x)) w := by
  obtain ⟨⟨D, hD, hf, _⟩⟩ := h
  obtain ⟨c, hrun, hat, _⟩ := hD.lookup_int keyRef Tryz.underlying37 Tryz.underlying3 (zeroIntG _) (keyOf_int_mk Tryz.underlying39 hx)
  have e := (hf x hx).symm.trans hat
  cases e
  exact hrun
theorem MapIn.len (h : MapIn w B n f K c) (ty : TypeId) : (Builtin.len_ #[37] ty #[.map (some B)]).run Tryz.prog w = .ok (.int .i64 (c : Int)) w := by
  obtain ⟨⟨D, hD, _, _, hs⟩⟩ := h
  rw [← hs]; exact hD.len Tryz.underlying37 ty
theorem MapIn.store (h : MapIn w B n f K c) (hn : n < 9223372036854775807) (x : Int) (hx : (Lit.int .i64 x).wf = true) (v : Int) (hv : (Lit.int .i64 v).wf = true) :
    ∃ w', (Instr.mapUpdate 37 (.map (some B)) (.int .i64 x) (.int .i64 v)).run Tryz.prog w = .ok () w' ∧ MapIn w' B (n + 1) (updI f x v) (updI K x true) (if K x then c else c + 1) ∧ Turn (fun k => k = B) w w' := by
  obtain ⟨⟨D, hD, hf, hh, hs⟩⟩ := h
  have hM : IsMap D := hD.isMap
  have hTi : Tidy D := hD.tidy keyRef
  have hk : WideAt.IsKeyLit (Lit.int .i64 x) := by simp [WideAt.IsKeyLit]
  obtain ⟨w', hrun, h1, h2⟩ := hD.store keyRef Tryz.underlying37 hn (keyOf_int_mk Tryz.underlying39 hx) (plainElem_int (a := v) Tryz.underlying3 hv)
  refine ⟨w', hrun, ⟨⟨_, h1, fun y hy => ?_, fun y hy => ?_, ?_⟩⟩, (Turn.ofGrownM h2.grown).mono fun k _ e => ((Option.some.inj e).symm : k = B)⟩
  · by_cases e : y = x
    · subst e
      rw [Maps.atKey_put_same hM hk, updI_at]
    · rw [Maps.atKey_put_other (lit_neG e), hf y hy, updI_ne e]
  · by_cases e : y = x
    · subst e
      rw [has_put_same hM hk, updI_at]
    · rw [has_put_other (lit_neG e), hh y hy, updI_ne e]
  · rw [size_put hTi, hh x hx, hs]
end
end Go.Proofs.YtkjpeacnponcfaaGreatDoor
