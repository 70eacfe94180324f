/- Maps from references: to rows of references, and to numbers; at this seat's numbers. Plain: what some references lead to, found by a pile. It speaks of no program. Plain: colours, and scans. It speaks of no program. A marker in memory: its two sets, its stack; what its calls turn; at this seat's numbers. -/
import Derived.Test.YtidpmplkbgllfaaGreatDoorUa
import Derived.Maps.Own
import Derived.Maps.OwnOps
import Derived.Maps.Keyed
import Derived.Maps.Views
import Derived.Maps.OwnSet
import Derived.RangeFuncOwn
import Derived.Test.YtidpmplkbgllfaaGreatDoorUb
import Derived.Test.YtidpmplkbgllfaaGreatDoorUc
namespace Go.Proofs.YtidpmplkbgllfaaGreatDoor
open Go Go.RowKit Go.Maps
set_option linter.unusedSimpArgs false
set_option linter.unusedVariables false

theorem keyRef : Keyed Tryz.prog 41 := int_keyed Tryz.underlying41
theorem zeroRow (w : World) : (zeroValue 28).run Tryz.prog w = .ok (.slice none 0 0) w := by kernel_rfl
theorem zeroIntG (w : World) : (zeroValue 3).run Tryz.prog w = .ok (.int .i64 0) w := by kernel_rfl
theorem lit_neG {x y : Int} (h : y ≠ x) : Lit.int .i64 y ≠ Lit.int .i64 x := fun e => h (by injection e)

/-- What a row's slice reads as: where it lies. -/
def datR : Value → DataW Unit
  | .slice (some ⟨g, _, _⟩) n c => .agg [.lit (.int .i64 (g : Int)), .lit (.int .i64 (n : Int)), .lit (.int .i64 (c : Int))]
  | _ => .agg []
def rowElem : Value → Option (DataW Unit × List MemPlace)
  | .slice none 0 0 => some (.agg [], [])
  | .slice (some ⟨g, 0, none⟩) n c => some (.agg [.lit (.int .i64 (g : Int)), .lit (.int .i64 (n : Int)), .lit (.int .i64 (c : Int))], [])
  | _ => none
/-- Nothing, or a slice from a block's front on. -/
def IsRow (v : Value) : Prop := v = .slice none 0 0 ∨ ∃ g n c, v = .slice (some ⟨g, 0, none⟩) n c
theorem rowElem_mk {v : Value} (h : IsRow v) : rowElem v = some (datR v, []) := by
  rcases h with rfl | ⟨g, n, c, rfl⟩ <;> rfl
theorem rowElem_inv {v u : Value} {ps : List MemPlace} (hu : IsRow u) (h : rowElem v = some (datR u, ps)) : v = u := by
  unfold rowElem at h
  split at h
  · rcases hu with rfl | ⟨g, n, c, rfl⟩
    · rfl
    · simp [datR] at h
  · rcases hu with rfl | ⟨g, n, c, rfl⟩
    · simp [datR] at h
    · simp [datR] at h
      obtain ⟨⟨h1, h2, h3⟩, _⟩ := h
      have h1 := Int.ofNat.inj h1
      have h2 := Int.ofNat.inj h2
      have h3 := Int.ofNat.inj h3
      subst h1 h2 h3
      rfl
  · cases h
theorem RefRow.isRow {w : World} {v : Value} {l : List Int} (h : RefRow w v l) : IsRow v := by
  rcases h.is with ⟨rfl, _⟩ | ⟨g, cap, cur, rfl, _⟩
  · exact .inl rfl
  · exact .inr ⟨g, _, cap, rfl⟩

/-- Another value at one place. -/
def updI {α : Type} (f : Int → α) (x : Int) (v : α) : Int → α := fun y => if y = x then v else f y
theorem updI_at {α : Type} (f : Int → α) (x : Int) (v : α) : updI f x v x = v := if_pos rfl
theorem updI_ne {α : Type} {f : Int → α} {x y : Int} {v : α} (h : y ≠ x) : updI f x v y = f y := if_neg h

/-- Block B is a map that has f. -/
structure MapSl (w : World) (B n : Nat) (f : Int → Value) : Prop where
  ex : ∃ D : DataW Unit, w.ownsMap Tryz.prog 41 rowElem B n D ∧ ∀ x, (Lit.int .i64 x).wf = true → D.atKey (.int .i64 x) (datR (.slice none 0 0)) = datR (f x)
  rows : ∀ x, IsRow (f x)
section
variable {w w' : World} {B n : Nat} {f : Int → Value}
theorem MapSl.keep (h : MapSl w B n f) (hk : w'.heap[B]? = w.heap[B]?) : MapSl w' B n f := by
  obtain ⟨⟨D, ⟨es, clock, hb, r⟩, hf⟩, h2⟩ := h
  exact ⟨⟨D, ⟨es, clock, hk.trans hb, r⟩, hf⟩, h2⟩
theorem MapSl.block (h : MapSl w B n f) : ∃ o : Obj, w.heap[B]? = some o ∧ o.isCells = false := by
  obtain ⟨⟨D, ⟨es, clock, hb, r⟩, hf⟩, h2⟩ := h
  exact ⟨_, hb, rfl⟩
theorem MapSl.lt (h : MapSl w B n f) : B < w.heap.size := by
  obtain ⟨o, h1, _⟩ := h.block
  exact (Array.getElem?_eq_some_iff.1 h1).1
theorem MapSl.turn {M : Nat → Prop} (h : MapSl w B n f) (hT : Turn M w w') (hM : ¬ M B) : MapSl w' B n f := h.keep (hT.block B h.lt hM)
theorem MapSl.made (w : World) : MapSl (w.alloc (.map #[] 0)) w.heap.size 0 (fun _ => .slice none 0 0) :=
  ⟨⟨_, World.ownsMap_made _ _ _ _, fun x _ => rfl⟩, fun _ => .inl rfl⟩
theorem MapSl.look (h : MapSl w B n f) (x : Int) (hx : (Lit.int .i64 x).wf = true) :
    (Instr.lookup 29 (.map (some B)) (.int .i64 x) false).run Tryz.prog w = .ok (f x) w := by
  obtain ⟨⟨D, hD, hf⟩, h2⟩ := h
  obtain ⟨v, ps, hrun, hv⟩ := hD.lookup keyRef Tryz.underlying29 (zeroRow _) (rowElem_mk (.inl rfl)) (keyOf_int_mk Tryz.underlying41 hx)
  rw [hf x hx] at hv
  rw [rowElem_inv (h2 x) hv] at hrun
  exact hrun
theorem MapSl.store (h : MapSl w B n f) (hn : n < 9223372036854775807) (x : Int) (hx : (Lit.int .i64 x).wf = true) {v : Value} (hv : IsRow v) :
    ∃ w', (Instr.mapUpdate 29 (.map (some B)) (.int .i64 x) v).run Tryz.prog w = .ok () w' ∧ MapSl w' B (n + 1) (updI f x v) ∧ Turn (fun k => k = B) w w' := by
  obtain ⟨⟨D, hD, hf⟩, h2⟩ := h
  have hM : IsMap D := hD.isMap
  have hk : WideAt.IsKeyLit (Lit.int .i64 x) := by simp [WideAt.IsKeyLit]
  obtain ⟨w', hrun, h1, h3⟩ := hD.store keyRef Tryz.underlying29 hn (keyOf_int_mk Tryz.underlying41 hx) (rowElem_mk hv)
  refine ⟨w', hrun, ⟨⟨_, h1, fun y hy => ?_⟩, fun y => ?_⟩, (Turn.ofGrownM h3.grown).mono fun k _ e => ((Option.some.inj e).symm : k = B)⟩
  · by_cases e : y = x
    · subst e
      rw [Maps.atKey_put_same hM hk, updI_at]
    · rw [Maps.atKey_put_other (lit_neG e), hf y hy, updI_ne e]
  · by_cases e : y = x
    · rw [e, updI_at]; exact hv
    · rw [updI_ne e]; exact h2 y
end

/-- A map of rows, each in a block of its own. -/
structure GrpAt (w : World) (B n : Nat) (f : Int → Value) (adj : Int → List Int) : Prop where
  map : MapSl w B n f
  row : ∀ x, RefRow w (f x) (adj x)
  apart : ∀ x y k, (f x).ownBlock = some k → (f y).ownBlock = some k → x = y
def GrpHas (B : Nat) (f : Int → Value) (k : Nat) : Prop := k = B ∨ ∃ x, (f x).ownBlock = some k
section
variable {w w' : World} {B n : Nat} {f : Int → Value} {adj : Int → List Int}
theorem GrpAt.lt (h : GrpAt w B n f adj) : ∀ k, GrpHas B f k → k < w.heap.size := by
  rintro k (rfl | ⟨x, e⟩)
  · exact h.map.lt
  · exact (h.row x).lt e
theorem GrpAt.turn {M : Nat → Prop} (h : GrpAt w B n f adj) (hT : Turn M w w') (hM : ∀ k, GrpHas B f k → ¬ M k) : GrpAt w' B n f adj :=
  ⟨h.map.turn hT (hM B (.inl rfl)), fun x => (h.row x).turn hT (fun k e => hM k (.inr ⟨x, e⟩)), h.apart⟩
theorem GrpAt.below (h : GrpAt w B n f adj) (hB : Below w.heap.size w w') : GrpAt w' B n f adj :=
  h.turn (Turn.ofBelow hB) (fun k hk e => by have := h.lt k hk; omega)
theorem GrpAt.made (w : World) : GrpAt (w.alloc (.map #[] 0)) w.heap.size 0 (fun _ => .slice none 0 0) (fun _ => []) :=
  ⟨MapSl.made w, fun x => World.ownsRow_nil _ _ _ _, fun x y k e => by cases e⟩
/-- A map's block is none of cells. -/
theorem GrpAt.farBlk (h : GrpAt w B n f adj) {b : Nat} {cs : Array Value} {T : TypeId} (hb : Blk w b cs T) : b ≠ B := fun e => by
  obtain ⟨o, h1, h2⟩ := h.map.block
  subst e
  unfold Blk at hb
  rw [hb] at h1
  cases h1
  cases h2
theorem GrpAt.farRow (h : GrpAt w B n f adj) {x : Int} {k : Nat} (e : (f x).ownBlock = some k) : k ≠ B := by
  obtain ⟨_, hb⟩ := (h.row x).own e
  exact h.farBlk hb
/-- None of its blocks is one of other cells. -/
theorem GrpAt.far (h : GrpAt w B n f adj) {b : Nat} {cs : Array Value} {T : TypeId} (hb : Blk w b cs T) (hT : T ≠ 41) : ¬ GrpHas B f b := by
  rintro (e | ⟨x, e⟩)
  · exact h.farBlk hb e
  · obtain ⟨_, hb2⟩ := (h.row x).own e
    exact blkT hb hb2 hT
/-- A row is another one: it lies where it lay, or in a new block. -/
theorem GrpAt.swap {w1 : World} {v : Value} {l : List Int} (h : GrpAt w B n f adj) (x : Int) (hT : Turn (fun k => (f x).ownBlock = some k) w w1) (hR : RefRow w1 v l) (hg : ∀ k, v.ownBlock = some k → (f x).ownBlock = some k ∨ w.heap.size ≤ k)
    (hs : MapSl w' B (n + 1) (updI f x v)) (hS : Turn (fun k => k = B) w1 w') : GrpAt w' B (n + 1) (updI f x v) (updI adj x l) := by
  have hnew : ∀ y k, y ≠ x → (f y).ownBlock = some k → v.ownBlock ≠ some k := fun y k hy e e2 => by
    rcases hg k e2 with e3 | e3
    · exact hy (h.apart y x k e e3)
    · have := (h.row y).lt e; omega
  have hBv : v.ownBlock ≠ some B := fun e => by
    rcases hg B e with e3 | e3
    · exact h.farRow e3 rfl
    · have := h.map.lt; omega
  refine ⟨hs, fun y => ?_, fun y z k => ?_⟩
  · by_cases e : y = x
    · rw [e, updI_at, updI_at]
      exact hR.turn hS (fun k e e2 => hBv ((show k = B from e2) ▸ e))
    · rw [updI_ne e, updI_ne e]
      exact ((h.row y).turn hT (fun k e1 e2 => e (h.apart y x k e1 e2))).turn hS (fun k e1 e2 => h.farRow e1 e2)
  · by_cases e : y = x
    · rw [e, updI_at]
      by_cases e' : z = x
      · rw [e']; exact fun _ _ => rfl
      · rw [updI_ne e']; exact fun h1 h2 => absurd h1 (hnew z k e' h2)
    · rw [updI_ne e]
      by_cases e' : z = x
      · rw [e', updI_at]; exact fun h1 h2 => absurd h2 (hnew y k e h1)
      · rw [updI_ne e']; exact h.apart y z k
end

/-- Block B is a map of numbers: at x it has f x; it has just the keys that K tells, c of them. -/
structure MapIn (w : World) (B n : Nat) (f : Int → Int) (K : Int → Bool) (c : Nat) : Prop where
  ex : ∃ D : DataW Unit, w.ownsMap Tryz.prog 41 (plainElem Tryz.prog 3) B n D ∧ (∀ x, (Lit.int .i64 x).wf = true → D.atKey (.int .i64 x) (.lit (.int .i64 0)) = .lit (.int .i64 (f x))) ∧
    (∀ x, (Lit.int .i64 x).wf = true → has D (.int .i64 x) = K x) ∧ size D = c
section
variable {w w' : World} {B n c : Nat} {f : Int → Int} {K : Int → Bool}
theorem MapIn.keep (h : MapIn w B n f K c) (hk : w'.heap[B]? = w.heap[B]?) : MapIn w' B n f K c := by
  obtain ⟨⟨D, ⟨es, clock, hb, r⟩, hf⟩⟩ := h
  exact ⟨⟨D, ⟨es, clock, hk.trans hb, r⟩, hf⟩⟩
theorem MapIn.block (h : MapIn w B n f K c) : ∃ o : Obj, w.heap[B]? = some o ∧ o.isCells = false := by
  obtain ⟨⟨D, ⟨es, clock, hb, r⟩, hf⟩⟩ := h
  exact ⟨_, hb, rfl⟩
theorem MapIn.lt (h : MapIn w B n f K c) : B < w.heap.size := by
  obtain ⟨o, h1, _⟩ := h.block
  exact (Array.getElem?_eq_some_iff.1 h1).1
theorem MapIn.turn {M : Nat → Prop} (h : MapIn w B n f K c) (hT : Turn M w w') (hM : ¬ M B) : MapIn w' B n f K c := h.keep (hT.block B h.lt hM)
theorem MapIn.farBlk (h : MapIn w B n f K c) {b : Nat} {cs : Array Value} {T : TypeId} (hb : Blk w b cs T) : b ≠ B := fun e => by
  obtain ⟨o, h1, h2⟩ := h.block
  subst e
  unfold Blk at hb
  rw [hb] at h1
  cases h1
  cases h2
theorem MapIn.made (w : World) : MapIn (w.alloc (.map #[] 0)) w.heap.size 0 (fun _ => 0) (fun _ => false) 0 :=
  ⟨⟨_, World.ownsMap_made _ _ _ _, fun x _ => rfl, fun x _ => rfl, rfl⟩⟩
theorem MapIn.look (h : MapIn w B n f K c) (x : Int) (hx : (Lit.int .i64 x).wf = true) :
    (Instr.lookup 37 (.map (some B)) (.int .i64 x) false).run Tryz.prog w = .ok (.int .i64 (f x)) w := by
  obtain ⟨⟨D, hD, hf, _⟩⟩ := h
  obtain ⟨c, hrun, hat, _⟩ := hD.lookup_int keyRef Tryz.underlying37 Tryz.underlying3 (zeroIntG _) (keyOf_int_mk Tryz.underlying41 hx)
  have e := (hf x hx).symm.trans hat
  cases e
  exact hrun
theorem MapIn.len (h : MapIn w B n f K c) (ty : TypeId) : (Builtin.len_ #[37] ty #[.map (some B)]).run Tryz.prog w = .ok (.int .i64 (c : Int)) w := by
  obtain ⟨⟨D, hD, _, _, hs⟩⟩ := h
  rw [← hs]; exact hD.len Tryz.underlying37 ty
theorem MapIn.store (h : MapIn w B n f K c) (hn : n < 9223372036854775807) (x : Int) (hx : (Lit.int .i64 x).wf = true) (v : Int) (hv : (Lit.int .i64 v).wf = true) :
    ∃ w', (Instr.mapUpdate 37 (.map (some B)) (.int .i64 x) (.int .i64 v)).run Tryz.prog w = .ok () w' ∧ MapIn w' B (n + 1) (updI f x v) (updI K x true) (if K x then c else c + 1) ∧ Turn (fun k => k = B) w w' := by
  obtain ⟨⟨D, hD, hf, hh, hs⟩⟩ := h
  have hM : IsMap D := hD.isMap
  have hTi : Tidy D := hD.tidy keyRef
  have hk : WideAt.IsKeyLit (Lit.int .i64 x) := by simp [WideAt.IsKeyLit]
  obtain ⟨w', hrun, h1, h2⟩ := hD.store keyRef Tryz.underlying37 hn (keyOf_int_mk Tryz.underlying41 hx) (plainElem_int (a := v) Tryz.underlying3 hv)
  refine ⟨w', hrun, ⟨⟨_, h1, fun y hy => ?_, fun y hy => ?_, ?_⟩⟩, (Turn.ofGrownM h2.grown).mono fun k _ e => ((Option.some.inj e).symm : k = B)⟩
  · by_cases e : y = x
    · subst e
      rw [Maps.atKey_put_same hM hk, updI_at]
    · rw [Maps.atKey_put_other (lit_neG e), hf y hy, updI_ne e]
  · by_cases e : y = x
    · subst e
      rw [has_put_same hM hk, updI_at]
    · rw [has_put_other (lit_neG e), hh y hy, updI_ne e]
  · rw [size_put hTi, hh x hx, hs]
end
end Go.Proofs.YtidpmplkbgllfaaGreatDoor

namespace Go.Proofs.YtidpmplkbgllfaaGreatDoor
set_option linter.unusedSimpArgs false
set_option linter.unusedVariables false

/-- x is led to. -/
inductive Rch (fr : List Int) (adj : Int → List Int) : Int → Prop
  | root {x : Int} : x ∈ fr → x ≠ 0 → Rch fr adj x
  | step {x y : Int} : Rch fr adj x → y ∈ adj x → y ≠ 0 → Rch fr adj y
/-- How many are told of those of l that aren't in vis. -/
def restI (adj : Int → List Int) (vis : List Int) : List Int → Nat
  | [] => 0
  | x :: l => (if x ∈ vis then 0 else (adj x).length) + restI adj vis l
theorem restI_same (adj : Int → List Int) (vis : List Int) (x : Int) : ∀ l, x ∉ l → restI adj (x :: vis) l = restI adj vis l
  | [], _ => rfl
  | y :: l, h => by
    have hy : y ≠ x := fun e => h (by rw [e]; exact List.mem_cons_self)
    have ih := restI_same adj vis x l (fun e => h (List.mem_cons_of_mem _ e))
    unfold restI
    rw [ih]
    congr 1
    by_cases e : y ∈ vis
    · rw [if_pos e, if_pos (List.mem_cons_of_mem _ e)]
    · rw [if_neg e, if_neg (fun e2 => by rcases List.mem_cons.1 e2 with e3 | e3; exact hy e3; exact e e3)]
theorem restI_cons (adj : Int → List Int) (vis : List Int) (x : Int) (hx : x ∉ vis) : ∀ l : List Int, l.Nodup → x ∈ l → restI adj (x :: vis) l + (adj x).length = restI adj vis l
  | [], _, h => by cases h
  | y :: l, hn, h => by
    obtain ⟨h1, h2⟩ := List.nodup_cons.1 hn
    unfold restI
    by_cases e : y = x
    · subst e
      rw [if_pos List.mem_cons_self, if_neg hx, restI_same adj vis y l h1]
      omega
    · have hm : x ∈ l := by
        rcases List.mem_cons.1 h with e2 | e2
        · exact absurd e2.symm e
        · exact e2
      have ih := restI_cons adj vis x hx l h2 hm
      by_cases e3 : y ∈ vis
      · rw [if_pos e3, if_pos (List.mem_cons_of_mem _ e3)]; omega
      · rw [if_neg e3, if_neg (fun e2 => by rcases List.mem_cons.1 e2 with e4 | e4; exact e e4; exact e3 e4)]; omega
theorem restI_nil_le (adj : Int → List Int) (m : Nat) : ∀ l : List Int, (∀ x ∈ l, (adj x).length ≤ m) → restI adj [] l ≤ m * l.length
  | [], _ => by simp [restI]
  | x :: l, h => by
    have ih := restI_nil_le adj m l fun y hy => h y (List.mem_cons_of_mem _ hy)
    have := h x List.mem_cons_self
    unfold restI
    rw [if_neg (by simp), List.length_cons, Nat.mul_succ]
    omega
/-- Between two pops: what was met, and the pile. -/
structure Dfs (ns fr : List Int) (adj : Int → List Int) (vis st : List Int) (g : Nat) : Prop where
  nod : vis.Nodup
  vin : ∀ x ∈ vis, x ∈ ns ∧ x ≠ 0
  sound : ∀ x, (x ∈ vis ∨ x ∈ st) → x = 0 ∨ Rch fr adj x
  roots : ∀ x ∈ fr, x = 0 ∨ x ∈ vis ∨ x ∈ st
  closed : ∀ x ∈ vis, ∀ y ∈ adj x, y = 0 ∨ y ∈ vis ∨ y ∈ st
  inn : ∀ x ∈ st, x = 0 ∨ x ∈ ns
  num : g = st.length + restI adj vis ns
section
variable {ns fr vis q : List Int} {adj : Int → List Int} {g : Nat} {x : Int}
theorem Dfs.start (h : ∀ x ∈ fr, x = 0 ∨ x ∈ ns) : Dfs ns fr adj [] fr (fr.length + restI adj [] ns) :=
  ⟨List.nodup_nil, fun x h => (by cases h), fun x hx => by
    rcases hx with hx | hx
    · cases hx
    · by_cases e : x = 0
      · exact .inl e
      · exact .inr (.root hx e), fun x hx => .inr (.inr hx), fun x h => (by cases h), h, rfl⟩
theorem Dfs.skip (h : Dfs ns fr adj vis (q ++ [x]) g) (hx : x = 0 ∨ x ∈ vis) : ∃ g', g' < g ∧ Dfs ns fr adj vis q g' := by
  have cut : ∀ y, (y = 0 ∨ y ∈ vis ∨ y ∈ q ++ [x]) → y = 0 ∨ y ∈ vis ∨ y ∈ q := fun y hy => by
    rcases hy with e | e | e
    · exact .inl e
    · exact .inr (.inl e)
    · rcases List.mem_append.1 e with e | e
      · exact .inr (.inr e)
      · have e2 : y = x := by simpa using e
        rw [e2]
        rcases hx with e3 | e3
        · exact .inl e3
        · exact .inr (.inl e3)
  refine ⟨q.length + restI adj vis ns, by have := h.num; rw [List.length_append] at this; simp at this; omega, h.nod, h.vin, fun y hy => h.sound y ?_, fun y hy => cut y (h.roots y hy), fun y hy z hz => cut z (h.closed y hy z hz), fun y hy => h.inn y (List.mem_append.2 (.inl hy)), rfl⟩
  rcases hy with e | e
  · exact .inl e
  · exact .inr (List.mem_append.2 (.inl e))
theorem Dfs.visit (h : Dfs ns fr adj vis (q ++ [x]) g) (hn : ns.Nodup) (ha : ∀ y ∈ adj x, y = 0 ∨ y ∈ ns) (h0 : x ≠ 0) (hv : x ∉ vis) : ∃ g', g' < g ∧ Dfs ns fr adj (x :: vis) (q ++ adj x) g' := by
  have hxn : x ∈ ns := by
    rcases h.inn x (List.mem_append.2 (.inr (by simp))) with e | e
    · exact absurd e h0
    · exact e
  have hxr : Rch fr adj x := by
    rcases h.sound x (.inr (List.mem_append.2 (.inr (by simp)))) with e | e
    · exact absurd e h0
    · exact e
  have hr := restI_cons adj vis x hv ns hn hxn
  have cut : ∀ y, (y = 0 ∨ y ∈ vis ∨ y ∈ q ++ [x]) → y = 0 ∨ y ∈ x :: vis ∨ y ∈ q ++ adj x := fun y hy => by
    rcases hy with e | e | e
    · exact .inl e
    · exact .inr (.inl (List.mem_cons_of_mem _ e))
    · rcases List.mem_append.1 e with e | e
      · exact .inr (.inr (List.mem_append.2 (.inl e)))
      · have e2 : y = x := by simpa using e
        rw [e2]; exact .inr (.inl List.mem_cons_self)
  refine ⟨(q ++ adj x).length + restI adj (x :: vis) ns, by have := h.num; rw [List.length_append] at this ⊢; simp at this; omega, List.nodup_cons.2 ⟨hv, h.nod⟩, fun y hy => ?_, fun y hy => ?_, fun y hy => cut y (h.roots y hy), fun y hy z hz => ?_, fun y hy => ?_, rfl⟩
  · rcases List.mem_cons.1 hy with e | e
    · rw [e]; exact ⟨hxn, h0⟩
    · exact h.vin y e
  · rcases hy with e | e
    · rcases List.mem_cons.1 e with e | e
      · rw [e]; exact .inr hxr
      · exact h.sound y (.inl e)
    · rcases List.mem_append.1 e with e | e
      · exact h.sound y (.inr (List.mem_append.2 (.inl e)))
      · by_cases e0 : y = 0
        · exact .inl e0
        · exact .inr (.step hxr e e0)
  · rcases List.mem_cons.1 hy with e | e
    · rw [e] at hz; exact .inr (.inr (List.mem_append.2 (.inr hz)))
    · exact cut z (h.closed y e z hz)
  · rcases List.mem_append.1 hy with e | e
    · exact h.inn y (List.mem_append.2 (.inl e))
    · exact ha y e
theorem Dfs.done (h : Dfs ns fr adj vis [] g) (y : Int) : y ∈ vis ↔ Rch fr adj y := by
  constructor
  · intro hy
    rcases h.sound y (.inl hy) with e | e
    · exact absurd e (h.vin y hy).2
    · exact e
  · intro hy
    induction hy with
    | root h1 h2 =>
      rcases h.roots _ h1 with e | e | e
      · exact absurd e h2
      · exact e
      · cases e
    | step h1 h2 h3 ih =>
      rcases h.closed _ ih _ h2 with e | e | e
      · exact absurd e h3
      · exact e
      · cases e
theorem Dfs.few {st : List Int} (h : Dfs ns fr adj vis st g) : st.length ≤ g := by have := h.num; omega
theorem nodup_sub : ∀ {l m : List Int}, l.Nodup → (∀ x ∈ l, x ∈ m) → l.length ≤ m.length
  | [], m, _, _ => Nat.zero_le _
  | x :: l, m, hn, h => by
    obtain ⟨h1, h2⟩ := List.nodup_cons.1 hn
    have hx : x ∈ m := h x List.mem_cons_self
    have e : (m.erase x).length + 1 = m.length := by have := List.length_erase_of_mem hx; have := List.length_pos_of_mem hx; omega
    have := nodup_sub (m := m.erase x) h2 fun y hy => by
      have hne : y ≠ x := fun e => h1 (e ▸ hy)
      exact (List.mem_erase_of_ne hne).2 (h y (List.mem_cons_of_mem _ hy))
    rw [List.length_cons]; omega
end
end Go.Proofs.YtidpmplkbgllfaaGreatDoor

namespace Go.Proofs.YtidpmplkbgllfaaGreatDoor
open Go Go.RowKit
set_option linter.unusedSimpArgs false
set_option linter.unusedVariables false

/-- What is marked, and what is scanned. -/
structure Col where
  ma : Int → Bool
  sc : Int → Bool
def Col.white : Col := ⟨fun _ => false, fun _ => false⟩
def Col.shade (c : Col) (x : Int) : Col := ⟨updI c.ma x true, c.sc⟩
def Col.black (c : Col) (x : Int) : Col := ⟨updI c.ma x true, updI c.sc x true⟩
def Col.regrey (c : Col) (x : Int) : Col := ⟨c.ma, updI c.sc x false⟩
def Col.forget (c : Col) (x : Int) : Col := ⟨updI c.ma x false, updI c.sc x false⟩
def Col.scan (P : Int → List Int) (c : Col) (x : Int) : Col := ⟨fun y => c.ma y || decide (y ∈ P x), updI c.sc x true⟩
/-- None is grey. -/
def Col.dry (c : Col) : Prop := ∀ x, c.ma x = true → c.sc x = true
/-- So many scans, one behind the other. -/
inductive Scans (P : Int → List Int) : Col → List Int → Col → Prop
  | nil (c : Col) : Scans P c [] c
  | cons {c c' : Col} {x : Int} {l : List Int} : c.ma x = true → c.sc x = false → Scans P (c.scan P x) l c' → Scans P c (x :: l) c'
theorem Scans.trans {P : Int → List Int} {c c' c2 : Col} {l l' : List Int} (h : Scans P c l c') (k : Scans P c' l' c2) : Scans P c (l ++ l') c2 := by
  induction h with
  | nil c => exact k
  | cons h1 h2 _ ih => exact .cons h1 h2 (ih k)
/-- What holds while objects are shaded, and scanned. -/
structure Tri (P : Int → List Int) (fr : List Int) (c : Col) (ord : List Int) : Prop where
  sub : ∀ x, c.sc x = true → c.ma x = true
  clo : ∀ x, c.sc x = true → ∀ y ∈ P x, c.ma y = true
  snd : ∀ x, c.ma x = true → Rch fr P x
  nod : ord.Nodup
  ord : ∀ x, c.sc x = true ↔ x ∈ ord
  rts : ∀ x ∈ fr, x ≠ 0 → c.ma x = true
theorem Rch.more {fr fr' : List Int} {P : Int → List Int} {x : Int} (h : Rch fr P x) (hs : ∀ y ∈ fr, y ∈ fr') : Rch fr' P x := by
  induction h with
  | root h1 h2 => exact .root (hs _ h1) h2
  | step _ h2 h3 ih => exact .step ih h2 h3
section
variable {P : Int → List Int} {fr ord l : List Int} {c c' : Col} {x : Int}
theorem good_white : Tri P [] Col.white [] := ⟨fun x h => (by cases h), fun x h => (by cases h), fun x h => (by cases h), List.nodup_nil, fun x => ⟨fun h => (by cases h), fun h => (by cases h)⟩, fun x h => (by cases h)⟩
theorem Tri.shade (h : Tri P fr c ord) (hx : x ≠ 0) : Tri P (fr ++ [x]) (c.shade x) ord := by
  have hm : ∀ y, c.ma y = true → (c.shade x).ma y = true := fun y hy => by
    show updI c.ma x true y = true
    by_cases e : y = x
    · rw [e, updI_at]
    · rw [updI_ne e]; exact hy
  refine ⟨fun y hy => hm y (h.sub y hy), fun y hy z hz => hm z (h.clo y hy z hz), fun y hy => ?_, h.nod, h.ord, fun y hy h0 => ?_⟩
  · by_cases e : y = x
    · rw [e]; exact .root (by simp) hx
    · have hy2 : updI c.ma x true y = true := hy
      rw [updI_ne e] at hy2
      exact (h.snd y hy2).more fun z hz => List.mem_append.2 (.inl hz)
  · rcases List.mem_append.1 hy with e | e
    · exact hm y (h.rts y e h0)
    · have e2 : y = x := by simpa using e
      rw [e2]
      show updI c.ma x true x = true
      exact updI_at _ _ _
theorem Tri.skip (h : Tri P fr c ord) (hx : c.ma x = true ∨ x = 0) : Tri P (fr ++ [x]) c ord :=
  ⟨h.sub, h.clo, fun y hy => (h.snd y hy).more fun z hz => List.mem_append.2 (.inl hz), h.nod, h.ord, fun y hy h0 => by
    rcases List.mem_append.1 hy with e | e
    · exact h.rts y e h0
    · have e2 : y = x := by simpa using e
      rw [e2] at h0 ⊢
      rcases hx with e3 | e3
      · exact e3
      · exact absurd e3 h0⟩
theorem Tri.scan (h : Tri P fr c ord) (h0 : ∀ y ∈ P x, y ≠ 0) (hm : c.ma x = true) (hs : c.sc x = false) : Tri P fr (c.scan P x) (ord ++ [x]) := by
  have hmk : ∀ y, c.ma y = true → (c.scan P x).ma y = true := fun y hy => by show (c.ma y || _) = true; rw [hy]; rfl
  have hP : ∀ y ∈ P x, (c.scan P x).ma y = true := fun y hy => by show (c.ma y || decide (y ∈ P x)) = true; rw [decide_eq_true hy]; simp
  have cut : ∀ y, (c.scan P x).sc y = true → y = x ∨ c.sc y = true := fun y hy => by
    have hy2 : updI c.sc x true y = true := hy
    by_cases e : y = x
    · exact .inl e
    · rw [updI_ne e] at hy2; exact .inr hy2
  have hxo : x ∉ ord := fun e => by have := (h.ord x).2 e; rw [hs] at this; cases this
  refine ⟨fun y hy => ?_, fun y hy z hz => ?_, fun y hy => ?_, ?_, fun y => ?_, fun y hy h1 => hmk y (h.rts y hy h1)⟩
  · rcases cut y hy with e | e
    · rw [e]; exact hmk x hm
    · exact hmk y (h.sub y e)
  · rcases cut y hy with e | e
    · rw [e] at hz; exact hP z hz
    · exact hmk z (h.clo y e z hz)
  · have hy2 : (c.ma y || decide (y ∈ P x)) = true := hy
    cases e : c.ma y with
    | true => exact h.snd y e
    | false =>
      rw [e] at hy2
      have e2 : y ∈ P x := by simpa using hy2
      exact .step (h.snd x hm) e2 (h0 y e2)
  · exact List.nodup_append.2 ⟨h.nod, by simp, fun a ha b hb e => by
      have e2 : b = x := by simpa using hb
      rw [e2] at e; exact hxo (e ▸ ha)⟩
  · constructor
    · intro hy
      rcases cut y hy with e | e
      · rw [e]; simp
      · exact List.mem_append.2 (.inl ((h.ord y).1 e))
    · intro hy
      show updI c.sc x true y = true
      by_cases e : y = x
      · rw [e, updI_at]
      · rw [updI_ne e]
        rcases List.mem_append.1 hy with e2 | e2
        · exact (h.ord y).2 e2
        · exact absurd (by simpa using e2) e
theorem Tri.scans (h : Tri P fr c ord) (h0 : ∀ x, ∀ y ∈ P x, y ≠ 0) (hs : Scans P c l c') : Tri P fr c' (ord ++ l) := by
  induction hs generalizing ord with
  | nil c => rw [List.append_nil]; exact h
  | cons h1 h2 _ ih =>
    have := ih (h.scan (h0 _) h1 h2)
    rwa [List.append_assoc] at this
/-- In the end. -/
theorem Tri.dry (h : Tri P fr c ord) (hd : c.dry) (y : Int) : c.ma y = true ↔ Rch fr P y := by
  constructor
  · exact h.snd y
  · intro hy
    induction hy with
    | root h1 h2 => exact h.rts _ h1 h2
    | step _ h2 _ ih => exact h.clo _ (hd _ ih) _ h2
theorem Tri.ordDry (h : Tri P fr c ord) (hd : c.dry) (y : Int) : y ∈ ord ↔ Rch fr P y :=
  ⟨fun e => (h.dry hd y).1 (h.sub y ((h.ord y).2 e)), fun e => (h.ord y).1 (hd y ((h.dry hd y).2 e))⟩
end
theorem same_length {l m : List Int} (hl : l.Nodup) (hm : m.Nodup) (h : ∀ x, x ∈ l ↔ x ∈ m) : l.length = m.length :=
  Nat.le_antisymm (nodup_sub hl fun x hx => (h x).1 hx) (nodup_sub hm fun x hx => (h x).2 hx)
end Go.Proofs.YtidpmplkbgllfaaGreatDoor

namespace Go.Proofs.YtidpmplkbgllfaaGreatDoor
open Go Go.RowKit Go.Shelf
set_option linter.unusedSimpArgs false
set_option linter.unusedVariables false

/-- The blocks of a marker: itself, the set of what is marked, the set of what is scanned, the stack. -/
structure MkB where
  m : Nat
  b : Nat
  lo : Option Nat
  b2 : Nat
  lo2 : Option Nat
  g : GrB
  n : Nat
def MkB.has (T : MkB) (k : Nat) : Prop := k = T.m ∨ (k = T.b ∨ T.lo = some k) ∨ (k = T.b2 ∨ T.lo2 = some k) ∨ T.g.has k
def mkArr (T : MkB) (xa : Nat) : Array Value := #[.pointer (some ⟨xa, 0, none⟩), .pointer (some ⟨T.b, 0, none⟩), .pointer (some ⟨T.b2, 0, none⟩), .pointer (some ⟨T.g.s, 0, none⟩)]
structure MkMem (w : World) (T : MkB) (xa : Nat) (S S2 : Nat → Bool) (room : Int) (st : List Int) (ov : Bool) : Prop where
  head : Blk w T.m (mkArr T xa) 68
  s1 : SetAt w T.b T.lo T.n S
  s2 : SetAt w T.b2 T.lo2 T.n S2
  gr : GrAt w T.g room st ov
  sep : Sep T.b T.lo T.b2 T.lo2
/-- What a call on a marker has turned. -/
structure MkStep (T : MkB) (w : World) (T' : MkB) (w' : World) : Prop where
  m : T'.m = T.m
  n : T'.n = T.n
  new : ∀ k, T'.has k → T.has k ∨ w.heap.size ≤ k
  turn : Turn T.has w w'
theorem MkStep.refl (T : MkB) (w : World) : MkStep T w T w := ⟨rfl, rfl, fun k h => .inl h, Turn.refl _ _⟩
theorem MkStep.trans {T T' T2 : MkB} {w w' w2 : World} (h : MkStep T w T' w') (k : MkStep T' w' T2 w2) : MkStep T w T2 w2 := by
  have hs := h.turn.size
  refine ⟨k.m.trans h.m, k.n.trans h.n, fun i hi => ?_, h.turn.trans k.turn fun i hi e => ?_⟩
  · rcases k.new i hi with e | e
    · exact h.new i e
    · exact .inr (by omega)
  · rcases h.new i e with e2 | e2
    · exact e2
    · omega
theorem MkStep.ofBelow {T : MkB} {w w' : World} (hB : Below w.heap.size w w') : MkStep T w T w' := ⟨rfl, rfl, fun k h => .inl h, (Turn.ofBelow hB).mono fun i hi e => absurd hi (by omega)⟩
theorem MkStep.below {T T' : MkB} {w w1 w' : World} (hB : Below w.heap.size w w1) (h : MkStep T w1 T' w') : MkStep T w T' w' := (MkStep.ofBelow hB).trans h
theorem MkStep.then_ {T T' : MkB} {w w1 w' : World} (h : MkStep T w T' w1) (hB : Below w1.heap.size w1 w') : MkStep T w T' w' := h.trans (MkStep.ofBelow hB)

theorem SetAt.farT {w : World} {b : Nat} {lo : Option Nat} {n : Nat} {S : Nat → Bool} {k : Nat} {cs : Array Value} {X : TypeId} (h : SetAt w b lo n S) (hb : Blk w k cs X) (h1 : X ≠ 116) (h2 : X ≠ 150) : ¬ (k = b ∨ lo = some k) := by
  rintro (e | e)
  · obtain ⟨d, l, hB⟩ := h.2.2.blk
    rw [e] at hb; exact blk_types hb hB h1
  · obtain ⟨_, _, h5⟩ := h
    rw [e] at h5
    obtain ⟨_, _, ws, h6, _⟩ := h5
    exact blk_types hb h6 h2
theorem GrAt.farT {w : World} {T : GrB} {room : Int} {st : List Int} {ov : Bool} {k : Nat} {cs : Array Value} {X : TypeId} (h : GrAt w T room st ov) (hb : Blk w k cs X) (h1 : X ≠ 118) (h2 : X ≠ 41) : ¬ T.has k := by
  rintro (e | e)
  · rw [e] at hb; exact blk_types hb h.head h1
  · obtain ⟨_, h6⟩ := h.stk.own e
    exact blk_types hb h6 h2
theorem SetAt.farG {w : World} {b : Nat} {lo : Option Nat} {n : Nat} {S : Nat → Bool} {T : GrB} {room : Int} {st : List Int} {ov : Bool} (h : SetAt w b lo n S) (hg : GrAt w T room st ov) : ∀ k, T.has k → ¬ (k = b ∨ lo = some k) := by
  rintro k (e | e)
  · exact h.farT (e ▸ hg.head) (by decide) (by decide)
  · obtain ⟨_, h6⟩ := hg.stk.own e
    exact h.farT h6 (by decide) (by decide)
section
variable {w w' : World} {T : MkB} {xa : Nat} {S S2 : Nat → Bool} {room : Int} {st : List Int} {ov : Bool}
theorem MkMem.lt (h : MkMem w T xa S S2 room st ov) : ∀ k, T.has k → k < w.heap.size := by
  rintro k (e | (e | e) | (e | e) | e)
  · rw [e]; exact h.head.lt
  · rw [e]; exact h.s1.lt.1
  · exact h.s1.lt.2 k e
  · rw [e]; exact h.s2.lt.1
  · exact h.s2.lt.2 k e
  · exact h.gr.lt k e
theorem MkMem.turn {M : Nat → Prop} (h : MkMem w T xa S S2 room st ov) (hT : Turn M w w') (hn : ∀ k, T.has k → ¬ M k) : MkMem w' T xa S S2 room st ov :=
  ⟨h.head.turn hT (hn _ (.inl rfl)), h.s1.turn hT (hn _ (.inr (.inl (.inl rfl)))) (fun l e => hn l (.inr (.inl (.inr e)))), h.s2.turn hT (hn _ (.inr (.inr (.inl (.inl rfl))))) (fun l e => hn l (.inr (.inr (.inl (.inr e))))),
    h.gr.turn hT (fun k e => hn k (.inr (.inr (.inr e)))), h.sep⟩
theorem MkMem.below (h : MkMem w T xa S S2 room st ov) (hB : Below w.heap.size w w') : MkMem w' T xa S S2 room st ov :=
  h.turn (Turn.ofBelow hB) (fun k hk e => by have := h.lt k hk; omega)
theorem MkMem.drew (h : MkMem w T xa S S2 room st ov) : MkMem w.drew T xa S S2 room st ov := h.below (Below.refl _ w).drew
theorem SetAt.keep {b : Nat} {lo : Option Nat} {n : Nat} (h : SetAt w b lo n S) (hb : w'.heap[b]? = w.heap[b]?) (hl : ∀ l, lo = some l → w'.heap[l]? = w.heap[l]?) : SetAt w' b lo n S := by
  refine ⟨h.1, h.2.1, ?_⟩
  have h3 := h.2.2
  cases lo with
  | none =>
    obtain ⟨h1, h2⟩ := h3
    exact ⟨by unfold Blk at *; rw [hb]; exact h1, h2⟩
  | some l =>
    obtain ⟨h1, h2, ws, h4, h5⟩ := h3
    exact ⟨by unfold Blk at *; rw [hb]; exact h1, h2, ws, by unfold Blk at *; rw [hl l rfl]; exact h4, h5⟩
theorem GrAt.keep {G : GrB} (h : GrAt w G room st ov) (hk : ∀ k, G.has k → w'.heap[k]? = w.heap[k]?) : GrAt w' G room st ov := by
  refine ⟨by have h1 := h.head; unfold Blk at *; rw [hk _ (.inl rfl)]; exact h1, h.stk.1, ?_⟩
  rcases h.stk.2 with h1 | ⟨g, cap, cur, e, hb, hg, rest⟩
  · exact .inl h1
  · exact .inr ⟨g, cap, cur, e, hb, (hk g (.inr (by rw [e]; rfl))).trans hg, rest⟩
theorem MkMem.keep (h : MkMem w T xa S S2 room st ov) (hk : ∀ k, T.has k → w'.heap[k]? = w.heap[k]?) : MkMem w' T xa S S2 room st ov :=
  ⟨by have h1 := h.head; unfold Blk at *; rw [hk _ (.inl rfl)]; exact h1, h.s1.keep (hk _ (.inr (.inl (.inl rfl)))) (fun l e => hk l (.inr (.inl (.inr e)))), h.s2.keep (hk _ (.inr (.inr (.inl (.inl rfl))))) (fun l e => hk l (.inr (.inr (.inl (.inr e))))),
    h.gr.keep (fun k e => hk k (.inr (.inr (.inr e)))), h.sep⟩
theorem MkMem.c0 (h : MkMem w T xa S S2 room st ov) : w.cell? ⟨T.m, 0, none⟩ = some (.pointer (some ⟨xa, 0, none⟩)) := h.head.cell 0
theorem MkMem.c1 (h : MkMem w T xa S S2 room st ov) : w.cell? ⟨T.m, 1, none⟩ = some (.pointer (some ⟨T.b, 0, none⟩)) := h.head.cell 1
theorem MkMem.c2 (h : MkMem w T xa S S2 room st ov) : w.cell? ⟨T.m, 2, none⟩ = some (.pointer (some ⟨T.b2, 0, none⟩)) := h.head.cell 2
theorem MkMem.c3 (h : MkMem w T xa S S2 room st ov) : w.cell? ⟨T.m, 3, none⟩ = some (.pointer (some ⟨T.g.s, 0, none⟩)) := h.head.cell 3

theorem sep_step {b b2 : Nat} {lo lo' lo2 : Option Nat} (h : Sep b lo b2 lo2) (hl : lo' = lo ∨ lo = none ∧ ∃ l, lo' = some l ∧ w.heap.size ≤ l) (hb : b2 < w.heap.size) (hb2 : ∀ l, lo2 = some l → l < w.heap.size) : Sep b lo' b2 lo2 := by
  refine ⟨h.1, fun l e => ?_, h.2.2.1, fun l e e2 => ?_⟩
  · rcases hl with e3 | ⟨_, l', e3, h3⟩
    · exact h.2.1 l (e3 ▸ e)
    · rw [e3] at e; cases e; omega
  · rcases hl with e3 | ⟨_, l', e3, h3⟩
    · exact h.2.2.2 l (e3 ▸ e) e2
    · rw [e3] at e; cases e; have := hb2 _ e2; omega
/-- A call on the set of what is marked. -/
theorem MkMem.turn1 {S' : Nat → Bool} {r : Bool} {e : Ending} (h : MkMem w T xa S S2 room st ov) (hP : TurnPost T.b T.lo T.n r S' w e w') :
    e = .returned (.bool r) ∧ ∃ T', T'.g = T.g ∧ MkMem w' T' xa S' S2 room st ov ∧ MkStep T w T' w' := by
  obtain ⟨lo', rfl, hA, hl, hT⟩ := hP
  have n1 := h.s1.farT h.head (by decide) (by decide)
  have n3 := h.s1.farG h.gr
  refine ⟨rfl, { T with lo := lo' }, rfl, ⟨h.head.turn hT n1, hA, h.s2.turn hT ?_ ?_, h.gr.turn hT n3, sep_step h.sep hl h.s2.lt.1 h.s2.lt.2⟩, rfl, rfl, ?_, hT.mono fun k _ e => .inr (.inl e)⟩
  · rintro (e | e)
    · exact h.sep.1 e.symm
    · exact h.sep.2.1 _ e rfl
  · rintro l e2 (e | e)
    · exact h.sep.2.2.1 l e2 e
    · exact h.sep.2.2.2 l e e2
  · rintro k (e | (e | e) | e | e)
    · exact .inl (.inl e)
    · exact .inl (.inr (.inl (.inl e)))
    · rcases hl with e3 | ⟨_, l', e3, h3⟩
      · exact .inl (.inr (.inl (.inr (e3 ▸ e))))
      · have e4 : lo' = some k := e
        rw [e3] at e4; cases e4; exact .inr h3
    · exact .inl (.inr (.inr (.inl e)))
    · exact .inl (.inr (.inr (.inr e)))
/-- A call on the set of what is scanned. -/
theorem MkMem.turn2 {S' : Nat → Bool} {r : Bool} {e : Ending} (h : MkMem w T xa S S2 room st ov) (hP : TurnPost T.b2 T.lo2 T.n r S' w e w') :
    e = .returned (.bool r) ∧ ∃ T', T'.g = T.g ∧ MkMem w' T' xa S S' room st ov ∧ MkStep T w T' w' := by
  obtain ⟨lo', rfl, hA, hl, hT⟩ := hP
  have n1 := h.s2.farT h.head (by decide) (by decide)
  have n3 := h.s2.farG h.gr
  refine ⟨rfl, { T with lo2 := lo' }, rfl, ⟨h.head.turn hT n1, h.s1.turn hT ?_ ?_, hA, h.gr.turn hT n3, (sep_step h.sep.symm hl h.s1.lt.1 h.s1.lt.2).symm⟩, rfl, rfl, ?_, hT.mono fun k _ e => .inr (.inr (.inl e))⟩
  · rintro (e | e)
    · exact h.sep.1 e
    · exact h.sep.2.2.1 _ e rfl
  · rintro l e2 (e | e)
    · exact h.sep.2.1 l e2 e
    · exact h.sep.2.2.2 l e2 e
  · rintro k (e | e | (e | e) | e)
    · exact .inl (.inl e)
    · exact .inl (.inr (.inl e))
    · exact .inl (.inr (.inr (.inl (.inl e))))
    · rcases hl with e3 | ⟨_, l', e3, h3⟩
      · exact .inl (.inr (.inr (.inl (.inr (e3 ▸ e)))))
      · have e4 : lo' = some k := e
        rw [e3] at e4; cases e4; exact .inr h3
    · exact .inl (.inr (.inr (.inr e)))
/-- A call on the stack. -/
theorem MkMem.turn3 {G : GrB} {st' : List Int} {ov' : Bool} (h : MkMem w T xa S S2 room st ov) (hG : GrAt w' G room st' ov') (hS : GrStep T.g w G w') :
    ∃ T', T'.g = G ∧ MkMem w' T' xa S S2 room st' ov' ∧ MkStep T w T' w' := by
  have n1 := h.s1.farG h.gr
  have n2 := h.s2.farG h.gr
  have n0 := h.gr.farT h.head (by decide) (by decide)
  refine ⟨{ T with g := G }, rfl, ⟨(h.head.turn hS.turn n0).is ?_, h.s1.turn hS.turn (fun e => n1 _ e (.inl rfl)) (fun l e e2 => n1 l e2 (.inr e)), h.s2.turn hS.turn (fun e => n2 _ e (.inl rfl)) (fun l e e2 => n2 l e2 (.inr e)), hG, h.sep⟩, rfl, rfl, ?_, hS.turn.mono fun k _ e => .inr (.inr (.inr e))⟩
  · show mkArr T xa = mkArr { T with g := G } xa
    unfold mkArr
    rw [hS.s]
  · rintro k (e | e | e | e)
    · exact .inl (.inl e)
    · exact .inl (.inr (.inl e))
    · exact .inl (.inr (.inr (.inl e)))
    · rcases hS.new k e with e2 | e2
      · exact .inl (.inr (.inr (.inr e2)))
      · exact .inr e2
end

theorem inS_put {N : Nat} (S : Nat → Bool) {x : Int} (h1 : 0 ≤ x) (h2 : x < N) : inS (putS N S x) = updI (inS S) x true := by
  have hm : may N x = true := by simp [may]; omega
  funext y
  by_cases e : y = x
  · subst e
    rw [updI_at]
    simp [inS, putS, hm, h1]
  · rw [updI_ne e]
    unfold inS putS
    by_cases h0 : 0 ≤ y
    · have : ¬ y.toNat = x.toNat := by omega
      simp [hm, this]
    · simp [h0]
theorem inS_drop (S : Nat → Bool) (x : Int) : inS (dropS S x) = updI (inS S) x false := by
  funext y
  by_cases e : y = x
  · subst e
    rw [updI_at]
    unfold inS dropS
    by_cases h0 : 0 ≤ y
    · have : ((y.toNat : Nat) : Int) = y := by omega
      simp [this]
    · simp [h0]
  · rw [updI_ne e]
    unfold inS dropS
    by_cases h0 : 0 ≤ y
    · have : ¬ ((y.toNat : Nat) : Int) = x := by omega
      rw [decide_eq_false this]; simp
    · simp [h0]
theorem updI_same {f : Int → Bool} {x : Int} {v : Bool} (h : f x = v) : updI f x v = f := by
  funext y
  by_cases e : y = x
  · rw [e, updI_at, h]
  · rw [updI_ne e]

/-- What a marker's memory says. -/
structure MkOk (S S2 : Nat → Bool) (room : Int) (st : List Int) (ov : Bool) (c : Col) : Prop where
  ma : c.ma = inS S
  sc : c.sc = inS S2
  sub : ∀ x, c.sc x = true → c.ma x = true
  r1 : 1 ≤ room
  r2 : room ≤ 4096
  len : (st.length : Int) ≤ room
  grey : ∀ x, c.ma x = true → c.sc x = false → x ∈ st ∨ ov = true
structure MkAt (w : World) (T : MkB) (xa : Nat) (c : Col) : Prop where
  ex : ∃ (S S2 : Nat → Bool) (room : Int) (st : List Int) (ov : Bool), MkMem w T xa S S2 room st ov ∧ MkOk S S2 room st ov c
section
variable {w w' : World} {T : MkB} {xa : Nat} {c : Col}
theorem MkAt.turn {M : Nat → Prop} (h : MkAt w T xa c) (hT : Turn M w w') (hn : ∀ k, T.has k → ¬ M k) : MkAt w' T xa c := by
  obtain ⟨S, S2, room, st, ov, hM, hO⟩ := h.ex
  exact ⟨S, S2, room, st, ov, hM.turn hT hn, hO⟩
theorem MkAt.keep (h : MkAt w T xa c) (hk : ∀ k, T.has k → w'.heap[k]? = w.heap[k]?) : MkAt w' T xa c := by
  obtain ⟨S, S2, room, st, ov, hM, hO⟩ := h.ex
  exact ⟨S, S2, room, st, ov, hM.keep hk, hO⟩
theorem MkAt.lt (h : MkAt w T xa c) : ∀ k, T.has k → k < w.heap.size := by
  obtain ⟨S, S2, room, st, ov, hM, hO⟩ := h.ex
  exact hM.lt
theorem MkAt.below (h : MkAt w T xa c) (hB : Below w.heap.size w w') : MkAt w' T xa c := h.turn (Turn.ofBelow hB) (fun k hk e => by have := h.lt k hk; omega)
/-- None of a marker's blocks is one of deferred calls, or of a range. -/
theorem MkAt.cells (h : MkAt w T xa c) {k : Nat} (hk : T.has k) {o : Obj} (ho : w.heap[k]? = some o) : o.isCells = true := by
  obtain ⟨S, S2, room, st, ov, hM, hO⟩ := h.ex
  have go : ∀ {j : Nat} {cs : Array Value} {X : TypeId}, Blk w j cs X → w.heap[j]? = some o → o.isCells = true := fun hb h2 => by
    unfold Blk at hb; rw [hb] at h2; cases h2; rfl
  have gs : ∀ {b N : Nat} {lo : Option Nat} {S : Nat → Bool}, SetAt w b lo N S → (k = b ∨ lo = some k) → o.isCells = true := fun hs e => by
    rcases e with e | e
    · obtain ⟨d, l, hB⟩ := hs.2.2.blk
      exact go hB (e ▸ ho)
    · obtain ⟨_, _, h5⟩ := hs
      rw [e] at h5
      obtain ⟨_, _, ws, h6, _⟩ := h5
      exact go h6 ho
  rcases hk with e | e | e | e | e
  · exact go hM.head (e ▸ ho)
  · exact gs hM.s1 e
  · exact gs hM.s2 e
  · exact go hM.gr.head (e ▸ ho)
  · obtain ⟨_, h6⟩ := hM.gr.stk.own e
    exact go h6 ho
end
end Go.Proofs.YtidpmplkbgllfaaGreatDoor
