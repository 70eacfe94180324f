/- What the laws on markers share; at this seat's numbers. What MarkBlacks asks beside: a group is cut, blocks beside turn; colours with blacks; at this seat's numbers. Two markers of one arena; at this seat's numbers. MarkAgain's ground: a field is set and told while a marker lies beside; and, plain, colours over edges that grow; at this seat's numbers. MarkColours' ground: colours as numbers, a map of them beside a marker; at this seat's numbers. -/
import Derived.Test.YtooddbhlanjfbaaGreatDoorUl
import Derived.Deep.RegionHeld3
import Derived.Test.YtooddbhlanjfbaaGreatDoorGmI
namespace Go.Proofs.YtooddbhlanjfbaaGreatDoor
open Go Go.RowKit Go.Shelf Go.MuLone Go.RwLone
set_option linter.unusedSimpArgs false
set_option linter.unusedVariables false
attribute [local go_sem] Oper.semAt_some

theorem BytesW.under {w w' : World} {a : Option Addr} {zs : List Int} {n0 : Nat} (h : BytesW w a zs) (hB : Below n0 w w') (hn : w.heap.size ≤ n0) : BytesW w' a zs := fun k hk => by
  obtain ⟨b, off, e, hb, hc, hw⟩ := h k hk
  exact ⟨b, off, e, by have := hB.size; omega, (hB.cell (p := ⟨b, off + k, none⟩) (by show b < n0; omega)).trans hc, hw⟩
theorem EdgesW.under {w w' : World} {a : Option Addr} {n n0 : Nat} {Q : Nat → Nat → Int} (h : EdgesW w a n Q) (hB : Below n0 w w') (hn : w.heap.size ≤ n0) : EdgesW w' a n Q := fun k hk => by
  obtain ⟨b, off, e, hb, hc⟩ := h k hk
  exact ⟨b, off, e, by have := hB.size; omega, fun j hj => ⟨(hB.cell (p := ⟨b, off + k * 3 + j, none⟩) (by show b < n0; omega)).trans (hc j hj).1, (hc j hj).2⟩⟩
theorem RefRow.keepG {w w' : World} {v : Value} {l : List Int} (h : RefRow w v l) (hk : ∀ k, v.ownBlock = some k → w'.heap[k]? = w.heap[k]?) : RefRow w' v l := by
  refine ⟨h.1, ?_⟩
  rcases h.2 with h1 | ⟨g, cap, cur, rfl, hb, hg, rest⟩
  · exact .inl h1
  · exact .inr ⟨g, cap, cur, rfl, hb, (hk g rfl).trans hg, rest⟩
theorem RefRow.ask {w w' : World} {v : Value} {l : List Int} (h : RefRow w v l) (hB : Below w.heap.size w w') : RefRow w' v l := h.turn (Turn.ofBelow hB) (fun k e e2 => Nat.lt_irrefl _ (Nat.lt_of_lt_of_le (h.lt e) e2))
theorem MapIn.ask {w w' : World} {B n c : Nat} {f : Int → Int} {K : Int → Bool} (h : MapIn w B n f K c) (hB : Below w.heap.size w w') : MapIn w' B n f K c := h.keep (hB.block _ h.lt)
theorem Scans.dryNil {P : Int → List Int} {c c' : Col} {l : List Int} (h : Scans P c l c') (hd : c.dry) : l = [] ∧ c' = c := by
  cases h with
  | nil => exact ⟨rfl, rfl⟩
  | cons h1 h2 _ => have := hd _ h1; rw [h2] at this; cases this
theorem wf_ref {x : Int} (h1 : 1 ≤ x) (h2 : x ≤ 2048) : (Lit.int .i64 x).wf = true := by simp [Lit.wf, IntKind.min, IntKind.max, IntKind.signed, IntKind.bits]; omega
theorem take_nextR {zs : List Int} {i : Nat} {x : Int} (h : zs[i]? = some x) : zs.take (i + 1) = zs.take i ++ [x] := by
  rw [List.take_add_one, h]; rfl

theorem rr_hold {B mb n rb : Nat} {X : ArB} {s : ArS} {obs : List Ob} {vl : Value} {f : Int → Value} {E : Nat → Prop} {vis : List Int} {T : MkB} {c : Col} {wb W W' : World} (h1 : GmIn B mb n X s obs vl f (ptsAt obs) E T c wb W)
    (h2 : MapIn W rb vis.length (visF vis) (visK vis) vis.length) (hB : Below W.heap.size W W') (x v : Int) (hx : (Lit.int .i64 x).wf = true) (hv : visF vis x = v) :
    GmIn B mb n X s obs vl f (ptsAt obs) E T c wb W' ∧ MapIn W' rb vis.length (visF vis) (visK vis) vis.length ∧ (Instr.lookup 42 (.map (some rb)) (.int .i64 x) false).run Tryz.prog W' = .ok (.int .i64 v) W' := by
  have h3 := h2.ask hB
  exact ⟨h1.ask hB, h3, hv ▸ h3.look x hx⟩
/-- What Made left, as the laws want it. -/
structure MadeOk (nf ne : Nat) (B mb n : Nat) (X : ArB) (s : ArS) (obs : List Ob) (vl : Value) (f : Int → Value) (w w' : World) : Prop where
  go : GoIn B mb n X s obs vl f (ptsAt obs) w w'
  len : obs.length = nf
  cl : Closed obs
  P : s.P = 64
  n6 : n ≤ 6 * nf
  bd : ∀ x ∈ refsI obs, 1 ≤ x ∧ x ≤ 2048
  nd : (refsI obs).Nodup
  few : ∀ x ∈ refsI obs, (ptsAt obs x).length ≤ 6
  pin : ∀ x ∈ refsI obs, ∀ y ∈ ptsAt obs x, y = 0 ∨ y ∈ refsI obs
  tab : TabAt w
  zero : ne = 0 → ∀ x ∈ obs, ∀ j, x.F j = 0
  full : Full s obs
theorem MadePost.ok {nf ne : Nat} {w w' : World} {e : Ending} (h : MadePost nf ne w e w') (hT : TabAt w) : ∃ (X : ArB) (s : ArS) (obs : List Ob) (vl : Value) (mb n : Nat) (f : Int → Value), e = .returned (.tuple #[.pointer (some ⟨X.a, 0, none⟩), vl, .map (some mb)]) ∧ MadeOk nf ne w.heap.size mb n X s obs vl f w w' := by
  obtain ⟨X, s, obs, vl, mb, n, f, adj, rfl, hGo, hol, hcl, hsP, hn6, hadj, hnil⟩ := h
  obtain rfl := adj_ptsAt hGo.ob hadj hnil
  refine ⟨X, s, obs, vl, mb, n, f, rfl, hGo, hol, hcl.1, hsP, hn6, refs_bound hGo.ob hGo.ar.at_.fits, refs_nodup hGo.ob, fun x hx => ?_, fun x hx y hy => ?_, hT, hcl.2.1, hcl.2.2⟩
  · obtain ⟨y, hy, rfl⟩ := List.mem_map.1 hx
    rw [ptsAt_mem hGo.ob hy]; exact pts_few hGo.ob hGo.ar.at_.fits hy
  · obtain ⟨z, hz, rfl⟩ := List.mem_map.1 hx
    rw [ptsAt_mem hGo.ob hz] at hy; exact .inr (pts_in hcl.1 hz y hy)
theorem Tri.le {obs : List Ob} {P : Int → List Int} {fr ord : List Int} {c : Col} (h : Tri P fr c ord) (hi : ∀ x, c.ma x = true → x ∈ refsI obs) : ord.length ≤ obs.length := by
  rw [← refsI_length]
  exact nodup_sub h.nod fun x hx => hi x (h.sub x ((h.ord x).2 hx))
end Go.Proofs.YtooddbhlanjfbaaGreatDoor

namespace Go.Proofs.YtooddbhlanjfbaaGreatDoor
open Go Go.RowKit Go.Shelf
set_option linter.unusedSimpArgs false
set_option linter.unusedVariables false

section
variable {B mb n : Nat} {X : ArB} {s : ArS} {obs : List Ob} {vl : Value} {f : Int → Value} {adj : Int → List Int} {E E' : Nat → Prop} {T : MkB} {c : Col} {wb wr w' : World}
theorem GmIn.blacken (h : GmIn B mb n X s obs vl f adj E T c wb wr) (x : Int) (hx : x ∈ refsI obs) (h1 : 1 ≤ x) (h2 : x ≤ 2048) : Calls Tryz.prog 28 #[.pointer (some ⟨T.m, 0, none⟩), .int .i64 x] wr fun e w' =>
    e = .returned (.tuple #[]) ∧ ∃ T', T'.m = T.m ∧ GmIn B mb n X s obs vl f adj E T' (c.black x) wb w' ∧ ∀ k, E k → w'.heap[k]? = wr.heap[k]? := by
  refine (h.at_.blacken x hx).mono ?_
  rintro e w1 ⟨rfl, T', hA, hS⟩
  obtain ⟨g, hE⟩ := h.step hA hS fun y hy => by
    have hy2 : updI c.ma x true y = true := hy
    by_cases e : y = x
    · rw [e]; exact hx
    · rw [updI_ne e] at hy2; exact h.inn y hy2
  exact ⟨rfl, T', hS.m, g, hE⟩
theorem GmIn.turnE {M : Nat → Prop} (h : GmIn B mb n X s obs vl f adj E T c wb wr) (hT : Turn M wr w') (hM : ∀ k, M k → E k ∧ B ≤ k ∧ ¬ GoHas X mb vl f k) : GmIn B mb n X s obs vl f adj E T c wb w' :=
  ⟨h.go.turned hT (fun k e e2 => (hM k e2).2.2 e) (fun k hk e => by have := (hM k e).2.1; omega), h.mt.turn hT (fun k e e2 => (h.own k e).2.2 (hM k e2).1), h.own, fun k e => Nat.lt_of_lt_of_le (h.ext k e) hT.size, h.inn, h.ex⟩
theorem GmIn.reE (h : GmIn B mb n X s obs vl f adj E T c wb wr) (hE : ∀ k, E' k → ¬ T.has k ∧ k < wr.heap.size) : GmIn B mb n X s obs vl f adj E' T c wb wr :=
  ⟨h.go, h.mt, fun k e => ⟨(h.own k e).1, (h.own k e).2.1, fun e2 => (hE k e2).1 e⟩, fun k e => (hE k e).2, h.inn, h.ex⟩
/-- to[x] = nil. -/
theorem GmIn.cut (h : GmIn B mb n X s obs vl f adj E T c wb wr) (hn : n < 9223372036854775807) (x : Int) (hx : (Lit.int .i64 x).wf = true) :
    ∃ w', (Instr.mapUpdate 34 (.map (some mb)) (.int .i64 x) (.slice none 0 0)).run Tryz.prog wr = .ok () w' ∧ GmIn B mb (n + 1) X s obs vl (updI f x (.slice none 0 0)) (updI adj x []) E T c wb w' ∧ Turn (fun k => k = mb) wr w' := by
  obtain ⟨w', hrun, hs, hS⟩ := h.go.grp.map.store hn x hx (.inl rfl)
  refine ⟨w', hrun, ⟨h.go.grow x (Turn.refl _ wr) (World.ownsRow_nil _ _ _ _) (fun k e => by cases e) hs hS, h.mt.turn hS (fun k e e2 => (h.own k e).2.1 (.inr (.inr (.inl e2)))), fun k e => ⟨(h.own k e).1, fun e2 => ?_, (h.own k e).2.2⟩, fun k e => Nat.lt_of_lt_of_le (h.ext k e) hS.size, h.inn, h.ex⟩, hS⟩
  rcases goHas_upd e2 with e3 | e3
  · exact (h.own k e).2.1 e3
  · cases e3
/-- What holds no cells, and isn't its map, is none of a graph's. -/
theorem GoIn.farObj {k : Nat} {o : Obj} (h : GoIn B mb n X s obs vl f adj wb wr) (hk : wr.heap[k]? = some o) (ho : o.isCells = false) (hne : k ≠ mb) : ¬ GoHas X mb vl f k := fun e => by
  rcases h.cells e hk with e2 | e2
  · exact hne e2
  · rw [e2] at ho; cases ho
end
/-- Where each points, but for the blacks. -/
def adjB (obs : List Ob) (bl : List Int) (x : Int) : List Int := if x ∈ bl then [] else ptsAt obs x
theorem adjB_nil (obs : List Ob) : adjB obs [] = ptsAt obs := by funext x; simp [adjB]
theorem adjB_cons (obs : List Ob) (bl : List Int) (x : Int) : updI (adjB obs bl) x [] = adjB obs (x :: bl) := by
  funext y
  by_cases e : y = x
  · rw [e, updI_at]; unfold adjB; rw [if_pos List.mem_cons_self]
  · rw [updI_ne e]; unfold adjB
    by_cases e2 : y ∈ bl
    · rw [if_pos e2, if_pos (List.mem_cons_of_mem _ e2)]
    · rw [if_neg e2, if_neg (fun e3 => by rcases List.mem_cons.1 e3 with e4 | e4; exact e e4; exact e2 e4)]
theorem adjB_zero {obs : List Ob} {bl : List Int} (x : Int) : ∀ y ∈ adjB obs bl x, y ≠ 0 := fun y hy => by
  unfold adjB at hy
  split at hy
  · cases hy
  · exact ptsAt_zero x y hy
/-- Just these are black, and none is grey. -/
structure Bl (bl : List Int) (c : Col) : Prop where
  ma : ∀ x, c.ma x = true ↔ x ∈ bl
  sc : ∀ x, c.sc x = true ↔ x ∈ bl
theorem bl_white : Bl [] Col.white := ⟨fun x => ⟨fun h => (by cases h), fun h => (by cases h)⟩, fun x => ⟨fun h => (by cases h), fun h => (by cases h)⟩⟩
theorem Bl.cons {bl : List Int} {c : Col} (h : Bl bl c) (x : Int) : Bl (x :: bl) (c.black x) := by
  have key : ∀ (g : Int → Bool), (∀ y, g y = true ↔ y ∈ bl) → ∀ y, updI g x true y = true ↔ y ∈ x :: bl := fun g hg y => by
    by_cases e : y = x
    · rw [e, updI_at]; simp
    · rw [updI_ne e, hg y]
      constructor
      · exact fun e2 => List.mem_cons_of_mem _ e2
      · intro e2
        rcases List.mem_cons.1 e2 with e3 | e3
        · exact absurd e3 e
        · exact e3
  exact ⟨key c.ma h.ma, key c.sc h.sc⟩
theorem nodup_of : ∀ bl : List Int, ∃ l : List Int, l.Nodup ∧ ∀ x, x ∈ l ↔ x ∈ bl
  | [] => ⟨[], List.nodup_nil, fun _ => Iff.rfl⟩
  | y :: bl => by
    obtain ⟨l, h1, h2⟩ := nodup_of bl
    by_cases e : y ∈ bl
    · refine ⟨l, h1, fun x => ?_⟩
      rw [h2 x]
      constructor
      · exact fun e2 => List.mem_cons_of_mem _ e2
      · intro e2
        rcases List.mem_cons.1 e2 with e3 | e3
        · rw [e3]; exact e
        · exact e3
    · exact ⟨y :: l, List.nodup_cons.2 ⟨fun e2 => e ((h2 y).1 e2), h1⟩, fun x => by rw [List.mem_cons, List.mem_cons, h2 x]⟩
theorem Bl.tri {obs : List Ob} {bl : List Int} {c : Col} (h : Bl bl c) (h0 : ∀ x ∈ bl, x ≠ 0) : ∃ ord, Tri (adjB obs bl) bl c ord := by
  obtain ⟨ord, h1, h2⟩ := nodup_of bl
  refine ⟨ord, fun x hx => (h.ma x).2 ((h.sc x).1 hx), fun x hx y hy => ?_, fun x hx => .root ((h.ma x).1 hx) (h0 x ((h.ma x).1 hx)), h1, fun x => (h.sc x).trans (h2 x).symm, fun x hx _ => (h.ma x).2 hx⟩
  unfold adjB at hy
  rw [if_pos ((h.sc x).1 hx)] at hy
  cases hy
theorem Scans.swap {P P' : Int → List Int} {c c' : Col} {l : List Int} (h : Scans P c l c') (hp : ∀ x, c.sc x = false → P x = P' x) : Scans P' c l c' ∧ ∀ x, c.sc x = true → c'.sc x = true := by
  induction h with
  | nil c => exact ⟨.nil c, fun _ h => h⟩
  | @cons c0 c1 x0 l0 h1 h2 h3 ih =>
    have e : c0.scan P x0 = c0.scan P' x0 := by unfold Col.scan; rw [hp x0 h2]
    have keep : ∀ y, c0.sc y = true → (c0.scan P x0).sc y = true := fun y hy => by
      show updI c0.sc x0 true y = true
      by_cases e2 : y = x0
      · rw [e2, updI_at]
      · rw [updI_ne e2]; exact hy
    obtain ⟨k1, k2⟩ := ih fun y hy => hp y (by
      cases e3 : c0.sc y with
      | false => rfl
      | true => have := keep y e3; rw [hy] at this; cases this)
    rw [e] at k1
    exact ⟨.cons h1 h2 k1, fun y hy => k2 y (keep y hy)⟩
theorem rch_blacks {obs : List Ob} {bl fr : List Int} {x : Int} : Rch (bl ++ fr) (adjB obs bl) x ↔ (x ∈ bl ∧ x ≠ 0) ∨ Rch fr (adjB obs bl) x := by
  constructor
  · intro h
    induction h with
    | root h1 h2 =>
      rcases List.mem_append.1 h1 with e | e
      · exact .inl ⟨e, h2⟩
      · exact .inr (.root e h2)
    | step h1 h2 h3 ih =>
      rcases ih with e | e
      · unfold adjB at h2
        rw [if_pos e.1] at h2
        cases h2
      · exact .inr (.step e h2 h3)
  · rintro (⟨e, e0⟩ | e)
    · exact .root (List.mem_append.2 (.inl e)) e0
    · exact e.more fun y hy => List.mem_append.2 (.inr hy)
end Go.Proofs.YtooddbhlanjfbaaGreatDoor

namespace Go.Proofs.YtooddbhlanjfbaaGreatDoor
open Go Go.RowKit Go.Shelf
set_option linter.unusedSimpArgs false
set_option linter.unusedVariables false

structure Gm2 (B mb n : Nat) (X : ArB) (s : ArS) (obs : List Ob) (vl : Value) (f : Int → Value) (adj : Int → List Int) (E : Nat → Prop) (T : MkB) (c : Col) (T2 : MkB) (c2 : Col) (wb wr : World) : Prop where
  a : GmIn B mb n X s obs vl f adj (fun k => E k ∨ T2.has k) T c wb wr
  b : GmIn B mb n X s obs vl f adj (fun k => E k ∨ T.has k) T2 c2 wb wr
section
variable {B mb n : Nat} {X : ArB} {s : ArS} {obs : List Ob} {vl : Value} {f : Int → Value} {adj : Int → List Int} {E E' : Nat → Prop} {T T' T2 : MkB} {c c' c2 : Col} {wb wr w' : World}
theorem Gm2.symm (h : Gm2 B mb n X s obs vl f adj E T c T2 c2 wb wr) : Gm2 B mb n X s obs vl f adj E T2 c2 T c wb wr := ⟨h.b, h.a⟩
theorem Gm2.ask (h : Gm2 B mb n X s obs vl f adj E T c T2 c2 wb wr) (hB : Below wr.heap.size wr w') : Gm2 B mb n X s obs vl f adj E T c T2 c2 wb w' := ⟨h.a.ask hB, h.b.ask hB⟩
theorem Gm2.watch (h : Gm2 B mb n X s obs vl f adj E T c T2 c2 wb wr) (hB : Below wr.heap.size wr w') (hE : ∀ k, E' k → E k ∨ (wr.heap.size ≤ k ∧ k < w'.heap.size)) : Gm2 B mb n X s obs vl f adj E' T c T2 c2 wb w' :=
  ⟨h.a.watch hB fun k e => by
    rcases e with e | e
    · rcases hE k e with e2 | e2
      · exact .inl (.inl e2)
      · exact .inr e2
    · exact .inl (.inr e), h.b.watch hB fun k e => by
    rcases e with e | e
    · rcases hE k e with e2 | e2
      · exact .inl (.inl e2)
      · exact .inr e2
    · exact .inl (.inr e)⟩
theorem Gm2.stepA (h : Gm2 B mb n X s obs vl f adj E T c T2 c2 wb wr) (ha : GmIn B mb n X s obs vl f adj (fun k => E k ∨ T2.has k) T' c' wb w') (hk : ∀ k, (E k ∨ T2.has k) → w'.heap[k]? = wr.heap[k]?) :
    Gm2 B mb n X s obs vl f adj E T' c' T2 c2 wb w' ∧ ∀ k, E k → w'.heap[k]? = wr.heap[k]? := by
  refine ⟨⟨ha, ha.go, h.b.mt.keep fun k e => hk k (.inr e), fun k e => ⟨(h.b.own k e).1, (h.b.own k e).2.1, fun e2 => ?_⟩, fun k e => ?_, h.b.inn, h.b.ex⟩, fun k e => hk k (.inl e)⟩
  · rcases e2 with e2 | e2
    · exact (h.b.own k e).2.2 (.inl e2)
    · exact (ha.own k e2).2.2 (.inr e)
  · rcases e with e | e
    · exact ha.ext k (.inl e)
    · exact ha.mt.lt k e
theorem gm2_new (h : GoIn B mb n X s obs vl f adj wb wr) (hP : s.P = 64) (r1 r2 : Int) (hE : ∀ k, E k → k < wr.heap.size) (hr1 : r1 ≤ 4096) (hr2 : r2 ≤ 4096) (hD : TabAt wb) (hDB : 1 < B) : Calls Tryz.prog 12 #[.pointer (some ⟨X.a, 0, none⟩), .int .i64 r1] wr fun e w1 =>
    ∃ T : MkB, e = .returned (.pointer (some ⟨T.m, 0, none⟩)) ∧ Calls Tryz.prog 12 #[.pointer (some ⟨X.a, 0, none⟩), .int .i64 r2] w1 fun e w' =>
      ∃ T2 : MkB, e = .returned (.pointer (some ⟨T2.m, 0, none⟩)) ∧ Gm2 B mb n X s obs vl f adj E T Col.white T2 Col.white wb w' := by
  refine (gm_new (E := E) h hP r1 hE hr1 hD hDB).mono ?_
  rintro e w1 ⟨T, rfl, h1, hB1⟩
  refine ⟨T, rfl, ?_⟩
  refine (gm_new (E := fun k => E k ∨ T.has k) h1.go hP r2 (fun k e => by
    rcases e with e | e
    · exact h1.ext k e
    · exact h1.mt.lt k e) hr2 hD hDB).mono ?_
  rintro e w2 ⟨T2, rfl, h2, hB2⟩
  have h1' := h1.ask hB2
  exact ⟨T2, rfl, ⟨⟨h1'.go, h1'.mt, fun k e => ⟨(h1'.own k e).1, (h1'.own k e).2.1, fun e2 => by
    rcases e2 with e2 | e2
    · exact (h1'.own k e).2.2 e2
    · exact (h2.own k e2).2.2 (.inr e)⟩, fun k e => by
    rcases e with e | e
    · exact h1'.ext k e
    · exact h2.mt.lt k e, h1'.inn, h1'.ex⟩, h2⟩⟩
end
theorem Col.white_dry : Col.white.dry := fun x h => by cases h
theorem filter_ord {obs : List Ob} {P : Int → List Int} {fr ord : List Int} {c : Col} (hT : Tri P fr c ord) (hn : (refsI obs).Nodup) (hi : ∀ x, c.ma x = true → x ∈ refsI obs) : ((refsI obs).filter c.sc).length = ord.length :=
  same_length (hn.filter _) hT.nod fun x => by
    rw [List.mem_filter, ← hT.ord x]
    exact ⟨fun h => h.2, fun h => ⟨hi x (hT.sub x h), h⟩⟩
end Go.Proofs.YtooddbhlanjfbaaGreatDoor

namespace Go.Proofs.YtooddbhlanjfbaaGreatDoor
open Go Go.RowKit Go.Shelf Go.MuLone Go.RwLone
set_option linter.unusedSimpArgs false
set_option linter.unusedVariables false

/-- A store in a map, whose run is known (inside a fence). -/
theorem wpListIn_mapUpdate_runG {P : Program} {F : Fence} {n : Nat} {ops : Array Oper} {rest : List Oper} {o : Oper} {a : Act} {w : World} {Q : Exit → Act → World → Prop} (hgd : o.guard = none) (m x v : Operand) (t : TypeId)
    (ho : o.op = .mapUpdate t m x v) (vm vx vv : Value) (hm : a.eval m = vm) (hx : a.eval x = vx) (hv : a.eval v = vv) {w' : World}
    (hr : (Instr.mapUpdate t vm vx vv).run P w = .ok () w') (h : wpListIn F n P ops Q rest (a.put o.dst undef) w') : wpListIn F n P ops Q (o :: rest) a w := by
  refine wpListIn_plain hgd fun K' hK' => ?_
  unfold Oper.wpIn
  refine ⟨by simp [Oper.about, ho], ?_⟩
  rw [Oper.semAt_plain F _ _ (by rw [ho]; intro c hc'; cases hc')]
  simp [execOp, ho, hm, hx, hv, hr, Result.andThen]
  exact hK' _ _ h

section
variable {B mb n : Nat} {X : ArB} {s : ArS} {obs : List Ob} {vl : Value} {f : Int → Value} {adj : Int → List Int} {E E' : Nat → Prop} {T T' : MkB} {c c' : Col} {wb wr w' : World}
theorem GmIn.setField (h : GmIn B mb n X s obs vl f adj E T c wb wr) {i j : Nat} {x : Ob} (hx : obs[i]? = some x) (hj : j < x.k) (y : Int) (hE : ∀ k, E k → ¬ X.has k) :
    Calls Tryz.prog 36 #[.pointer (some ⟨X.a, 0, none⟩), .int .i64 (x.r : Int), .int .i64 (j : Int), .int .i64 y] wr fun e w' =>
      e = .returned (.int .i64 0) ∧ ∃ lo, GmIn B mb n (X.with lo) (s.setW (x.r : Int) (2 + (j : Int)) y) (obs.set i { x with F := Go.Proofs.YtooddbhlanjfbaaGreatDoor.upd x.F j y }) vl f adj E T c wb w' ∧ (∀ k, E k → w'.heap[k]? = wr.heap[k]?) ∧ ∀ k, E k → ¬ (X.with lo).has k := by
  refine (ceSetFieldOk h.go.ar (h.go.ob.at_ i x hx) j hj y).mono ?_
  rintro e w1 ⟨rfl, lo, hA, hS⟩
  have hg := h.go.step hA hS (h.go.ob.setF h.go.ar.at_.fits hx hj y) (refsI_set hx rfl)
  have hTX : ∀ k, T.has k → ¬ X.has k := fun k e e2 => (h.own k e).2.1 (.inl e2)
  refine ⟨rfl, lo, ⟨hg, h.mt.turn hS.turn hTX, fun k e => ⟨(h.own k e).1, fun e2 => ?_, (h.own k e).2.2⟩, fun k e => Nat.lt_of_lt_of_le (h.ext k e) hS.turn.size, fun z hz => ?_, by rw [setW_P]; exact h.ex⟩, fun k e => hS.turn.block k (h.ext k e) (hE k e), fun k e e2 => ?_⟩
  · rcases e2 with e2 | e2
    · rcases hS.has_new e2 with e3 | e3
      · exact hTX k e e3
      · have := h.mt.lt k e; omega
    · exact (h.own k e).2.1 (.inr e2)
  · rw [refsI_set (x := { x with F := Go.Proofs.YtooddbhlanjfbaaGreatDoor.upd x.F j y }) hx rfl]; exact h.inn z hz
  · rcases hS.has_new e2 with e3 | e3
    · exact hE k e e3
    · have := h.ext k e; omega
theorem GmIn.told {v : Value} {x y : Int} {w1 : World} (h : GmIn B mb n X s obs vl f adj E T c wb wr) (hn : n < 9223372036854775807) (hx : (Lit.int .i64 x).wf = true) (hR : RefRow w1 v (adj x ++ [y])) (hT : Turn (fun k => (f x).ownBlock = some k) wr w1) (hg : ∀ k, v.ownBlock = some k → (f x).ownBlock = some k ∨ wr.heap.size ≤ k) (hE : ∀ k, E k → ¬ GoHas X mb vl f k) :
    ∃ w', (Instr.mapUpdate 34 (.map (some mb)) (.int .i64 x) v).run Tryz.prog w1 = .ok () w' ∧ GmIn B mb (n + 1) X s obs vl (updI f x v) (updI adj x (adj x ++ [y])) E T c wb w' ∧ (∀ k, E k → w'.heap[k]? = wr.heap[k]?) ∧ ∀ k, E k → ¬ GoHas X mb vl (updI f x v) k := by
  obtain ⟨w', hrun, hG, hT'⟩ := h.go.told hn hx hR hT hg
  have hin : ∀ k, ((f x).ownBlock = some k ∨ k = mb) → GoHas X mb vl f k := fun k e => by
    rcases e with e | e
    · exact .inr (.inr (.inr ⟨x, e⟩))
    · exact .inr (.inr (.inl e))
  have hnew : ∀ k, k < wr.heap.size → GoHas X mb vl (updI f x v) k → GoHas X mb vl f k := fun k hk e => by
    rcases goHas_upd e with e2 | e2
    · exact e2
    · rcases hg k e2 with e3 | e3
      · exact hin k (.inl e3)
      · omega
  exact ⟨w', hrun, ⟨hG, h.mt.turn hT' (fun k e e2 => (h.own k e).2.1 (hin k e2)), fun k e => ⟨(h.own k e).1, fun e2 => (h.own k e).2.1 (hnew k (h.mt.lt k e) e2), (h.own k e).2.2⟩, fun k e => Nat.lt_of_lt_of_le (h.ext k e) hT'.size, h.inn, h.ex⟩,
    fun k e => hT'.block k (h.ext k e) (fun e2 => hE k e (hin k e2)), fun k e e2 => hE k e (hnew k (h.ext k e) e2)⟩
theorem GmIn.regrey (h : GmIn B mb n X s obs vl f adj E T c wb wr) (x : Int) (h1 : 1 ≤ x) (h2 : x ≤ 2048) : Calls Tryz.prog 173 #[.pointer (some ⟨T.m, 0, none⟩), .int .i64 x] wr fun e w' =>
    e = .returned (.bool (c.sc x)) ∧ ∃ T', T'.m = T.m ∧ GmIn B mb n X s obs vl f adj E T' (c.regrey x) wb w' ∧ ∀ k, E k → w'.heap[k]? = wr.heap[k]? := by
  refine (h.at_.regrey x).mono ?_
  rintro e w1 ⟨rfl, T', hA, hS⟩
  obtain ⟨g, hE⟩ := h.step hA hS h.inn
  exact ⟨rfl, T', hS.m, g, hE⟩
end

/-- Colours over edges P, where adj tells of more edges. -/
structure Ag (P adj : Int → List Int) (fr : List Int) (c : Col) : Prop where
  sub : ∀ x, c.sc x = true → c.ma x = true
  clo : ∀ x, c.sc x = true → ∀ y ∈ P x, c.ma y = true
  snd : ∀ x, c.ma x = true → Rch fr adj x
  inc : ∀ x, ∀ y ∈ P x, y ∈ adj x
theorem Tri.ag {P : Int → List Int} {fr ord : List Int} {c : Col} (h : Tri P fr c ord) : Ag P P fr c := ⟨h.sub, h.clo, h.snd, fun _ _ hy => hy⟩
section
variable {P P' adj : Int → List Int} {fr l : List Int} {c c' : Col} {x y : Int}
theorem Rch.wide {adj adj' : Int → List Int} {fr : List Int} {x : Int} (h : Rch fr adj x) (hs : ∀ z, ∀ u ∈ adj z, u ∈ adj' z) : Rch fr adj' x := by
  induction h with
  | root h1 h2 => exact .root h1 h2
  | step _ h2 h3 ih => exact .step ih (hs _ _ h2) h3
theorem Ag.scan (h : Ag P adj fr c) (h0 : ∀ y ∈ P x, y ≠ 0) (hm : c.ma x = true) : Ag P adj fr (c.scan P x) := by
  have hmk : ∀ y, c.ma y = true → (c.scan P x).ma y = true := fun y hy => by show (c.ma y || _) = true; rw [hy]; rfl
  have cut : ∀ y, (c.scan P x).sc y = true → y = x ∨ c.sc y = true := fun y hy => by
    have hy2 : updI c.sc x true y = true := hy
    by_cases e : y = x
    · exact .inl e
    · rw [updI_ne e] at hy2; exact .inr hy2
  refine ⟨fun y hy => ?_, fun y hy z hz => ?_, fun y hy => ?_, h.inc⟩
  · rcases cut y hy with e | e
    · rw [e]; exact hmk x hm
    · exact hmk y (h.sub y e)
  · rcases cut y hy with e | e
    · rw [e] at hz
      show (c.ma z || decide (z ∈ P x)) = true; rw [decide_eq_true hz]; simp
    · exact hmk z (h.clo y e z hz)
  · have hy2 : (c.ma y || decide (y ∈ P x)) = true := hy
    cases e : c.ma y with
    | true => exact h.snd y e
    | false =>
      rw [e] at hy2
      have e2 : y ∈ P x := by simpa using hy2
      exact .step (h.snd x hm) (h.inc x y e2) (h0 y e2)
theorem Ag.scans (h : Ag P adj fr c) (h0 : ∀ x, ∀ y ∈ P x, y ≠ 0) (hs : Scans P c l c') : Ag P adj fr c' := by
  induction hs with
  | nil c => exact h
  | cons h1 h2 _ ih => exact ih (h.scan (h0 _) h1)
/-- An edge from x is set, and told; x is grey again. -/
theorem Ag.edit (h : Ag P adj fr c) (hP : ∀ z, z ≠ x → P' z = P z) (hx : ∀ u ∈ P' x, u ∈ P x ∨ u = y) : Ag P' (updI adj x (adj x ++ [y])) fr (c.regrey x) := by
  have hw : ∀ z, ∀ u ∈ adj z, u ∈ updI adj x (adj x ++ [y]) z := fun z u hu => by
    by_cases e : z = x
    · rw [e] at hu ⊢; rw [updI_at]; exact List.mem_append.2 (.inl hu)
    · rw [updI_ne e]; exact hu
  have cut : ∀ z, (c.regrey x).sc z = true → z ≠ x ∧ c.sc z = true := fun z hz => by
    have hz2 : updI c.sc x false z = true := hz
    by_cases e : z = x
    · rw [e, updI_at] at hz2; cases hz2
    · rw [updI_ne e] at hz2; exact ⟨e, hz2⟩
  refine ⟨fun z hz => h.sub z (cut z hz).2, fun z hz u hu => ?_, fun z hz => (h.snd z hz).wide hw, fun z u hu => ?_⟩
  · rw [hP z (cut z hz).1] at hu
    exact h.clo z (cut z hz).2 u hu
  · by_cases e : z = x
    · rw [e] at hu ⊢
      rw [updI_at]
      rcases hx u hu with e2 | e2
      · exact List.mem_append.2 (.inl (h.inc x u e2))
      · rw [e2]; simp
    · rw [hP z e] at hu; exact hw z u (h.inc z u hu)
end
/-- None is scanned twice. -/
theorem Scans.once {P : Int → List Int} {c c' : Col} {l : List Int} (h : Scans P c l c') : l.Nodup ∧ (∀ x ∈ l, c.sc x = false ∧ c'.ma x = true) ∧ ∀ x, c.ma x = true → c'.ma x = true := by
  induction h with
  | nil c => exact ⟨List.nodup_nil, (fun x hx => by cases hx), fun _ h => h⟩
  | @cons c c' x l h1 h2 _ ih =>
    obtain ⟨i1, i2, i3⟩ := ih
    have hsx : (c.scan P x).sc x = true := updI_at _ _ _
    have hmk : ∀ y, c.ma y = true → (c.scan P x).ma y = true := fun y hy => by show (c.ma y || _) = true; rw [hy]; rfl
    refine ⟨List.nodup_cons.2 ⟨(fun e => by have := (i2 x e).1; rw [hsx] at this; cases this), i1⟩, fun y hy => ?_, fun y hy => i3 y (hmk y hy)⟩
    rcases List.mem_cons.1 hy with e | e
    · rw [e]; exact ⟨h2, i3 x (hmk x h1)⟩
    · refine ⟨?_, (i2 y e).2⟩
      have h3 : updI c.sc x true y = false := (i2 y e).1
      by_cases e2 : y = x
      · rw [e2, updI_at] at h3; cases h3
      · rw [updI_ne e2] at h3; exact h3
theorem Scans.len {P : Int → List Int} {c c' : Col} {l : List Int} {obs : List Ob} (h : Scans P c l c') (hi : ∀ x, c'.ma x = true → x ∈ refsI obs) : l.length ≤ obs.length := by
  rw [← refsI_length]
  exact nodup_sub h.once.1 fun x hx => hi x (h.once.2.1 x hx).2
/-- A field is set: where all point. -/
theorem ptsAt_set {s s' : ArS} {obs : List Ob} {i j : Nat} {x : Ob} {y : Int} (ho : Objs s obs) (ho' : Objs s' (obs.set i { x with F := Go.Proofs.YtooddbhlanjfbaaGreatDoor.upd x.F j y })) (hx : obs[i]? = some x) :
    (∀ z : Int, z ≠ (x.r : Int) → ptsAt (obs.set i { x with F := Go.Proofs.YtooddbhlanjfbaaGreatDoor.upd x.F j y }) z = ptsAt obs z) ∧ ∀ u ∈ ptsAt (obs.set i { x with F := Go.Proofs.YtooddbhlanjfbaaGreatDoor.upd x.F j y }) (x.r : Int), u ∈ ptsAt obs (x.r : Int) ∨ u = y := by
  have hi : i < obs.length := (List.getElem?_eq_some_iff.1 hx).1
  have hxm : x ∈ obs := List.mem_of_getElem? hx
  have hym : ({ x with F := Go.Proofs.YtooddbhlanjfbaaGreatDoor.upd x.F j y } : Ob) ∈ obs.set i { x with F := Go.Proofs.YtooddbhlanjfbaaGreatDoor.upd x.F j y } := List.mem_of_getElem? (i := i) (by simp [hi])
  refine ⟨fun z hz => ?_, fun u hu => ?_⟩
  · by_cases hin : ∃ q ∈ obs, (q.r : Int) = z
    · obtain ⟨q, hq, rfl⟩ := hin
      obtain ⟨k, hk⟩ := List.mem_iff_getElem?.1 hq
      have hki : k ≠ i := fun e => by rw [e, hx] at hk; cases hk; exact hz rfl
      have hq' : q ∈ obs.set i { x with F := Go.Proofs.YtooddbhlanjfbaaGreatDoor.upd x.F j y } := List.mem_of_getElem? (i := k) (by rw [List.getElem?_set_ne (Ne.symm hki)]; exact hk)
      rw [ptsAt_mem ho' hq', ptsAt_mem ho hq]
    · rw [ptsAt_no (fun q hq e => hin ⟨q, hq, e⟩), ptsAt_no (fun q hq e => ?_)]
      rcases List.mem_or_eq_of_mem_set hq with h1 | h1
      · exact hin ⟨q, h1, e⟩
      · rw [h1] at e; exact hz e.symm
  · have e1 := ptsAt_mem ho' hym
    have e1' : ptsAt (obs.set i { x with F := Go.Proofs.YtooddbhlanjfbaaGreatDoor.upd x.F j y }) (x.r : Int) = pts { x with F := Go.Proofs.YtooddbhlanjfbaaGreatDoor.upd x.F j y } := e1
    rw [e1'] at hu
    rw [ptsAt_mem ho hxm]
    unfold pts elems nz at hu ⊢
    obtain ⟨t, ht, rfl⟩ := List.mem_map.1 hu
    obtain ⟨ht1, ht2⟩ := List.mem_filter.1 ht
    by_cases e : t = j
    · right; show Go.Proofs.YtooddbhlanjfbaaGreatDoor.upd x.F j y t = y; rw [e]; simp [Go.Proofs.YtooddbhlanjfbaaGreatDoor.upd]
    · left
      have e3 : Go.Proofs.YtooddbhlanjfbaaGreatDoor.upd x.F j y t = x.F t := by simp [Go.Proofs.YtooddbhlanjfbaaGreatDoor.upd, e]
      refine List.mem_map.2 ⟨t, List.mem_filter.2 ⟨ht1, ?_⟩, e3.symm⟩
      have ht3 : decide (¬ Go.Proofs.YtooddbhlanjfbaaGreatDoor.upd x.F j y t = 0) = true := by simpa using ht2
      rw [e3] at ht3
      simpa using ht3
end Go.Proofs.YtooddbhlanjfbaaGreatDoor

namespace Go.Proofs.YtooddbhlanjfbaaGreatDoor
open Go Go.RowKit Go.Shelf
set_option linter.unusedSimpArgs false
set_option linter.unusedVariables false

theorem neqM {P : Program} (w : World) {tp te : TypeId} {j : TypeInfo} (a : Addr) (hp : P.underlying tp = some (.pointer te)) (hte : P.info? te = some j) :
    (binOp .neq tp (.pointer (some a)) (.pointer (some a))).run P w = .ok (.bool false) w := by
  have h : ∀ d : Nat, (Op.equalIn (d + 1) tp (.pointer (some a)) (.pointer (some a))).run P w = .ok true w := fun d => by
    simp [Op.equalIn, run_underlying hp, sizeOf, typeInfo, hte, run_sameAddr_same]
  simp only [binOp]
  simp [Op.equal, Op.maxDepth, h 9999]
theorem neqArena (a : Nat) (w : World) : (binOp .neq 32 (.pointer (some ⟨a, 0, none⟩)) (.pointer (some ⟨a, 0, none⟩))).run Tryz.prog w = .ok (.bool false) w := by
  obtain ⟨j, hj⟩ := Option.isSome_iff_exists.1 (show (Tryz.prog.info? 112).isSome = true by kernel_rfl)
  exact neqM w _ Tryz.underlying32 hj

theorem u8_and_maskC (x : Int) (m : Nat) (hm : m < 256) : ∃ r : Nat, r ≤ m ∧ bits .and .u8 x (m : Int) = (r : Int) := by
  refine ⟨(BitVec.ofInt 8 x).toNat &&& m, Nat.and_le_right, ?_⟩
  have h2 : (BitVec.ofInt 8 (m : Int)).toNat = m := by
    rw [BitVec.ofInt_natCast, BitVec.toNat_ofNat]; exact Nat.mod_eq_of_lt (by omega)
  show IntKind.u8.wrap ((BitVec.ofInt 8 x &&& BitVec.ofInt 8 (m : Int)).toNat : Int) = _
  rw [BitVec.toNat_and, h2]
  have h3 : (BitVec.ofInt 8 x).toNat &&& m ≤ m := Nat.and_le_right
  generalize (BitVec.ofInt 8 x).toNat &&& m = r at *
  simp [IntKind.wrap, IntKind.bits, IntKind.signed]
  omega
set_option maxRecDepth 100000 in
set_option maxHeartbeats 4000000 in

def colV (c : Col) (x : Int) : Int := if c.sc x = true then 2 else if c.ma x = true then 1 else 0
/-- A map tells of so many objects which colour they have. -/
structure Hue (R : List Int) (c : Col) (f : Int → Int) : Prop where
  sub : ∀ x, c.sc x = true → c.ma x = true
  is : ∀ x ∈ R, f x = colV c x
section
variable {R : List Int} {c : Col} {f : Int → Int} {x : Int}
theorem hue_white : Hue R Col.white (fun _ => 0) := ⟨fun x h => (by cases h), fun x _ => rfl⟩
theorem Hue.set {c' : Col} {v : Int} (h : Hue R c f) (hs : ∀ y, c'.sc y = true → c'.ma y = true) (hx : colV c' x = v) (ho : ∀ y, y ≠ x → colV c' y = colV c y) : Hue R c' (updI f x v) := by
  refine ⟨hs, fun y hy => ?_⟩
  by_cases e : y = x
  · rw [e, updI_at, hx]
  · rw [updI_ne e, ho y e, h.is y hy]
theorem colV_ne {c c' : Col} {y : Int} (h1 : c'.ma y = c.ma y) (h2 : c'.sc y = c.sc y) : colV c' y = colV c y := by unfold colV; rw [h1, h2]
theorem Hue.shade (h : Hue R c f) (hx : x ∈ R) : Hue R (c.shade x) (updI f x (if f x < 1 then 1 else f x)) := by
  refine h.set (fun y hy => ?_) ?_ (fun y e => colV_ne (by show updI c.ma x true y = c.ma y; rw [updI_ne e]) rfl)
  · show updI c.ma x true y = true
    by_cases e : y = x
    · rw [e, updI_at]
    · rw [updI_ne e]; exact h.sub y hy
  · rw [h.is x hx]
    have e1 : (c.shade x).ma x = true := updI_at _ _ _
    have e2 : (c.shade x).sc x = c.sc x := rfl
    unfold colV
    rw [e1, e2]
    cases c.sc x <;> cases c.ma x <;> simp
theorem Hue.black (h : Hue R c f) : Hue R (c.black x) (updI f x 2) := by
  refine h.set (fun y hy => ?_) ?_ (fun y e => colV_ne (by show updI c.ma x true y = c.ma y; rw [updI_ne e]) (by show updI c.sc x true y = c.sc y; rw [updI_ne e]))
  · show updI c.ma x true y = true
    have hy2 : updI c.sc x true y = true := hy
    by_cases e : y = x
    · rw [e, updI_at]
    · rw [updI_ne e] at hy2 ⊢; exact h.sub y hy2
  · unfold colV
    rw [show (c.black x).sc x = true from updI_at _ _ _]; simp
theorem Hue.regrey (h : Hue R c f) (hx : x ∈ R) (h2 : c.sc x = true) : Hue R (c.regrey x) (updI f x 1) := by
  refine h.set (fun y hy => ?_) ?_ (fun y e => colV_ne rfl (by show updI c.sc x false y = c.sc y; rw [updI_ne e]))
  · have hy2 : updI c.sc x false y = true := hy
    by_cases e : y = x
    · rw [e, updI_at] at hy2; cases hy2
    · rw [updI_ne e] at hy2; exact h.sub y hy2
  · unfold colV
    rw [show (c.regrey x).sc x = false from updI_at _ _ _, show (c.regrey x).ma x = true from h.sub x h2]; simp
theorem Col.regrey_no (h : c.sc x = false) : c.regrey x = c := by unfold Col.regrey; rw [updI_same h]
theorem Hue.forget (h : Hue R c f) : Hue R (c.forget x) (updI f x 0) := by
  refine h.set (fun y hy => ?_) ?_ (fun y e => colV_ne (by show updI c.ma x false y = c.ma y; rw [updI_ne e]) (by show updI c.sc x false y = c.sc y; rw [updI_ne e]))
  · have hy2 : updI c.sc x false y = true := hy
    show updI c.ma x false y = true
    by_cases e : y = x
    · rw [e, updI_at] at hy2; cases hy2
    · rw [updI_ne e] at hy2 ⊢; exact h.sub y hy2
  · unfold colV
    rw [show (c.forget x).sc x = false from updI_at _ _ _, show (c.forget x).ma x = false from updI_at _ _ _]; simp
theorem Hue.zero (h : Hue R c f) (hx : x ∈ R) : decide (f x = 0) = !c.ma x := by
  rw [h.is x hx]; unfold colV
  have := h.sub x
  cases hs : c.sc x <;> cases hm : c.ma x <;> simp_all
theorem Hue.two (h : Hue R c f) (hx : x ∈ R) : decide (f x = 2) = c.sc x := by
  rw [h.is x hx]; unfold colV
  cases c.sc x <;> cases c.ma x <;> simp
theorem Hue.range (h : Hue R c f) (hx : x ∈ R) : f x = 0 ∨ f x = 1 ∨ f x = 2 := by
  rw [h.is x hx]; unfold colV
  cases c.sc x <;> cases c.ma x <;> simp
end
section
variable {B mb n rb bx tm : Nat} {X : ArB} {s : ArS} {obs : List Ob} {vl : Value} {f : Int → Value} {adj : Int → List Int} {E : Nat → Prop} {T T' : MkB} {c c' : Col} {wb wr w' : World} {hue : Int → Int}
theorem GmIn.shade0 (h : GmIn B mb n X s obs vl f adj E T c wb wr) : Calls Tryz.prog 15 #[.pointer (some ⟨T.m, 0, none⟩), .int .i64 0] wr fun e w' => e = .returned (.bool false) ∧ Below wr.heap.size wr w' :=
  mkShadeNo h.mt h.go.ar.at_.toArMem 0 (by
    cases hS : inS s.S 0 with
    | false => rfl
    | true =>
      have h2 : s.S 0 = true := by simpa [inS] using hS
      have := (h.go.ar.at_.fits.at_ 0 h2).1
      omega)
theorem GmIn.blacken0 (h : GmIn B mb n X s obs vl f adj E T c wb wr) : Calls Tryz.prog 28 #[.pointer (some ⟨T.m, 0, none⟩), .int .i64 0] wr fun e w' => e = .returned (.tuple #[]) ∧ Below wr.heap.size wr w' :=
  mkBlackenNo h.mt h.go.ar.at_.toArMem 0 (by
    cases hS : inS s.S 0 with
    | false => rfl
    | true =>
      have h2 : s.S 0 = true := by simpa [inS] using hS
      have := (h.go.ar.at_.fits.at_ 0 h2).1
      omega)
/-- A marker, and the map of colours in its box. -/
structure McA (B mb n rb bx tm q : Nat) (X : ArB) (s : ArS) (obs : List Ob) (vl : Value) (f : Int → Value) (adj : Int → List Int) (wb : World) (hue : Int → Int) (T : MkB) (c : Col) (wr : World) : Prop where
  gm : GmIn B mb n X s obs vl f adj (fun k => k = rb ∨ k = bx) T c wb wr
  tme : T.m = tm
  box : Blk wr bx #[.map (some rb)] 42
  map : ∃ nn K cc, nn ≤ q ∧ MapIn wr rb nn hue K cc
  far : B ≤ rb ∧ ¬ GoHas X mb vl f rb
  hue : Hue (refsI obs) c hue
theorem McA.ask {q : Nat} (h : McA B mb n rb bx tm q X s obs vl f adj wb hue T c wr) (hB : Below wr.heap.size wr w') : McA B mb n rb bx tm q X s obs vl f adj wb hue T c w' := by
  obtain ⟨nn, K, cc, hn, hM⟩ := h.map
  exact ⟨h.gm.ask hB, h.tme, h.box.turn (Turn.ofBelow hB) (fun e => Nat.lt_irrefl _ (Nat.lt_of_lt_of_le h.box.lt e)), ⟨nn, K, cc, hn, hM.ask hB⟩, h.far, h.hue⟩
theorem McA.up {q q' : Nat} (h : McA B mb n rb bx tm q X s obs vl f adj wb hue T c wr) (hq : q ≤ q') : McA B mb n rb bx tm q' X s obs vl f adj wb hue T c wr := by
  obtain ⟨nn, K, cc, hn, hM⟩ := h.map
  exact ⟨h.gm, h.tme, h.box, ⟨nn, K, cc, by omega, hM⟩, h.far, h.hue⟩
theorem McA.look {q : Nat} (h : McA B mb n rb bx tm q X s obs vl f adj wb hue T c wr) (x : Int) (hx : (Lit.int .i64 x).wf = true) (v : Int) (hv : hue x = v) :
    (Instr.lookup 42 (.map (some rb)) (.int .i64 x) false).run Tryz.prog wr = .ok (.int .i64 v) wr := by
  obtain ⟨nn, K, cc, hn, hM⟩ := h.map
  subst hv
  exact hM.look x hx
theorem McA.cell {q : Nat} (h : McA B mb n rb bx tm q X s obs vl f adj wb hue T c wr) : wr.cell? ⟨bx, 0, none⟩ = some (.map (some rb)) := h.box.cell 0
/-- A marker's call, ahead of the map's. -/
structure McS (B mb n rb bx tm q : Nat) (X : ArB) (s : ArS) (obs : List Ob) (vl : Value) (f : Int → Value) (adj : Int → List Int) (wb : World) (hue : Int → Int) (T : MkB) (c : Col) (wr : World) : Prop where
  gm : GmIn B mb n X s obs vl f adj (fun k => k = rb ∨ k = bx) T c wb wr
  tme : T.m = tm
  box : Blk wr bx #[.map (some rb)] 42
  map : ∃ nn K cc, nn ≤ q ∧ MapIn wr rb nn hue K cc
  far : B ≤ rb ∧ ¬ GoHas X mb vl f rb
theorem McA.went {q : Nat} (h : McA B mb n rb bx tm q X s obs vl f adj wb hue T c wr) (hm : T'.m = tm) (hG : GmIn B mb n X s obs vl f adj (fun k => k = rb ∨ k = bx) T' c' wb w') (hk : ∀ k, (k = rb ∨ k = bx) → w'.heap[k]? = wr.heap[k]?) : McS B mb n rb bx tm q X s obs vl f adj wb hue T' c' w' := by
  obtain ⟨nn, K, cc, hn, hM⟩ := h.map
  exact ⟨hG, hm, by have h1 := h.box; unfold Blk at *; rw [hk bx (.inr rfl)]; exact h1, ⟨nn, K, cc, hn, hM.keep (hk rb (.inl rfl))⟩, h.far⟩
theorem McA.plain {q : Nat} (h : McA B mb n rb bx tm q X s obs vl f adj wb hue T c wr) : McS B mb n rb bx tm q X s obs vl f adj wb hue T c wr := ⟨h.gm, h.tme, h.box, h.map, h.far⟩
theorem McS.look {q : Nat} (h : McS B mb n rb bx tm q X s obs vl f adj wb hue T c wr) (x : Int) (hx : (Lit.int .i64 x).wf = true) (v : Int) (hv : hue x = v) :
    (Instr.lookup 42 (.map (some rb)) (.int .i64 x) false).run Tryz.prog wr = .ok (.int .i64 v) wr := by
  obtain ⟨nn, K, cc, hn, hM⟩ := h.map
  subst hv
  exact hM.look x hx
theorem McS.cell {q : Nat} (h : McS B mb n rb bx tm q X s obs vl f adj wb hue T c wr) : wr.cell? ⟨bx, 0, none⟩ = some (.map (some rb)) := h.box.cell 0
theorem McS.ok {q : Nat} (h : McS B mb n rb bx tm q X s obs vl f adj wb hue T c wr) (hh : Hue (refsI obs) c hue) : McA B mb n rb bx tm q X s obs vl f adj wb hue T c wr := ⟨h.gm, h.tme, h.box, h.map, h.far, hh⟩
/-- The map is told a colour. -/
theorem McS.put {q : Nat} (h : McS B mb n rb bx tm q X s obs vl f adj wb hue T c wr) (hq : q ≤ 100000) (x : Int) (hx : (Lit.int .i64 x).wf = true) (v : Int) (hv : (Lit.int .i64 v).wf = true) (hh : Hue (refsI obs) c (updI hue x v)) :
    ∃ w', (Instr.mapUpdate 42 (.map (some rb)) (.int .i64 x) (.int .i64 v)).run Tryz.prog wr = .ok () w' ∧ McA B mb n rb bx tm (q + 1) X s obs vl f adj wb (updI hue x v) T c w' := by
  obtain ⟨nn, K, cc, hn, hM⟩ := h.map
  obtain ⟨w', hrun, hM', hT⟩ := hM.store (by omega) x hx v hv
  have hne : ¬ bx = rb := fun e => hM.farBlk h.box e
  exact ⟨w', hrun, ⟨h.gm.turnE hT (fun k e => ⟨.inl e, e ▸ h.far.1, e ▸ h.far.2⟩), h.tme, h.box.turn hT hne, ⟨_, _, _, by omega, hM'⟩, h.far, hh⟩⟩
end
section
variable {B mb n rb bx tm : Nat} {X : ArB} {s : ArS} {obs : List Ob} {vl : Value} {f : Int → Value} {adj : Int → List Int} {E : Nat → Prop} {T T' : MkB} {c c' : Col} {wb wr w' : World} {hue : Int → Int}
theorem GmIn.regreyW (h : GmIn B mb n X s obs vl f adj E T c wb wr) (x : Int) : Calls Tryz.prog 173 #[.pointer (some ⟨T.m, 0, none⟩), .int .i64 x] wr fun e w' =>
    e = .returned (.bool (c.sc x)) ∧ ∃ T', T'.m = T.m ∧ GmIn B mb n X s obs vl f adj E T' (c.regrey x) wb w' ∧ ∀ k, E k → w'.heap[k]? = wr.heap[k]? := by
  refine (h.at_.regrey x).mono ?_
  rintro e w1 ⟨rfl, T', hA, hS⟩
  obtain ⟨g, hE⟩ := h.step hA hS h.inn
  exact ⟨rfl, T', hS.m, g, hE⟩
theorem GmIn.arena (h : GmIn B mb n X s obs vl f adj E T c wb wr) : Calls Tryz.prog 57 #[.pointer (some ⟨T.m, 0, none⟩)] wr fun e w' => e = .returned (.pointer (some ⟨X.a, 0, none⟩)) ∧ wr = w' := mkArena h.mt
end
/-- How many of the first are marked; is one of them grey? -/
def cntM (c : Col) (R : List Int) (i : Nat) : Nat := (R.take i).countP c.ma
def anyG (c : Col) (R : List Int) (i : Nat) : Bool := (R.take i).any (greyC c)
section
variable {c : Col} {R : List Int} {i : Nat} {x : Int}
theorem cntM_yes (hx : R[i]? = some x) (h : c.ma x = true) : cntM c R (i + 1) = cntM c R i + 1 := by
  unfold cntM
  rw [List.take_add_one, hx, List.countP_append]; simp [h]
theorem cntM_no (hx : R[i]? = some x) (h : c.ma x = false) : cntM c R (i + 1) = cntM c R i := by
  unfold cntM
  rw [List.take_add_one, hx, List.countP_append]; simp [h]
theorem cntM_le (c : Col) (R : List Int) (i : Nat) : cntM c R i ≤ i := by
  unfold cntM
  have h1 := List.countP_le_length (p := c.ma) (l := R.take i)
  have h2 := List.length_take_le i R
  omega
theorem anyG_next (hx : R[i]? = some x) : anyG c R (i + 1) = (anyG c R i || greyC c x) := by
  unfold anyG
  rw [List.take_add_one, hx, List.any_append]; simp
theorem anyG_dry (hi : ∀ x, c.ma x = true → x ∈ R) : (!anyG c R R.length) = true ↔ c.dry := by
  unfold anyG
  rw [List.take_length]
  constructor
  · intro h x hx
    cases hs : c.sc x with
    | true => rfl
    | false =>
      have : R.any (greyC c) = true := List.any_eq_true.2 ⟨x, hi x hx, by unfold greyC; rw [hx, hs]; rfl⟩
      rw [this] at h; cases h
  · intro h
    cases ha : R.any (greyC c) with
    | false => rfl
    | true =>
      obtain ⟨x, _, hx⟩ := List.any_eq_true.1 ha
      unfold greyC at hx
      cases hm : c.ma x with
      | false => rw [hm] at hx; cases hx
      | true => rw [hm, h x hm] at hx; cases hx
theorem cntM_all (c : Col) (R : List Int) : cntM c R R.length = (R.filter c.ma).length := by
  unfold cntM
  rw [List.take_length, List.countP_eq_length_filter]
end
/-- The last one that was told, or none. -/
def lastN {S : Nat → Bool} {f : Int → Bool} (q : List (InMk S f)) : Nat := (tmVals q).getLast?.getD 0
theorem lastN_snoc {S : Nat → Bool} {f : Int → Bool} (q : List (InMk S f)) (x : InMk S f) : lastN (q ++ [x]) = x.1.val := by
  unfold lastN
  rw [tmVals_append]; simp [tmVals]
/-- Those that were told don't rise. -/
def Falls {S : Nat → Bool} {f : Int → Bool} (q : List (InMk S f)) : Prop := ¬ (tmVals q).Pairwise (· < ·)
theorem falls_of {S : Nat → Bool} {f : Int → Bool} {q : List (InMk S f)} {x : InMk S f} (h1 : 1 ≤ x.1.val) (h : x.1.val ≤ lastN q) : Falls (q ++ [x]) := fun hp => by
  rw [tmVals_append] at hp
  have h2 := (List.pairwise_append.1 hp).2.2
  unfold lastN at h
  cases hl : (tmVals q).getLast? with
  | none => rw [hl] at h; simp at h; omega
  | some y =>
    rw [hl] at h
    have := h2 y (List.mem_of_getLast? hl) x.1.val (by simp [tmVals])
    simp at h; omega
theorem falls_not {S S0 : Nat → Bool} {f : Int → Bool} {q : List (InMk S f)} {j : Nat} (h : tmVals q = soL f (elems S0 j)) : ¬ Falls q := fun hf => hf (by
  rw [h]
  unfold soL elems
  exact (List.pairwise_lt_range.filter _).filter _)
end Go.Proofs.YtooddbhlanjfbaaGreatDoor
