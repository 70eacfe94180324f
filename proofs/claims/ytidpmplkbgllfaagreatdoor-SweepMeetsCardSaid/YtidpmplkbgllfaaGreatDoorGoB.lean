/- What a range over an object's fields whose rounds write a map asks; plain but for the arena's words. -/
import Derived.Test.YtidpmplkbgllfaaGreatDoorGoA
import Derived.Test.YtidpmplkbgllfaaGreatDoorGrow
import Derived.Test.YtidpmplkbgllfaaGreatDoorCalm
import Derived.RangeFuncWrites
import Derived.RangeFuncBox
namespace Go.Proofs.YtidpmplkbgllfaaGreatDoor
open Go Go.RowKit Go.Shelf
set_option linter.unusedSimpArgs false
set_option linter.unusedVariables false

/-- A block of a loop's deferred calls. -/
def IsDef (w : World) (k : Nat) : Prop := ∃ ds, w.heap[k]? = some (.deferred ds)
/-- What leaves marks of loops behind turns their blocks alone. -/
theorem leavesP_marksG {P : Program} {fn : Func} {tmps : Array Value} {R : Ending → World → Prop} {B : Nat} : ∀ {ds : List Deferred} {hi : Nat} {w : World}, Marks B hi ds w →
    (∀ w', Turn (fun k => B ≤ k ∧ IsDef w k) w w' → Leaves P fn tmps R [] .returning w') → LeavesP P fn tmps R ds .returning w
  | [], hi, w, _, h => h w (Turn.refl _ w)
  | _ :: ds, hi, w, ⟨D, h1, h2, h3, h4, h5⟩, h => by
    subst h1
    refine ⟨by simp, .inl ⟨D, _, rfl, run_takeDeferred h4, ?_⟩⟩
    have hDl : D < w.heap.size := (Array.getElem?_eq_some_iff.1 h4).1
    have hT0 : Turn (fun k => B ≤ k ∧ IsDef w k) w (w.putObj D (.deferred none)) := ⟨rfl, rfl, rfl, by simp, fun k hk hn => World.putObj_heap_other (fun e => hn (by subst e; exact ⟨h2, _, h4⟩))⟩
    refine leavesP_marksG (hi := D) (w := w.putObj D (.deferred none)) (h5.keep fun k a b c => by rw [World.putObj_heap_other (by omega)]; exact c) fun w' hT => h w' (hT0.trans hT ?_)
    rintro k hk ⟨hB, d, hd⟩
    refine ⟨hB, ?_⟩
    by_cases e : k = D
    · subst e; exact ⟨_, h4⟩
    · rw [World.putObj_heap_other e] at hd; exact ⟨d, hd⟩
theorem KeepsFrom.ofTurn {M : Nat → Prop} {B : Nat} {W W' : World} (hT : Turn M W W') (h : ∀ k o, M k → B ≤ k → W.heap[k]? = some o → o.isCells = true) : KeepsFrom B W W' :=
  ⟨hT.size, fun k o hB hk ho => (hT.block k (Array.getElem?_eq_some_iff.1 hk).1 (fun e => by have := h k o e hB hk; rw [this] at ho; cases ho)).trans hk⟩
/-- A store in a map, whose run is known. -/
theorem wpList_mapUpdate_run {P : Program} (w : World) {ops : Array Oper} {rest : List Oper} {o : Oper} {a : Act} {Q : Exit → Act → World → Prop} (hgd : o.guard = none) (m x v : Operand) (t : TypeId)
    (ho : o.op = .mapUpdate t m x v) (vm vx vv : Value) (hm : a.eval m = vm) (hx : a.eval x = vx) (hv : a.eval v = vv) {w' : World}
    (hr : (Instr.mapUpdate t vm vx vv).run P w = .ok () w') (h : wpList P ops Q rest (a.put o.dst undef) w') : wpList P ops Q (o :: rest) a w :=
  wpList_plain hgd fun _ hK => by
    unfold Oper.wp execOp
    simp only [ho, hm, hx, hv, Sem.run_bind, Sem.run_pure, Result.andThen_ok, hr]
    exact hK _ _ h
theorem step_append_runG {P : Program} {ops : Array Oper} {o : Oper} {a : Act} {w : World} {K : Act → World → Prop} {Q : Exit → Act → World → Prop} {E : Prop}
    (hg : o.guard = none) (d x : Operand) (dT sT : TypeId) (hop : o.op = Op.call { callee := Callee.builtin Builtin.append, args := #[d, x], argTypes := #[dT, sT] })
    (v u : Value) (hd : a.eval d = v) (hx : a.eval x = u) {v' : Value} {w' : World} (hr : (Builtin.append_ #[dT, sT] o.type #[v, u]).run P w = .ok v' w') (hK : K (a.put o.dst v') w') :
    if Region.wanted o (yielded ops a.tmps) = true then Oper.wp P o a w K Q else E := by
  have hw : Region.wanted o (yielded ops a.tmps) = true := by simp [Region.wanted, hg]
  rw [if_pos hw]
  unfold Oper.wp
  simp [execOp, hop, resolve, invoke, builtin, hd, hx, hr, Result.andThen]
  exact hK
theorem step_mapUpdate_runG {P : Program} {ops : Array Oper} {o : Oper} {a : Act} {w : World} {K : Act → World → Prop} {Q : Exit → Act → World → Prop} {E : Prop}
    (hg : o.guard = none) (m x y : Operand) (t : TypeId) (hop : o.op = Op.mapUpdate t m x y) (vm vx vy : Value) (hm : a.eval m = vm) (hx : a.eval x = vx) (hy : a.eval y = vy) {w' : World}
    (hr : (Instr.mapUpdate t vm vx vy).run P w = .ok () w') (hK : K (a.put o.dst undef) w') :
    if Region.wanted o (yielded ops a.tmps) = true then Oper.wp P o a w K Q else E := by
  have hw : Region.wanted o (yielded ops a.tmps) = true := by simp [Region.wanted, hg]
  rw [if_pos hw]
  unfold Oper.wp
  simp [execOp, hop, hm, hx, hy, hr, Result.andThen]
  exact hK
/-- append of one, run. -/
theorem RefRow.append1 {w : World} {v : Value} {l : List Int} (h : RefRow w v l) (hl : l.length ≤ 100000) (ad c : Nat) (r : Int) (hr : w.cell? ⟨ad, 0, none⟩ = some (.int .i64 r)) (ty : TypeId) :
    ∃ v' w', (Builtin.append_ #[28, 28] ty #[v, .slice (some ⟨ad, 0, none⟩) 1 c]).run Tryz.prog w = .ok v' w' ∧ RefRow w' v' (l ++ [r]) ∧ Turn (fun k => v.ownBlock = some k) w w' ∧ ∀ k, v'.ownBlock = some k → v.ownBlock = some k ∨ w.heap.size ≤ k := by
  obtain ⟨i0, hi, hz0, hz1, hz2⟩ := info_parts infoRefT
  obtain ⟨v', w', hrun, h2, h3, h4⟩ := run_append_atM (P := Tryz.prog) w 28 ty 41 i0 (.int .i64 0) 1 8 Tryz.underlying28 hi hz0 hz1 hz2 rfl v l.length _ h ⟨ad, 0, none⟩ 1 c [.int .i64 r] rfl (fun j u hj => by
    match j, hj with
    | 0, hj => simp at hj; subst hj; simpa [Addr.add] using hr) (fun u hu => by simp at hu; subst hu; rfl) (by decide) (by unfold maxLen; omega) (by omega)
  refine ⟨v', w', hrun, ?_, Turn.ofGrownM h3, h4⟩
  unfold RefRow
  rw [List.length_append, List.map_append]
  exact h2
section
variable {B mb n : Nat} {X : ArB} {s : ArS} {obs : List Ob} {vl : Value} {f : Int → Value} {adj : Int → List Int} {wb wr w' : World}
theorem blk_not {w : World} {b : Nat} {cs : Array Value} {T : TypeId} {o : Obj} (h : Blk w b cs T) (ho : w.heap[b]? = some o) : o.isCells = true := by
  unfold Blk at h
  rw [h] at ho
  cases ho
  rfl
/-- What it holds is of cells, but for the map. -/
theorem GoIn.cells (h : GoIn B mb n X s obs vl f adj wb wr) {k : Nat} {o : Obj} (hk : GoHas X mb vl f k) (ho : wr.heap[k]? = some o) : k = mb ∨ o.isCells = true := by
  rcases hk with e | e | e | ⟨x, e⟩
  · by_cases hc : o.isCells = true
    · exact .inr hc
    · exact absurd e (h.ar.at_.farObj ho (by simpa using hc))
  · obtain ⟨_, hb⟩ := h.row.own e
    exact .inr (blk_not hb ho)
  · exact .inl e
  · obtain ⟨_, hb⟩ := (h.grp.row x).own e
    exact .inr (blk_not hb ho)
theorem GoIn.notDef (h : GoIn B mb n X s obs vl f adj wb wr) {k : Nat} (hk : GoHas X mb vl f k) : ¬ IsDef wr k := by
  rintro ⟨ds, hd⟩
  rcases h.cells hk hd with e | e
  · obtain ⟨o, h1, h2⟩ := h.grp.map.block
    rw [e] at hd
    obtain ⟨⟨D, ⟨es, clock, hb, _⟩, _⟩, _⟩ := h.grp.map
    rw [hb] at hd
    cases hd
  · cases e
theorem GoIn.grown {m : Nat} {row : Option Nat} (h : GoIn B mb n X s obs vl f adj wb wr) (hm : mb < m) (hB : B ≤ m) (hg : wr.grownBy w' row) (hr : ∀ r, row = some r → m ≤ r ∧ ∃ o : Obj, wr.heap[r]? = some o ∧ o.isCells = false) : GoIn B mb n X s obs vl f adj wb w' := by
  refine h.turned (Turn.ofGrownM hg) (fun k e e2 => ?_) (fun k hk e => by have := (hr k e).1; omega)
  obtain ⟨h1, o, h2, h3⟩ := hr k e2
  rcases h.cells e h2 with e4 | e4
  · omega
  · rw [e4] at h3; cases h3
/-- A round's store: y is told where x points. -/
theorem GoIn.told {v : Value} {x y : Int} {w1 : World} (h : GoIn B mb n X s obs vl f adj wb wr) (hn : n < 9223372036854775807) (hx : (Lit.int .i64 x).wf = true) (hR : RefRow w1 v (adj x ++ [y])) (hT : Turn (fun k => (f x).ownBlock = some k) wr w1) (hg : ∀ k, v.ownBlock = some k → (f x).ownBlock = some k ∨ wr.heap.size ≤ k) :
    ∃ w', (Instr.mapUpdate 29 (.map (some mb)) (.int .i64 x) v).run Tryz.prog w1 = .ok () w' ∧ GoIn B mb (n + 1) X s obs vl (updI f x v) (updI adj x (adj x ++ [y])) wb w' ∧ Turn (fun k => (f x).ownBlock = some k ∨ k = mb) wr w' := by
  have hm1 : MapSl w1 mb n f := h.grp.map.turn hT (fun e => h.grp.farRow e rfl)
  obtain ⟨w', hrun, hs, hS⟩ := hm1.store hn x hx hR.isRow
  exact ⟨w', hrun, h.grow x hT hR hg hs hS, (hT.mono (fun k _ e => .inl e)).trans hS (fun k _ e => .inr e)⟩
theorem goHas_upd {x : Int} {v : Value} {k : Nat} (h : GoHas X mb vl (updI f x v) k) : GoHas X mb vl f k ∨ v.ownBlock = some k := by
  rcases h with e | e | e | ⟨y, e⟩
  · exact .inl (.inl e)
  · exact .inl (.inr (.inl e))
  · exact .inl (.inr (.inr (.inl e)))
  · by_cases e2 : y = x
    · rw [e2, updI_at] at e; exact .inr e
    · rw [updI_ne e2] at e; exact .inl (.inr (.inr (.inr ⟨y, e⟩)))
end
end Go.Proofs.YtidpmplkbgllfaaGreatDoor
