/- A row of refs that grows, at this seat's numbers (CellPoints). -/
import Derived.Test.YtoemfehlnnbjdaaDoorMkM
import Derived.OwnWalkIn
namespace Go.Proofs.YtoemfehlnnbjdaaDoor
open Go Go.RowKit Go.Shelf
set_option linter.unusedSimpArgs false
set_option linter.unusedVariables false
attribute [local go_sem] Oper.semAt_some

def RefRow (w : World) (v : Value) (l : List Int) : Prop := w.ownsRow 0 31 1 v l.length (l.map fun r => Value.int .i64 r)
theorem RefRow.is {w : World} {v : Value} {l : List Int} (h : RefRow w v l) : (v = .slice none 0 0 ∧ l = []) ∨ ∃ g cap cur, v = .slice (some ⟨g, 0, none⟩) l.length cap ∧ Blk w g cur 31 ∧ l.length ≤ cap ∧ cap ≤ 9223372036854775807 ∧ cur.size = cap ∧ ∀ k (hk : k < l.length), w.cell? ⟨g, k, none⟩ = some (.int .i64 l[k]) := by
  have h0 := h
  rcases h.2 with ⟨h1, h2⟩ | ⟨g, cap, cur, rfl, _, hg, hn, hm, hs, ht⟩
  · exact .inl ⟨h1, List.length_eq_zero_iff.1 h2⟩
  · refine .inr ⟨g, cap, cur, rfl, hg, hn, hm, by simpa using hs, fun k hk => ?_⟩
    have hc := World.ownsRow.cells h0 (g := g) rfl k (.int .i64 l[k]) (by simp [hk])
    rw [Addr.add_lit, Nat.zero_add] at hc
    exact hc
theorem RefRow.own {w : World} {v : Value} {l : List Int} (h : RefRow w v l) {k : Nat} (hk : v.ownBlock = some k) : ∃ cur, Blk w k cur 31 := by
  rcases h.is with ⟨rfl, _⟩ | ⟨g, cap, cur, rfl, hg, _⟩
  · cases hk
  · have : g = k := by simpa [Value.ownBlock] using hk
    subst this
    exact ⟨cur, hg⟩
theorem RefRow.turn {M : Nat → Prop} {w w' : World} {v : Value} {l : List Int} (h : RefRow w v l) (hT : Turn M w w') (hn : ∀ k, v.ownBlock = some k → ¬ M k) : RefRow w' v l := by
  refine ⟨h.1, ?_⟩
  rcases h.2 with h1 | ⟨g, cap, cur, rfl, hb, hg, rest⟩
  · exact .inl h1
  · exact .inr ⟨g, cap, cur, rfl, hb, (hT.block g (Array.getElem?_eq_some_iff.1 hg).1 (hn g rfl)).trans hg, rest⟩
theorem RefRow.lenRun {w : World} {v : Value} {l : List Int} (h : RefRow w v l) (ty : TypeId) (W : World) : (Builtin.len_ #[32] ty #[v]).run Tryd.prog W = .ok (.int .i64 (l.length : Int)) W := by
  rcases h.is with ⟨rfl, rfl⟩ | ⟨g, cap, cur, rfl, _⟩
  · kernel_rfl
  · simp [go_sem, Builtin.len_]
/-- append of one, in a fence. -/
theorem wpListIn_pushW {F : Fence} {n0 : Nat} {ops : Array Oper} {rest : List Oper} {o : Oper} {a : Act} {Q : Exit → Act → World → Prop} {v : Value} {l : List Int} {w : World} (hgd : o.guard = none) (s x : Operand)
    (ho : o.op = .call { callee := .builtin .append, args := #[s, x], argTypes := #[32, 32] }) (h : RefRow w v l) (hl : l.length ≤ 1000000) (ad c : Nat) (r : Int) (hr : w.cell? ⟨ad, 0, none⟩ = some (.int .i64 r))
    (hs : a.eval s = v) (hx : a.eval x = .slice (some ⟨ad, 0, none⟩) 1 c) (hK : ∀ g n cap w', RefRow w' (.slice (some ⟨g, 0, none⟩) n cap) (l ++ [r]) → Turn (fun k => v.ownBlock = some k) w w' → (v.ownBlock = some g ∨ w.heap.size ≤ g) → wpListIn F n0 Tryd.prog ops Q rest (a.put o.dst (.slice (some ⟨g, 0, none⟩) n cap)) w') : wpListIn F n0 Tryd.prog ops Q (o :: rest) a w := by
  obtain ⟨i0, hi, hz0, hz1, hz2⟩ := info_parts infoRefM
  refine wpListIn_plain hgd fun K hK' => ?_
  obtain ⟨v', w', hrun, h2, h3, h4⟩ := run_append_atM (P := Tryd.prog) w 32 o.type 31 i0 (.int .i64 0) 1 8 Tryd.underlying32 hi hz0 hz1 hz2 rfl v l.length _ h ⟨ad, 0, none⟩ 1 c [.int .i64 r] rfl (fun j u hj => by
    match j, hj with
    | 0, hj => simp at hj; subst hj; simpa [Addr.add] using hr) (fun u hu => by simp at hu; subst hu; rfl) (by decide) (by unfold maxLen; omega) (by omega)
  have hR : RefRow w' v' (l ++ [r]) := by
    unfold RefRow
    rw [List.length_append, List.map_append]
    exact h2
  rcases hR.is with ⟨_, e⟩ | ⟨g, cap, cur, rfl, _⟩
  · simp at e
  · have e1 : (l ++ [r]).length = l.length + 1 := by simp
    rw [e1] at hR hrun
    unfold Oper.wpIn
    refine ⟨?_, ?_⟩
    · simp [Oper.about, ho, resolve, Target.leads, Sem.run_pure]
    · rw [Oper.semAt_plain F _ _ (by rw [ho]; intro c hc'; cases hc')]
      simp [execOp, ho, resolve, invoke, builtin, hs, hx, hrun, Result.andThen]
      exact hK' _ _ (hK g _ cap w' hR (Turn.ofGrownM h3) (h4 g rfl))

theorem RefRow.keptW {W W' : World} {v : Value} {l : List Int} {row : Option Nat} (h : RefRow W v l) (hg : W.grownBy W' row) (hrow : ∀ r, row = some r → ∃ o : Obj, W.heap[r]? = some o ∧ o.isCells = false) : RefRow W' v l := by
  refine ⟨h.1, ?_⟩
  rcases h.2 with h1 | ⟨g, cap, cur, rfl, hb, hgg, rest⟩
  · exact .inl h1
  · exact .inr ⟨g, cap, cur, rfl, hb, Blk.kept (T := 31) hgg hg hrow, rest⟩
theorem RefRow.lt {w : World} {v : Value} {l : List Int} (h : RefRow w v l) {k : Nat} (hk : v.ownBlock = some k) : k < w.heap.size := by
  obtain ⟨cs, hb⟩ := h.own hk
  exact hb.lt
theorem Turn.grown {M : Nat → Prop} {W V V' : World} {row : Option Nat} {m : Nat} (h : Turn M W V) (hm : W.heap.size ≤ m) (hg : V.grownBy V' row) (hr : ∀ r, row = some r → m ≤ r) : Turn M W V' :=
  ⟨hg.os.trans h.os, hg.tape.trans h.tape, hg.output.trans h.output, Nat.le_trans h.size hg.size, fun k hk hn => (hg.block k (by have := h.size; omega) (fun e => by have := hr k e.symm; omega)).trans (h.block k hk hn)⟩
/-- A box of a row that grows: but for it and its row nothing that lay in V7 has turned. -/
structure WantI (wx : Nat) (V7 : World) (l : List Int) (vw : Value) (V : World) : Prop where
  box : Blk V wx #[vw] 32
  row : RefRow V vw l
  new : ∀ k, vw.ownBlock = some k → V7.heap.size ≤ k
  turn : Turn (fun k => k = wx) V7 V
theorem WantI.grown {wx m : Nat} {V7 V V' : World} {l : List Int} {vw : Value} {row : Option Nat} (h : WantI wx V7 l vw V) (hm : V7.heap.size ≤ m) (hg : V.grownBy V' row) (hr : ∀ r, row = some r → m ≤ r ∧ ∃ o : Obj, V.heap[r]? = some o ∧ o.isCells = false) : WantI wx V7 l vw V' :=
  ⟨h.box.kept hg (fun r e => (hr r e).2), h.row.keptW hg (fun r e => (hr r e).2), h.new, h.turn.grown hm hg (fun r e => (hr r e).1)⟩
theorem WantI.alloc {wx : Nat} {V7 V : World} {l : List Int} {vw : Value} (h : WantI wx V7 l vw V) (o : Obj) : WantI wx V7 l vw (V.alloc o) :=
  ⟨h.box.alloc o, h.row.turn ((Turn.refl (fun _ => False) V).alloc o) (fun _ _ h => h), h.new, h.turn.alloc o⟩
theorem WantI.ltO {wx : Nat} {V7 V : World} {l : List Int} {vw : Value} (h : WantI wx V7 l vw V) {k : Nat} (e : vw.ownBlock = some k) : k < V.heap.size := by
  obtain ⟨_, hb⟩ := h.row.own e
  exact hb.lt
theorem WantI.push {wx g n cap : Nat} {V7 V w6 : World} {l p : List Int} {vw : Value} {o : Obj} (h : WantI wx V7 l vw V) (hwx : wx < V7.heap.size) (hR : RefRow w6 (.slice (some ⟨g, 0, none⟩) n cap) p) (hT : Turn (fun k => vw.ownBlock = some k) (V.alloc o) w6) (hg : vw.ownBlock = some g ∨ (V.alloc o).heap.size ≤ g) :
    Blk w6 wx #[vw] 32 ∧ WantI wx V7 p (.slice (some ⟨g, 0, none⟩) n cap) (w6.setCell ⟨wx, 0, none⟩ (.slice (some ⟨g, 0, none⟩) n cap)) ∧
      Turn (fun k => vw.ownBlock = some k ∨ k = wx) V (w6.setCell ⟨wx, 0, none⟩ (.slice (some ⟨g, 0, none⟩) n cap)) ∧ (vw.ownBlock = some g ∨ V.heap.size ≤ g) ∧ g < (w6.setCell ⟨wx, 0, none⟩ (.slice (some ⟨g, 0, none⟩) n cap)).heap.size := by
  have hva : (V.alloc o).heap.size = V.heap.size + 1 := by simp
  have h1 := h.alloc o
  have hwx2 : vw.ownBlock ≠ some wx := fun e => by
    obtain ⟨_, hb⟩ := h1.row.own e
    exact blk_types hb h1.box (by decide)
  have hb := h1.box.turn hT hwx2
  have hgw : g ≠ wx := fun e => by
    obtain ⟨_, hb2⟩ := hR.own (k := g) rfl
    rw [e] at hb2
    exact blk_types hb2 hb (by decide)
  have hgl : g < w6.heap.size := by
    obtain ⟨_, hb2⟩ := hR.own (k := g) rfl
    exact hb2.lt
  have hS : Turn (fun k => k = wx) w6 (w6.setCell ⟨wx, 0, none⟩ (.slice (some ⟨g, 0, none⟩) n cap)) := (Turn.refl _ w6).set _ _ (.inr rfl)
  have hsV := h.turn.size
  refine ⟨hb, ⟨(hb.setAt 0 _).is (by simp), hR.turn hS (fun k e e2 => hgw ((ptr_slice e).trans e2)), fun k e => ?_, ?_⟩, ?_, ?_, by simpa using hgl⟩
  · have e2 := ptr_slice e
    subst e2
    rcases hg with e3 | e3
    · exact h.new _ e3
    · omega
  · refine ((h.turn.alloc o).trans hT (fun k hk e => ?_)).trans hS (fun k hk e => e)
    have := h.new k e
    omega
  · refine (((Turn.refl (fun k => vw.ownBlock = some k ∨ k = wx) V).alloc o).trans hT (fun k hk e => .inl e)).trans hS (fun k hk e => .inr e)
  · rcases hg with e | e
    · exact .inl e
    · exact .inr (by omega)
end Go.Proofs.YtoemfehlnnbjdaaDoor
