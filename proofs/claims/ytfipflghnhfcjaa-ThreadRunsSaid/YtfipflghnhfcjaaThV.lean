/- ThreadRuns: a thread, and beside it what the law keeps: a slice of its registers' length and a pile; at this seat's numbers. -/
import Derived.Test.YtfipflghnhfcjaaThU
import Derived.OwnWalkIn
namespace Go.Proofs.Ytfipflghnhfcjaa
open Go Go.RowKit Go.Shelf
set_option linter.unusedSimpArgs false
set_option linter.unusedVariables false
attribute [local go_sem] Oper.semAt_some

theorem RefRow.ofBlk {w : World} {g : Nat} {l : List Int} (h : Blk w g (l.map fun r => Value.int .i64 r).toArray 30) (hl : l.length ≤ 9223372036854775807) : RefRow w (.slice (some ⟨g, 0, none⟩) l.length l.length) l :=
  ⟨by simp, .inr ⟨g, l.length, _, rfl, Nat.zero_le _, h, Nat.le_refl _, by unfold maxLen; omega, by simp, by simp only [Nat.mul_one]; exact List.take_of_length_le (by simp)⟩⟩
theorem RefRow.less {w : World} {g cap : Nat} {q : List Int} {y : Int} (h : RefRow w (.slice (some ⟨g, 0, none⟩) (q.length + 1) cap) (q ++ [y])) : RefRow w (.slice (some ⟨g, 0, none⟩) q.length cap) q := by
  unfold RefRow at h
  rw [List.length_append, List.map_append] at h
  exact ownsRow_pop (last := [.int .i64 y]) (by simp) h
/-- append of one, in a fence. -/
theorem wpListIn_pushT {F : Fence} {n0 : Nat} {ops : Array Oper} {rest : List Oper} {o : Oper} {a : Act} {Q : Exit → Act → World → Prop} {v : Value} {l : List Int} {w : World} (hgd : o.guard = none) (s x : Operand)
    (ho : o.op = .call { callee := .builtin .append, args := #[s, x], argTypes := #[40, 40] }) (h : RefRow w v l) (hl : l.length ≤ 100000) (ad c : Nat) (r : Int) (hr : w.cell? ⟨ad, 0, none⟩ = some (.int .i64 r))
    (hs : a.eval s = v) (hx : a.eval x = .slice (some ⟨ad, 0, none⟩) 1 c) (hK : ∀ g n cap w', RefRow w' (.slice (some ⟨g, 0, none⟩) n cap) (l ++ [r]) → Turn (fun k => v.ownBlock = some k) w w' → (v.ownBlock = some g ∨ w.heap.size ≤ g) → wpListIn F n0 Try.prog ops Q rest (a.put o.dst (.slice (some ⟨g, 0, none⟩) n cap)) w') : wpListIn F n0 Try.prog ops Q (o :: rest) a w := by
  obtain ⟨i0, hi, hz0, hz1, hz2⟩ := info_parts infoRefT
  refine wpListIn_plain hgd fun K hK' => ?_
  obtain ⟨v', w', hrun, h2, h3, h4⟩ := run_append_at (P := Try.prog) w 40 o.type 30 i0 (.int .i64 0) 1 8 Try.underlying40 hi hz0 hz1 hz2 rfl v l.length _ h ⟨ad, 0, none⟩ 1 c [.int .i64 r] rfl (fun j u hj => by
    match j, hj with
    | 0, hj => simp at hj; subst hj; simpa [Addr.add] using hr) (fun u hu => by simp at hu; subst hu; rfl) (by decide) (by unfold maxLen; omega) (by omega)
  have hR : RefRow w' v' (l ++ [r]) := by
    unfold RefRow
    rw [List.length_append, List.map_append]
    exact h2
  rcases hR.is with ⟨_, e⟩ | ⟨g, cap, cur, rfl, _⟩
  · simp at e
  · have e1 : (l ++ [r]).length = l.length + 1 := by simp
    rw [e1] at hR hrun
    unfold Oper.wpIn
    refine ⟨?_, ?_⟩
    · simp [Oper.about, ho, resolve, Target.leads, Sem.run_pure]
    · rw [Oper.semAt_plain F _ _ (by rw [ho]; intro c hc'; cases hc')]
      simp [execOp, ho, resolve, invoke, builtin, hs, hx, hrun, Result.andThen]
      exact hK' _ _ (hK g _ cap w' hR (Turn.ofGrown h3) (h4 g rfl))

structure Rn (B : Nat) (G : Nat → Prop) (t : Nat) (R K : Int) (f : Nat → Int) (st : List Int) (go : Nat) (l : List Int) (vp : Value) (p : List Int) (wb wr : World) : Prop where
  th : ThIn B (fun k => (k = go ∨ vp.ownBlock = some k) ∨ G k) t R K f st wb wr
  own : Blk wr go (l.map fun r => Value.int .i64 r).toArray 30
  pile : RefRow wr vp p
  apart : vp.ownBlock ≠ some go
  low : B ≤ go ∧ ∀ k, vp.ownBlock = some k → B ≤ k
  gap : ∀ k, G k → B ≤ k ∧ k ≠ go ∧ vp.ownBlock ≠ some k
section
variable {B t go : Nat} {G : Nat → Prop} {R K : Int} {f f' : Nat → Int} {st st' l p p' : List Int} {vp vp' : Value} {wb wr w' : World}
theorem RefRow.lt {w : World} {v : Value} {l : List Int} (h : RefRow w v l) {k : Nat} (hk : v.ownBlock = some k) : k < w.heap.size := by
  obtain ⟨cs, hb⟩ := h.own hk
  exact hb.lt
theorem Rn.ask (h : Rn B G t R K f st go l vp p wb wr) (hB : Below wr.heap.size wr w') : Rn B G t R K f st go l vp p wb w' :=
  ⟨h.th.ask hB, h.own.turn (Turn.ofBelow hB) (by have := h.own.lt; omega), h.pile.turn (Turn.ofBelow hB) (fun k e e2 => by have := h.pile.lt e; omega), h.apart, h.low, h.gap⟩
theorem Rn.drew (h : Rn B G t R K f st go l vp p wb wr) : Rn B G t R K f st go l vp p wb wr.drew := h.ask (Below.refl _ wr).drew
theorem Rn.alloc (h : Rn B G t R K f st go l vp p wb wr) (o : Obj) : Rn B G t R K f st go l vp p wb (wr.alloc o) := h.ask ((Below.refl _ wr).alloc (Nat.le_refl _) o)
theorem Rn.read {P : Program} {fn : FuncId} {args : Array Value} {Re : Ending → Prop} (h : Rn B G t R K f st go l vp p wb wr)
    (op : ∀ F : Nat → Prop, ThIn B F t R K f st wb wr → Calls P fn args wr fun e w' => Re e ∧ Below wr.heap.size wr w') :
    Calls P fn args wr fun e w' => Re e ∧ Rn B G t R K f st go l vp p wb w' ∧ ∀ k, G k → w'.heap[k]? = wr.heap[k]? := by
  refine (op _ h.th).mono ?_
  rintro e w' ⟨hR, hB⟩
  exact ⟨hR, h.ask hB, fun k hk => hB.block k (h.th.low k (.inr hk))⟩
theorem Rn.step {P : Program} {fn : FuncId} {args : Array Value} {Re : Ending → Prop} (h : Rn B G t R K f st go l vp p wb wr)
    (op : ∀ F : Nat → Prop, ThIn B F t R K f st wb wr → Calls P fn args wr fun e w' => Re e ∧ ThIn B F t R K f' st' wb w' ∧ Keep F wr w') :
    Calls P fn args wr fun e w' => Re e ∧ Rn B G t R K f' st' go l vp p wb w' ∧ ∀ k, G k → w'.heap[k]? = wr.heap[k]? := by
  refine (op _ h.th).mono ?_
  rintro e w' ⟨hR, hN, hK⟩
  refine ⟨hR, ⟨hN, ?_, ?_, h.apart, h.low, h.gap⟩, fun k hk => hK.block k (.inr hk)⟩
  · exact (hK.block go (.inl (.inl rfl))).trans h.own
  · refine ⟨h.pile.1, ?_⟩
    rcases h.pile.2 with h1 | ⟨g, cap, cur, rfl, hb, hg, rest⟩
    · exact .inl h1
    · exact .inr ⟨g, cap, cur, rfl, hb, (hK.block g (.inl (.inr rfl))).trans hg, rest⟩
/-- A box of a round. -/
theorem Rn.box (h : Rn B (fun _ => False) t R K f st go l vp p wb wr) (o : Obj) : Rn B (fun k => k = wr.heap.size) t R K f st go l vp p wb (wr.alloc o) := by
  have hB := (Below.refl _ wr).alloc (Nat.le_refl _) o
  have h1 := h.alloc o
  refine ⟨h.th.add hB (fun k hk => ?_), h1.own, h1.pile, h.apart, h.low, fun k e => ?_⟩
  · rcases hk with hk | hk
    · exact .inl (.inl hk)
    · exact .inr ⟨Nat.le_of_eq hk.symm, by rw [hk]; simp⟩
  · have e2 : k = wr.heap.size := e
    refine ⟨by have := h.th.size; omega, fun e3 => by have := h.own.lt; omega, fun e3 => by have := h.pile.lt e3; omega⟩
theorem Rn.unbox (h : Rn B G t R K f st go l vp p wb wr) : Rn B (fun _ => False) t R K f st go l vp p wb wr :=
  ⟨h.th.add (Below.refl _ _) (fun k hk => by rcases hk with hk | hk; exact .inl (.inl hk); exact hk.elim), h.own, h.pile, h.apart, h.low, fun k hk => hk.elim⟩
/-- own[i] = r. -/
theorem Rn.store (h : Rn B G t R K f st go l vp p wb wr) (i : Nat) (r : Int) : Rn B G t R K f st go (l.set i r) vp p wb (wr.setCell ⟨go, i, none⟩ (.int .i64 r)) := by
  have hT : Turn (fun k => k = go) wr (wr.setCell ⟨go, i, none⟩ (.int .i64 r)) := (Turn.refl _ wr).set _ _ (.inr rfl)
  refine ⟨h.th.turned hT (fun k e => ⟨.inl (.inl e), (show k = go from e) ▸ h.low.1⟩), (h.own.setAt i _).is (by simp [List.map_set]), h.pile.turn hT (fun k e e2 => h.apart ((show k = go from e2) ▸ e)), h.apart, h.low, h.gap⟩
/-- The pile is another one, in the same block. -/
theorem Rn.swap (h : Rn B G t R K f st go l vp p wb wr) (e : vp'.ownBlock = vp.ownBlock) (hR : RefRow wr vp' p') : Rn B G t R K f st go l vp' p' wb wr :=
  ⟨by rw [e]; exact h.th, h.own, hR, by rw [e]; exact h.apart, by rw [e]; exact h.low, by rw [e]; exact h.gap⟩
/-- .. in a block that is its old one or a new one. -/
theorem Rn.push {g n cap : Nat} (h : Rn B G t R K f st go l vp p wb wr) (hR : RefRow w' (.slice (some ⟨g, 0, none⟩) n cap) p') (hT : Turn (fun k => vp.ownBlock = some k) wr w') (hg : vp.ownBlock = some g ∨ wr.heap.size ≤ g) :
    Rn B G t R K f st go l (.slice (some ⟨g, 0, none⟩) n cap) p' wb w' ∧ ∀ k, G k → w'.heap[k]? = wr.heap[k]? := by
  have h1 := h.th.turned hT (fun k e => ⟨.inl (.inr e), h.low.2 k e⟩)
  have hgs := hR.lt (k := g) rfl
  have hsz := h.th.size
  have hgB : B ≤ g := by
    rcases hg with e | e
    · exact h.low.2 g e
    · omega
  obtain ⟨T, e, hA, hF⟩ := h.th.ex
  have hAlt := hA.lt
  have hGl : ∀ k, G k → k < wr.heap.size := fun k hk => h.th.low k (.inr hk)
  refine ⟨⟨⟨⟨T, e, hA.turn hT (fun k hk e2 => (hF k hk).2 (.inl (.inr e2))), fun k hk => ⟨(hF k hk).1, fun hx => ?_⟩⟩, fun k hk => ?_, h1.below, h1.base⟩, h.own.turn hT h.apart, hR, fun e2 => ?_, ⟨h.low.1, fun k e2 => ?_⟩, fun k hk => ⟨(h.gap k hk).1, (h.gap k hk).2.1, fun e2 => ?_⟩⟩, fun k hk => hT.block k (hGl k hk) (h.gap k hk).2.2⟩
  · rcases hx with (hx | hx) | hx
    · exact (hF k hk).2 (.inl (.inl hx))
    · have e3 := own_slice hx
      subst e3
      rcases hg with e4 | e4
      · exact (hF _ hk).2 (.inl (.inr e4))
      · have := hAlt _ hk; omega
    · exact (hF k hk).2 (.inr hx)
  · have hs := hT.size
    rcases hk with (hk | hk) | hk
    · have := h.own.lt; omega
    · have := own_slice hk; omega
    · have := hGl k hk; omega
  · have e3 := own_slice e2
    subst e3
    rcases hg with e4 | e4
    · exact h.apart e4
    · have := h.own.lt; omega
  · have := own_slice e2; omega
  · have e3 := own_slice e2
    subst e3
    rcases hg with e4 | e4
    · exact (h.gap _ hk).2.2 e4
    · have := hGl _ hk; omega
end
theorem regs_set (f : Nat → Int) (R i : Nat) (r : Int) : ((List.range R).map f).set i r = (List.range R).map (updR f i r) := by
  apply List.ext_getElem
  · simp
  · intro j h1 h2
    rw [List.getElem_set]
    simp only [List.getElem_map, List.getElem_range, updR]
    by_cases e : i = j
    · rw [if_pos e, if_pos e.symm]
    · rw [if_neg e, if_neg (fun x => e x.symm)]
theorem nz_regs (f : Nat → Int) : ∀ R, nz ((List.range R).map f) = regRoots f R
  | 0 => rfl
  | R + 1 => by
    have ih := nz_regs f R
    unfold regRoots at ih ⊢
    unfold nz at ih ⊢
    rw [List.range_succ, List.map_append, List.filter_append, ih]
    show _ = ((segR f 0 R ++ oneR f (0 + R)).map Prod.snd)
    rw [List.map_append, Nat.zero_add]
    congr 1
    unfold oneR
    by_cases e : f R = 0
    · rw [if_pos e]; simp [e]
    · rw [if_neg e]; simp [e]
theorem nz_all (f : Nat → Int) (R : Nat) (st : List Int) : nz ((List.range R).map f ++ st) = rootsOf f R st := by
  have h := nz_regs f R
  unfold nz at h ⊢
  rw [List.filter_append, h]
  rfl
end Go.Proofs.Ytfipflghnhfcjaa
