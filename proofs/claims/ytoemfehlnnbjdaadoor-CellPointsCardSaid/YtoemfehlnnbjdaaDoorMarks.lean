/- A function that ranges over a function and defers calls of its own: how it leaves; plain contracts. It speaks of no program. -/
import Derived.RangeFuncLeaves
import Derived.Defers
namespace Go.Proofs.YtoemfehlnnbjdaaDoor
open Go
variable {P : Program}

/-- What must come of a frame's deferred calls, marks of loops among them. -/
def LeavesP (P : Program) (fn : Func) (tmps : Array Value) (R : Ending → World → Prop) : List Deferred → FrameMode → World → Prop
  | [], u, w => Leaves P fn tmps R [] u w
  | d :: ds, u, w => u ≠ .run ∧
      ((∃ r w', d.target = .collected r ∧ (Instr.takeDeferred r).run P w = .ok [] w' ∧ LeavesP P fn tmps R ds u w') ∨
       (∃ fv cap f args, d.target = .fn fv cap ∧ (invoke d.target d.args).run P w = .ok (.enter f args) w ∧
        CallsD P f args u w fun
          | .returned _, u', w' => LeavesP P fn tmps R ds (settle u') w'
          | .panicked chain, u', w' => LeavesP P fn tmps R ds (raised u' chain) w'
          | .outgrown, _, w' => R .outgrown w'))

theorem leavesP_steps {fn : Func} {tmps : Array Value} {R : Ending → World → Prop} (ds : List Deferred) : ∀ (u : FrameMode) (w : World) (fr : Frame) (cs : List Frame),
    fr.mode = u → fr.defers = ds → fr.tmps = tmps → P.funcs[fr.fn]? = some fn → fr.kind = .normal → LeavesP P fn tmps R ds u w →
    ∃ e w' fr', R e w' ∧ Comes P (lone fr cs w) (lone fr' cs w') e ∧ fr'.fn = fr.fn ∧ fr'.leaving P w' e := by
  induction ds with
  | nil => exact fun u w fr cs hu hd ht hf hk h => leaves_steps [] u w fr cs hu hd ht hf hk h
  | cons d ds ih =>
    intro u w fr cs hu hd ht hf hk h
    rcases h with ⟨hrun, ⟨r, w1, htar, htake, hrest⟩ | ⟨fv, cap, f, args, htar, hinv, hcall⟩⟩
    · have h1 := step_collected (cs := cs) (hu ▸ hrun) hd htar htake
      obtain ⟨e, w2, fr2, hR, hs, hfn, hl⟩ := ih u w1 { fr with defers := [] ++ ds } cs hu rfl ht hf hk hrest
      exact ⟨e, w2, fr2, hR, Comes.of_steps (.one h1) hs, hfn, hl⟩
    · have h1 := step_defer (cs := cs) (hu ▸ hrun) hd htar hinv
      obtain ⟨e, u1, w1, frX, hR, hsteps, hkX, hgo⟩ := hcall { fr with defers := ds } cs hu
      cases e with
      | outgrown => exact ⟨.outgrown, w1, fr, hR, Outgrown.of_steps (.one h1) hsteps, rfl, trivial⟩
      | returned v =>
        have h2 := step_going_returned (c := { { fr with defers := ds } with mode := u1 }) (cs := cs) hkX hgo
        obtain ⟨e, w2, fr2, hR2, hs, hfn, hl⟩ := ih (settle u1) w1 { { { fr with defers := ds } with mode := u1 } with mode := settle u1 } cs rfl rfl ht hf hk hR
        exact ⟨e, w2, fr2, hR2, Comes.of_steps (.head h1 (Steps.trans hsteps (.one h2))) hs, hfn, hl⟩
      | panicked chain =>
        have h2 := step_going_panicked (c := { { fr with defers := ds } with mode := u1 }) (cs := cs) hgo
        obtain ⟨e, w2, fr2, hR2, hs, hfn, hl⟩ := ih (raised u1 chain) w1 { { { fr with defers := ds } with mode := u1 } with mode := raised u1 chain } cs rfl rfl ht hf hk hR
        exact ⟨e, w2, fr2, hR2, Comes.of_steps (.head h1 (Steps.trans hsteps (.one h2))) hs, hfn, hl⟩

/-- What a body must come to. -/
def bodyPostP (P : Program) (fn : Func) (R : Ending → World → Prop) : Exit → Act → World → Prop
  | .normal, a, w | .ret, a, w => LeavesP P fn a.tmps R a.defers .returning w
  | .panic chain, a, w => LeavesP P fn a.tmps R a.defers (.panicking chain) w
  | .outgrown, _, w => R .outgrown w
  | _, _, _ => False

/-- A contract out of the body, where the body ranges over functions and defers calls. -/
theorem calls_of_wp_marks {f : FuncId} {fn : Func} {c : Code} {args : Array Value} {w : World} {R : Ending → World → Prop} (hf : P.funcs[f]? = some fn) (hb : fn.body = some c) (n : Nat)
    (h : c.wpIn Fence.wide n P (bodyPostP P fn R) { tmps := args ++ Array.replicate (fn.ntmps - args.size) undef, defers := [] } w) : Calls P f args w R := by
  intro cs
  let b : Frame := { (default : Frame) with fn := f, kind := .normal }
  have henter : Frame.enter P f args .normal = b.at { tmps := args ++ Array.replicate (fn.ntmps - args.size) undef, defers := [] } [.code c] := by
    simp [Frame.enter, Frame.at, hf, hb, b]
  obtain ⟨e, a, w1, hq, harr⟩ := wpIn_wide.1 h b [] cs
  rw [← henter] at harr
  cases e with
  | normal =>
    obtain ⟨e, w2, fr, hR, hs, hfn, hl⟩ := leavesP_steps a.defers .returning w1 { b.at a [] with mode := .returning } cs rfl rfl rfl hf rfl hq
    exact ⟨e, w2, fr, hR, Comes.of_steps (Steps.trans harr (.one step_end)) hs, hfn, hl⟩
  | ret =>
    obtain ⟨todo, hs0⟩ := harr
    obtain ⟨e, w2, fr, hR, hs, hfn, hl⟩ := leavesP_steps a.defers .returning w1 { b.at a todo with mode := .returning } cs rfl rfl rfl hf rfl hq
    exact ⟨e, w2, fr, hR, Comes.of_steps hs0 hs, hfn, hl⟩
  | panic chain =>
    obtain ⟨todo, hs0⟩ := harr
    obtain ⟨e, w2, fr, hR, hs, hfn, hl⟩ := leavesP_steps a.defers (.panicking chain) w1 { b.at a todo with mode := .panicking chain } cs rfl rfl rfl hf rfl hq
    exact ⟨e, w2, fr, hR, Comes.of_steps hs0 hs, hfn, hl⟩
  | exit id => exact hq.elim
  | goto l => exact hq.elim
  | outgrown => exact ⟨.outgrown, w1, b, hq, harr.resolve_left (by simp [b]), rfl, trivial⟩
end Go.Proofs.YtoemfehlnnbjdaaDoor
