/- Plain: a region of operations that enter no function, inside any fence (a round's too). It speaks of no program. -/
import Derived.StillTail
import Derived.StillTailTactics
import Derived.CallsIn
import Derived.Below
import Derived.Deep.RegionHeld3
namespace Go.Proofs.YtidpmplkbgllfaaGreatDoor
open Go Go.RowKit
set_option linter.unusedSimpArgs false
set_option linter.unusedVariables false

/-- An operation that enters no function. -/
def calmOp (o : Oper) : Bool := match o.op with
  | .move _ | .assign _ | .pick _ _ _ | .alloc _ | .box _ _ | .build _ _ | .buildSlice _ _ _ | .load _ _ | .store _ _ _ | .binOp _ _ _ _ _ | .unOp _ _ _ | .convert _ _ _ | .makeMap _ _ | .makeSlice _ _ _
  | .slice _ _ _ _ _ | .fieldAddr _ _ _ | .field _ _ _ | .indexAddr _ _ _ | .index _ _ _ | .lookup _ _ _ _ | .mapUpdate _ _ _ _ | .extract _ _ => true
  | .call c => match c.callee with
    | .builtin .append | .builtin .len | .builtin .clear => true
    | _ => false
  | _ => false
/-- What comes of it. -/
def CalmRes : Result Next → Prop
  | .ok (.value _) _ | .ok .skip _ | .halt _ _ => True
  | _ => False
theorem calm_value (s : Sem Value) (P : Program) (w : World) : CalmRes ((do pure (.value (← s)) : Sem Next).run P w) := by
  simp only [Sem.run_bind]
  cases h : s.run P w <;> simp [Result.andThen, Sem.run_pure, CalmRes]
theorem calm_unit (s : Sem Unit) (P : Program) (w : World) : CalmRes ((do s; pure .skip : Sem Next).run P w) := by
  simp only [Sem.run_bind]
  cases h : s.run P w <;> simp [Result.andThen, Sem.run_pure, CalmRes]
theorem calm_pure (x : Value) (P : Program) (w : World) : CalmRes ((pure (.value x) : Sem Next).run P w) := by simp [Sem.run_pure, CalmRes]
theorem calm_run {o : Oper} (hc : calmOp o = true) (ρ : Operand → Value) (P : Program) (w : World) : CalmRes ((execOp ρ o).run P w) := by
  obtain ⟨dst, op, type, pos, after, guard⟩ := o
  unfold calmOp at hc
  unfold execOp
  cases op <;> simp only [Bool.false_eq_true] at hc ⊢
  case call c =>
    obtain ⟨callee, args, argTypes⟩ := c
    cases callee <;> simp only [Bool.false_eq_true] at hc ⊢
    case builtin b =>
      cases b <;> simp only [Bool.false_eq_true] at hc ⊢ <;> simp only [resolve, Sem.run_bind, Sem.run_pure, Result.andThen, invoke, builtin] <;> (split <;> simp [CalmRes])
  all_goals first | exact calm_pure _ _ _ | exact calm_value _ _ _ | exact calm_unit _ _ _ | (simp only [Sem.run_bind]; cases h : Sem.run P (asBool _) w <;> simp [Result.andThen, Sem.run_pure, CalmRes])
theorem calm_about {o : Oper} (hc : calmOp o = true) (ρ : Operand → Value) (P : Program) (w : World) : o.about P w ρ = none := by
  obtain ⟨dst, op, type, pos, after, guard⟩ := o
  unfold calmOp at hc
  unfold Oper.about
  cases op <;> simp only [Bool.false_eq_true] at hc ⊢
  case call c =>
    obtain ⟨callee, args, argTypes⟩ := c
    cases callee <;> simp only [Bool.false_eq_true] at hc ⊢
    case builtin b =>
      cases b <;> simp only [Bool.false_eq_true] at hc ⊢ <;> simp [resolve, Sem.run_pure, Target.leads]
theorem calm_defer {o : Oper} (hc : calmOp o = true) : ∀ c, o.op ≠ .defer c := by
  intro c e
  unfold calmOp at hc
  rw [e] at hc
  cases hc
theorem calm_upon {F : Fence} {n : Nat} {P : Program} {o : Oper} {a : Act} {next next' : Act → World → Prop} {Q : Exit → Act → World → Prop} {r : Result Next} (hr : CalmRes r) (hn : ∀ a w, next a w → next' a w) (h : o.upon P a next Q r) : o.uponIn F n P a next' Q r := by
  match r, hr with
  | .ok (.value v) w, _ => exact hn _ _ h
  | .ok .skip w, _ => exact hn _ _ h
  | .halt c w, _ =>
    cases c <;> first | exact h | exact (h : False).elim
/-- In whatever order: what goes outside a fence goes inside. -/
theorem calm_ops {F : Fence} {n : Nat} {P : Program} {ops : Array Oper} {Q : Exit → Act → World → Prop} (hc : ∀ o ∈ ops, calmOp o = true) (hQ : ¬ LetsOut Q) : ∀ (l : List Nat) (a : Act) (w : World), wpOps P ops Q l a w → wpOpsIn F n P ops Q l a w
  | [], a, w, h => h
  | i :: rest, a, w, h => by
    unfold wpOpsIn
    unfold wpOps at h
    cases ho : ops[i]? with
    | none =>
      rw [ho] at h
      exact calm_ops hc hQ rest a w h
    | some o =>
      rw [ho] at h
      have hco := hc o (Array.mem_of_getElem? ho)
      simp only at h ⊢
      by_cases hw : Region.wanted o (yielded ops a.tmps) = true
      · rw [if_pos hw] at h ⊢
        rcases h with h | ⟨_, h⟩
        · refine ⟨fun f e => (by rw [calm_about hco] at e; cases e), ?_⟩
          rw [Oper.semAt_eq _ _ _ (calm_defer hco)]
          exact calm_upon (calm_run hco _ _ _) (fun a w h => calm_ops hc hQ rest a w h) h
        · exact absurd h hQ
      · rw [if_neg hw] at h ⊢
        exact ⟨fun f e => (by rw [calm_about hco] at e; cases e), calm_ops hc hQ rest _ w h⟩
theorem wpIn_region_calm {F : Fence} {n0 : Nat} {P : Program} {id : Nat} {ops : Array Oper} {Q : Exit → Act → World → Prop} {a : Act} {w : World} (hm : P.follows .mixedOrders = true) (hc : ∀ o ∈ ops, calmOp o = true) (hQ : ¬ LetsOut Q)
    (h : wpAny P .any ops Q ops.size (Array.replicate ops.size false) a { w with drawn := w.drawn + 1 }) : (Code.region id ops true).wpIn F n0 P Q a w :=
  wpIn_region_draw fun t => by
    simp only [Region.schedule, hm, Bool.true_or, if_true]
    exact calm_ops hc hQ _ a _ (wpAny_sound ops.size t _ a _ h)
/-- A drawn region: what reads ahead, and a tail that writes, in its order. -/
theorem wpIn_region_still_tailC {F : Fence} {n0 : Nat} {P : Program} {id : Nat} {Q : Exit → Act → World → Prop} {a : Act} {w : World} {l : List Oper} (n : Nat) (hm : P.follows .mixedOrders = true) (hB : Region.lexTailB .any l.toArray n = true) (hcl : l.all calmOp = true) (hQ : ¬ LetsOut Q)
    (h : wpStill P l.toArray { w with drawn := w.drawn + 1 } (fun a' => wpList P l.toArray Q (l.drop n) a' { w with drawn := w.drawn + 1 }) (l.take n) a) : (Code.region id l.toArray true).wpIn F n0 P Q a w := by
  simp only [Region.lexTailB, Bool.and_eq_true, decide_eq_true_eq] at hB
  obtain ⟨⟨⟨⟨hsel, hn⟩, hs⟩, hc⟩, hlex⟩ := hB
  have hn' : n < l.length := by simpa using hn
  have htl : (l.take n).length = n := by simp; omega
  have hdl : (l.drop n).length = l.toArray.size - n := by simp
  have inv0 : HeadInv .any l.toArray n (Array.replicate l.toArray.size false) :=
    ⟨by simp, fun j oj _ hl => (by rw [getD_replicate_false] at hl; cases hl), fun t _ ht => getD_in (by simpa using ht) (getD_replicate_false _ _)⟩
  have H := wpAnyL_lex (md := .any) (g := l.toArray.size - n) hsel hs hc hn (l.take n) 0 _ a (fun j hj => by
    have hj' : j < n := by rw [htl] at hj; exact hj
    simp [hj']) (by simpa using htl) inv0 (by rw [htl]; exact hlex) h
  refine wpIn_region_calm hm (fun o ho => List.all_eq_true.1 hcl o (by simpa using ho)) hQ ?_
  have := wpAny_of_head (Q' := Q) (g := l.toArray.size - n) (fun listed a' hL => by
    have := wpAny_of_seq (md := .any) (Q' := Q) (l.drop n) n listed a' { w with drawn := w.drawn + 1 } (fun j => by simp [List.getElem?_drop]) (by rw [hdl]; exact hL.1) hL.2
    rwa [hdl] at this) _ _ _ H
  rw [htl, show n + (l.toArray.size - n) = l.toArray.size by omega] at this
  exact this
/-- A drawn region, over what is held in each world between. -/
theorem wpIn_region_heldC {F : Fence} {n0 : Nat} {P : Program} {id : Nat} {ops : Array Oper} {S : World → Prop} {Q : Exit → Act → World → Prop} {a : Act} {w : World} (hm : P.follows .mixedOrders = true) (hcl : ops.all calmOp = true) (hQ : ¬ LetsOut Q) (hS : S w.drew)
    (h : S w.drew → wpAnyH P .any ops Q S ops.size (Array.replicate ops.size false) a w.drew) : (Code.region id ops true).wpIn F n0 P Q a w :=
  wpIn_region_calm hm (fun o ho => by
    obtain ⟨i, hi, e⟩ := Array.mem_iff_getElem.1 ho
    rw [← e]
    exact (Array.all_eq_true.1 hcl) i hi) hQ (wpAny_of_held _ _ _ _ (h hS))
end Go.Proofs.YtidpmplkbgllfaaGreatDoor
