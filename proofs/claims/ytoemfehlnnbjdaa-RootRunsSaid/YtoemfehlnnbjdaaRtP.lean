/- A map of the threads that live, with two registers each; at this seat's numbers. -/
import Derived.Test.YtoemfehlnnbjdaaRtO
import Derived.Maps.Own
import Derived.Maps.OwnOps
import Derived.Maps.Keyed
import Derived.Maps.Views
import Derived.Maps.OwnSet
namespace Go.Proofs.Ytoemfehlnnbjdaa
open Go Go.RowKit Go.Shelf Go.Maps
set_option linter.unusedSimpArgs false
set_option linter.unusedVariables false

theorem keyInt : Keyed Try.prog 3 := int_keyed Try.underlying3
theorem zeroPair (w : World) : (zeroValue 34).run Try.prog w = .ok (.agg #[.int .i64 0, .int .i64 0]) w := by kernel_rfl
/-- How two references read. -/
def pairElem (v : Value) : Option (DataW Unit × List MemPlace) := match v with
  | .agg cs => match cs.toList with
    | [.int .i64 a, .int .i64 b] => some (.agg [.lit (.int .i64 a), .lit (.int .i64 b)], [])
    | _ => none
  | _ => none
def valP : Option TM → Value
  | none => .agg #[.int .i64 0, .int .i64 0]
  | some m => .agg #[.int .i64 (m.f 0), .int .i64 (m.f 1)]
def datP : Option TM → DataW Unit
  | none => .agg [.lit (.int .i64 0), .lit (.int .i64 0)]
  | some m => .agg [.lit (.int .i64 (m.f 0)), .lit (.int .i64 (m.f 1))]
theorem pairElem_val (o : Option TM) : pairElem (valP o) = some (datP o, []) := by cases o <;> rfl
theorem pairElem_inv {v : Value} {o : Option TM} {ps : List MemPlace} (h : pairElem v = some (datP o, ps)) : v = valP o := by
  unfold pairElem at h
  split at h
  · next cs =>
    split at h
    · next a b e =>
      have e2 : cs = #[.int .i64 a, .int .i64 b] := by apply Array.ext'; exact e
      subst e2
      cases o with
      | none => simp [datP] at h; obtain ⟨⟨rfl, rfl⟩, _⟩ := h; rfl
      | some m => simp [datP] at h; obtain ⟨⟨rfl, rfl⟩, _⟩ := h; rfl
    · cases h
  · cases h

/-- Block B is a map of those that live. -/
def MapRt (w : World) (B n : Nat) (th : Nat → Option TM) : Prop :=
  ∃ D : DataW Unit, w.ownsMap Try.prog 3 pairElem B n D ∧ (∀ x, (Lit.int .i64 x).wf = true → D.atKey (.int .i64 x) (datP none) = datP (atI th x)) ∧
    (∀ x, (Lit.int .i64 x).wf = true → has D (.int .i64 x) = (atI th x).isSome) ∧ size D = (liveT th 4).length
def cntT (th : Nat → Option TM) (i : Nat) : Nat := if (th i).isSome then 1 else 0
theorem live4 (th : Nat → Option TM) : (liveT th 4).length = cntT th 0 + cntT th 1 + cntT th 2 + cntT th 3 := by
  have h1 : ∀ i, (oneT th i).length = cntT th i := fun i => by unfold oneT cntT; cases th i <;> rfl
  show ((((([] ++ oneT th 0) ++ oneT th 1) ++ oneT th 2) ++ oneT th 3)).length = _
  simp only [List.length_append, List.length_nil, h1]
  omega
theorem cnt_upd (th : Nat → Option TM) (i j : Nat) (m : Option TM) : cntT (updT th i m) j = if j = i then (if m.isSome then 1 else 0) else cntT th j := by
  unfold cntT
  by_cases e : j = i
  · subst e; rw [updT_at, if_pos rfl]
  · rw [updT_ne _ _ e, if_neg e]
theorem live_put {th : Nat → Option TM} {i : Nat} (hi : i < 4) (m : TM) : (liveT (updT th i (some m)) 4).length = if (th i).isSome then (liveT th 4).length else (liveT th 4).length + 1 := by
  rw [live4, live4]
  simp only [cnt_upd, Option.isSome_some, if_true]
  have c : i = 0 ∨ i = 1 ∨ i = 2 ∨ i = 3 := by omega
  rcases c with rfl | rfl | rfl | rfl <;> (unfold cntT; cases (th 0).isSome <;> cases (th 1).isSome <;> cases (th 2).isSome <;> cases (th 3).isSome <;> rfl)
theorem live_del {th : Nat → Option TM} {i : Nat} (hi : i < 4) : (liveT (updT th i none) 4).length + (if (th i).isSome then 1 else 0) = (liveT th 4).length := by
  rw [live4, live4]
  simp only [cnt_upd, Option.isSome_none]
  have c : i = 0 ∨ i = 1 ∨ i = 2 ∨ i = 3 := by omega
  rcases c with rfl | rfl | rfl | rfl <;> (unfold cntT; cases (th 0).isSome <;> cases (th 1).isSome <;> cases (th 2).isSome <;> cases (th 3).isSome <;> rfl)
theorem atI_upd (th : Nat → Option TM) (i : Nat) (m : Option TM) (x : Int) : atI (updT th i m) x = if x = (i : Int) then m else atI th x := by
  unfold atI
  by_cases h0 : 0 ≤ x
  · rw [if_pos h0, if_pos h0]
    by_cases e : x = (i : Int)
    · rw [if_pos e, e]; exact updT_at _ _ _
    · rw [if_neg e]; exact updT_ne _ _ (by omega)
  · rw [if_neg h0, if_neg h0, if_neg (by omega)]
theorem lit_ne {x y : Int} (h : y ≠ x) : Lit.int .i64 y ≠ Lit.int .i64 x := fun e => h (by injection e)
section
variable {w w' : World} {B n : Nat} {th : Nat → Option TM}
theorem MapRt.turn {M : Nat → Prop} (h : MapRt w B n th) (hT : Turn M w w') (hM : ¬ M B) : MapRt w' B n th := by
  obtain ⟨D, ⟨es, clock, hb, r⟩, hf⟩ := h
  exact ⟨D, ⟨es, clock, (hT.block B (Array.getElem?_eq_some_iff.1 hb).1 hM).trans hb, r⟩, hf⟩
theorem MapRt.keep (h : MapRt w B n th) (hk : w'.heap[B]? = w.heap[B]?) : MapRt w' B n th := by
  obtain ⟨D, ⟨es, clock, hb, r⟩, hf⟩ := h
  exact ⟨D, ⟨es, clock, hk.trans hb, r⟩, hf⟩
theorem MapRt.block (h : MapRt w B n th) : ∃ o : Obj, w.heap[B]? = some o ∧ o.isCells = false := by
  obtain ⟨D, ⟨es, clock, hb, r⟩, hf⟩ := h
  exact ⟨_, hb, rfl⟩
theorem MapRt.made (w : World) : MapRt (w.alloc (.map #[] 0)) w.heap.size 0 (fun _ => none) :=
  ⟨_, World.ownsMap_made _ _ _ _, fun x _ => by unfold atI; simp; rfl, fun x _ => by unfold atI; simp; rfl, by rw [liveT_nil (fun _ => rfl)]; rfl⟩
theorem MapRt.look (h : MapRt w B n th) (x : Int) (hx : (Lit.int .i64 x).wf = true) :
    (Instr.lookup 29 (.map (some B)) (.int .i64 x) false).run Try.prog w = .ok (valP (atI th x)) w := by
  obtain ⟨D, hD, hf, _⟩ := h
  obtain ⟨v, ps, hrun, hv⟩ := hD.lookup keyInt Try.underlying29 (zeroPair _) (pairElem_val none) (keyOf_int_mk Try.underlying3 hx)
  rw [hf x hx] at hv
  rw [pairElem_inv hv] at hrun
  exact hrun
theorem MapRt.lookOk (h : MapRt w B n th) (x : Int) (hx : (Lit.int .i64 x).wf = true) (q : Bool) (hq : (atI th x).isSome = q) :
    (Instr.lookup 29 (.map (some B)) (.int .i64 x) true).run Try.prog w = .ok (.tuple #[valP (atI th x), .bool q]) w := by
  obtain ⟨D, hD, hf, hh, _⟩ := h
  obtain ⟨v, ps, hrun, hv⟩ := hD.look_ok keyInt Try.underlying29 (zeroPair _) (pairElem_val none) (keyOf_int_mk Try.underlying3 hx)
  rw [hf x hx] at hv
  rw [pairElem_inv hv, hh x hx, hq] at hrun
  exact hrun
theorem MapRt.len (h : MapRt w B n th) (ty : TypeId) : (Builtin.len_ #[29] ty #[.map (some B)]).run Try.prog w = .ok (.int .i64 ((liveT th 4).length : Int)) w := by
  obtain ⟨D, hD, _, _, hs⟩ := h
  rw [← hs]; exact hD.len Try.underlying29 ty
theorem MapRt.store (h : MapRt w B n th) (hn : n < 9223372036854775807) (i : Nat) (hi : i < 4) (hx : (Lit.int .i64 (i : Int)).wf = true) (m : TM) :
    ∃ w', (Instr.mapUpdate 29 (.map (some B)) (.int .i64 (i : Int)) (valP (some m))).run Try.prog w = .ok () w' ∧ MapRt w' B (n + 1) (updT th i (some m)) ∧ Turn (fun k => k = B) w w' := by
  obtain ⟨D, hD, hf, hh, hs⟩ := h
  have hM : IsMap D := hD.isMap
  have hTi : Tidy D := hD.tidy keyInt
  have hk : WideAt.IsKeyLit (Lit.int .i64 (i : Int)) := by simp [WideAt.IsKeyLit]
  obtain ⟨w', hrun, h1, h2⟩ := hD.store keyInt Try.underlying29 hn (keyOf_int_mk Try.underlying3 hx) (pairElem_val (some m))
  refine ⟨w', hrun, ⟨_, h1, fun y hy => ?_, fun y hy => ?_, ?_⟩, (Turn.ofGrown h2.grown).mono fun k _ e => ((Option.some.inj e).symm : k = B)⟩
  · rw [atI_upd]
    by_cases e : y = (i : Int)
    · subst e
      rw [Maps.atKey_put_same hM hk, if_pos rfl]
    · rw [Maps.atKey_put_other (lit_ne e), hf y hy, if_neg e]
  · rw [atI_upd]
    by_cases e : y = (i : Int)
    · subst e
      rw [has_put_same hM hk, if_pos rfl]; rfl
    · rw [has_put_other (lit_ne e), hh y hy, if_neg e]
  · rw [size_put hTi, hh _ hx, hs, live_put hi, atI_nat]
theorem MapRt.drop (h : MapRt w B n th) (x : Int) (hx : (Lit.int .i64 x).wf = true) (th' : Nat → Option TM) (hth : (atI th x = none ∧ th' = th) ∨ ∃ i : Nat, x = (i : Int) ∧ i < 4 ∧ th' = updT th i none) (ty : TypeId) :
    ∃ w', (Builtin.delete_ #[29, 3] ty #[.map (some B), .int .i64 x]).run Try.prog w = .ok (.tuple #[]) w' ∧ MapRt w' B n th' ∧ Turn (fun k => k = B) w w' := by
  obtain ⟨D, hD, hf, hh, hs⟩ := h
  have hTi : Tidy D := hD.tidy keyInt
  obtain ⟨w', hrun, h1, h2⟩ := hD.drop keyInt Try.underlying29 (keyOf_int_mk Try.underlying3 hx) ty
  have hat : ∀ y, atI th' y = if y = x then none else atI th y := fun y => by
    rcases hth with ⟨e, rfl⟩ | ⟨i, rfl, _, rfl⟩
    · by_cases e2 : y = x
      · rw [if_pos e2, e2, e]
      · rw [if_neg e2]
    · rw [atI_upd]
  refine ⟨w', hrun, ⟨_, h1, fun y hy => ?_, fun y hy => ?_, ?_⟩, (Turn.ofGrown h2.grown).mono fun k _ e => ((Option.some.inj e).symm : k = B)⟩
  · rw [hat]
    by_cases e : y = x
    · subst e
      rw [Maps.atKey_del_same, if_pos rfl]
    · rw [Maps.atKey_del_other (lit_ne e), hf y hy, if_neg e]
  · rw [hat]
    by_cases e : y = x
    · subst e
      rw [has_del_same, if_pos rfl]; rfl
    · rw [has_del_other (lit_ne e), hh y hy, if_neg e]
  · have e1 := size_del (k := Lit.int .i64 x) hTi
    rw [hh x hx] at e1
    rcases hth with ⟨e, rfl⟩ | ⟨i, rfl, hi, rfl⟩
    · rw [e] at e1
      simp at e1
      omega
    · have e2 := live_del (th := th) hi
      rw [atI_nat] at e1
      omega
end
end Go.Proofs.Ytoemfehlnnbjdaa
