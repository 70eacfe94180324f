/- MarkAgain's ground: a field is set and told while a marker lies beside; and, plain, colours over edges that grow; at this seat's numbers. -/
import Derived.Test.YtkjpeacnponcfaaGreatDoorMrA
namespace Go.Proofs.YtkjpeacnponcfaaGreatDoor
open Go Go.RowKit Go.Shelf Go.MuLone Go.RwLone
set_option linter.unusedSimpArgs false
set_option linter.unusedVariables false

/-- A store in a map, whose run is known (inside a fence). -/
theorem wpListIn_mapUpdate_runG {P : Program} {F : Fence} {n : Nat} {ops : Array Oper} {rest : List Oper} {o : Oper} {a : Act} {w : World} {Q : Exit → Act → World → Prop} (hgd : o.guard = none) (m x v : Operand) (t : TypeId)
    (ho : o.op = .mapUpdate t m x v) (vm vx vv : Value) (hm : a.eval m = vm) (hx : a.eval x = vx) (hv : a.eval v = vv) {w' : World}
    (hr : (Instr.mapUpdate t vm vx vv).run P w = .ok () w') (h : wpListIn F n P ops Q rest (a.put o.dst undef) w') : wpListIn F n P ops Q (o :: rest) a w := by
  refine wpListIn_plain hgd fun K' hK' => ?_
  unfold Oper.wpIn
  refine ⟨by simp [Oper.about, ho], ?_⟩
  rw [Oper.semAt_plain F _ _ (by rw [ho]; intro c hc'; cases hc')]
  simp [execOp, ho, hm, hx, hv, hr, Result.andThen]
  exact hK' _ _ h

section
variable {B mb n : Nat} {X : ArB} {s : ArS} {obs : List Ob} {vl : Value} {f : Int → Value} {adj : Int → List Int} {E E' : Nat → Prop} {T T' : MkB} {c c' : Col} {wb wr w' : World}
theorem GmIn.setField (h : GmIn B mb n X s obs vl f adj E T c wb wr) {i j : Nat} {x : Ob} (hx : obs[i]? = some x) (hj : j < x.k) (y : Int) (hE : ∀ k, E k → ¬ X.has k) :
    Calls Tryz.prog 27 #[.pointer (some ⟨X.a, 0, none⟩), .int .i64 (x.r : Int), .int .i64 (j : Int), .int .i64 y] wr fun e w' =>
      e = .returned (.int .i64 0) ∧ ∃ lo, GmIn B mb n (X.with lo) (s.setW (x.r : Int) (2 + (j : Int)) y) (obs.set i { x with F := Go.Proofs.YtkjpeacnponcfaaGreatDoor.upd x.F j y }) vl f adj E T c wb w' ∧ (∀ k, E k → w'.heap[k]? = wr.heap[k]?) ∧ ∀ k, E k → ¬ (X.with lo).has k := by
  refine (ceSetFieldOk h.go.ar (h.go.ob.at_ i x hx) j hj y).mono ?_
  rintro e w1 ⟨rfl, lo, hA, hS⟩
  have hg := h.go.step hA hS (h.go.ob.setF h.go.ar.at_.fits hx hj y) (refsI_set hx rfl)
  have hTX : ∀ k, T.has k → ¬ X.has k := fun k e e2 => (h.own k e).2.1 (.inl e2)
  refine ⟨rfl, lo, ⟨hg, h.mt.turn hS.turn hTX, fun k e => ⟨(h.own k e).1, fun e2 => ?_, (h.own k e).2.2⟩, fun k e => Nat.lt_of_lt_of_le (h.ext k e) hS.turn.size, fun z hz => ?_, by rw [setW_P]; exact h.ex⟩, fun k e => hS.turn.block k (h.ext k e) (hE k e), fun k e e2 => ?_⟩
  · rcases e2 with e2 | e2
    · rcases hS.has_new e2 with e3 | e3
      · exact hTX k e e3
      · have := h.mt.lt k e; omega
    · exact (h.own k e).2.1 (.inr e2)
  · rw [refsI_set (x := { x with F := Go.Proofs.YtkjpeacnponcfaaGreatDoor.upd x.F j y }) hx rfl]; exact h.inn z hz
  · rcases hS.has_new e2 with e3 | e3
    · exact hE k e e3
    · have := h.ext k e; omega
theorem GmIn.told {v : Value} {x y : Int} {w1 : World} (h : GmIn B mb n X s obs vl f adj E T c wb wr) (hn : n < 9223372036854775807) (hx : (Lit.int .i64 x).wf = true) (hR : RefRow w1 v (adj x ++ [y])) (hT : Turn (fun k => (f x).ownBlock = some k) wr w1) (hg : ∀ k, v.ownBlock = some k → (f x).ownBlock = some k ∨ wr.heap.size ≤ k) (hE : ∀ k, E k → ¬ GoHas X mb vl f k) :
    ∃ w', (Instr.mapUpdate 30 (.map (some mb)) (.int .i64 x) v).run Tryz.prog w1 = .ok () w' ∧ GmIn B mb (n + 1) X s obs vl (updI f x v) (updI adj x (adj x ++ [y])) E T c wb w' ∧ (∀ k, E k → w'.heap[k]? = wr.heap[k]?) ∧ ∀ k, E k → ¬ GoHas X mb vl (updI f x v) k := by
  obtain ⟨w', hrun, hG, hT'⟩ := h.go.told hn hx hR hT hg
  have hin : ∀ k, ((f x).ownBlock = some k ∨ k = mb) → GoHas X mb vl f k := fun k e => by
    rcases e with e | e
    · exact .inr (.inr (.inr ⟨x, e⟩))
    · exact .inr (.inr (.inl e))
  have hnew : ∀ k, k < wr.heap.size → GoHas X mb vl (updI f x v) k → GoHas X mb vl f k := fun k hk e => by
    rcases goHas_upd e with e2 | e2
    · exact e2
    · rcases hg k e2 with e3 | e3
      · exact hin k (.inl e3)
      · omega
  exact ⟨w', hrun, ⟨hG, h.mt.turn hT' (fun k e e2 => (h.own k e).2.1 (hin k e2)), fun k e => ⟨(h.own k e).1, fun e2 => (h.own k e).2.1 (hnew k (h.mt.lt k e) e2), (h.own k e).2.2⟩, fun k e => Nat.lt_of_lt_of_le (h.ext k e) hT'.size, h.inn, h.ex⟩,
    fun k e => hT'.block k (h.ext k e) (fun e2 => hE k e (hin k e2)), fun k e e2 => hE k e (hnew k (h.ext k e) e2)⟩
end

/-- Colours over edges P, where adj tells of more edges. -/
structure Ag (P adj : Int → List Int) (fr : List Int) (c : Col) : Prop where
  sub : ∀ x, c.sc x = true → c.ma x = true
  clo : ∀ x, c.sc x = true → ∀ y ∈ P x, c.ma y = true
  snd : ∀ x, c.ma x = true → Rch fr adj x
  inc : ∀ x, ∀ y ∈ P x, y ∈ adj x
theorem Tri.ag {P : Int → List Int} {fr ord : List Int} {c : Col} (h : Tri P fr c ord) : Ag P P fr c := ⟨h.sub, h.clo, h.snd, fun _ _ hy => hy⟩
section
variable {P P' adj : Int → List Int} {fr l : List Int} {c c' : Col} {x y : Int}
theorem Rch.wide {adj adj' : Int → List Int} {fr : List Int} {x : Int} (h : Rch fr adj x) (hs : ∀ z, ∀ u ∈ adj z, u ∈ adj' z) : Rch fr adj' x := by
  induction h with
  | root h1 h2 => exact .root h1 h2
  | step _ h2 h3 ih => exact .step ih (hs _ _ h2) h3
theorem Ag.scan (h : Ag P adj fr c) (h0 : ∀ y ∈ P x, y ≠ 0) (hm : c.ma x = true) : Ag P adj fr (c.scan P x) := by
  have hmk : ∀ y, c.ma y = true → (c.scan P x).ma y = true := fun y hy => by show (c.ma y || _) = true; rw [hy]; rfl
  have cut : ∀ y, (c.scan P x).sc y = true → y = x ∨ c.sc y = true := fun y hy => by
    have hy2 : updI c.sc x true y = true := hy
    by_cases e : y = x
    · exact .inl e
    · rw [updI_ne e] at hy2; exact .inr hy2
  refine ⟨fun y hy => ?_, fun y hy z hz => ?_, fun y hy => ?_, h.inc⟩
  · rcases cut y hy with e | e
    · rw [e]; exact hmk x hm
    · exact hmk y (h.sub y e)
  · rcases cut y hy with e | e
    · rw [e] at hz
      show (c.ma z || decide (z ∈ P x)) = true; rw [decide_eq_true hz]; simp
    · exact hmk z (h.clo y e z hz)
  · have hy2 : (c.ma y || decide (y ∈ P x)) = true := hy
    cases e : c.ma y with
    | true => exact h.snd y e
    | false =>
      rw [e] at hy2
      have e2 : y ∈ P x := by simpa using hy2
      exact .step (h.snd x hm) (h.inc x y e2) (h0 y e2)
theorem Ag.scans (h : Ag P adj fr c) (h0 : ∀ x, ∀ y ∈ P x, y ≠ 0) (hs : Scans P c l c') : Ag P adj fr c' := by
  induction hs with
  | nil c => exact h
  | cons h1 h2 _ ih => exact ih (h.scan (h0 _) h1)
/-- An edge from x is set, and told; x is grey again. -/
theorem Ag.edit (h : Ag P adj fr c) (hP : ∀ z, z ≠ x → P' z = P z) (hx : ∀ u ∈ P' x, u ∈ P x ∨ u = y) : Ag P' (updI adj x (adj x ++ [y])) fr (c.regrey x) := by
  have hw : ∀ z, ∀ u ∈ adj z, u ∈ updI adj x (adj x ++ [y]) z := fun z u hu => by
    by_cases e : z = x
    · rw [e] at hu ⊢; rw [updI_at]; exact List.mem_append.2 (.inl hu)
    · rw [updI_ne e]; exact hu
  have cut : ∀ z, (c.regrey x).sc z = true → z ≠ x ∧ c.sc z = true := fun z hz => by
    have hz2 : updI c.sc x false z = true := hz
    by_cases e : z = x
    · rw [e, updI_at] at hz2; cases hz2
    · rw [updI_ne e] at hz2; exact ⟨e, hz2⟩
  refine ⟨fun z hz => h.sub z (cut z hz).2, fun z hz u hu => ?_, fun z hz => (h.snd z hz).wide hw, fun z u hu => ?_⟩
  · rw [hP z (cut z hz).1] at hu
    exact h.clo z (cut z hz).2 u hu
  · by_cases e : z = x
    · rw [e] at hu ⊢
      rw [updI_at]
      rcases hx u hu with e2 | e2
      · exact List.mem_append.2 (.inl (h.inc x u e2))
      · rw [e2]; simp
    · rw [hP z e] at hu; exact hw z u (h.inc z u hu)
end
/-- None is scanned twice. -/
theorem Scans.once {P : Int → List Int} {c c' : Col} {l : List Int} (h : Scans P c l c') : l.Nodup ∧ (∀ x ∈ l, c.sc x = false ∧ c'.ma x = true) ∧ ∀ x, c.ma x = true → c'.ma x = true := by
  induction h with
  | nil c => exact ⟨List.nodup_nil, (fun x hx => by cases hx), fun _ h => h⟩
  | @cons c c' x l h1 h2 _ ih =>
    obtain ⟨i1, i2, i3⟩ := ih
    have hsx : (c.scan P x).sc x = true := updI_at _ _ _
    have hmk : ∀ y, c.ma y = true → (c.scan P x).ma y = true := fun y hy => by show (c.ma y || _) = true; rw [hy]; rfl
    refine ⟨List.nodup_cons.2 ⟨(fun e => by have := (i2 x e).1; rw [hsx] at this; cases this), i1⟩, fun y hy => ?_, fun y hy => i3 y (hmk y hy)⟩
    rcases List.mem_cons.1 hy with e | e
    · rw [e]; exact ⟨h2, i3 x (hmk x h1)⟩
    · refine ⟨?_, (i2 y e).2⟩
      have h3 : updI c.sc x true y = false := (i2 y e).1
      by_cases e2 : y = x
      · rw [e2, updI_at] at h3; cases h3
      · rw [updI_ne e2] at h3; exact h3
theorem Scans.len {P : Int → List Int} {c c' : Col} {l : List Int} {obs : List Ob} (h : Scans P c l c') (hi : ∀ x, c'.ma x = true → x ∈ refsI obs) : l.length ≤ obs.length := by
  rw [← refsI_length]
  exact nodup_sub h.once.1 fun x hx => hi x (h.once.2.1 x hx).2
/-- A field is set: where all point. -/
theorem ptsAt_set {s s' : ArS} {obs : List Ob} {i j : Nat} {x : Ob} {y : Int} (ho : Objs s obs) (ho' : Objs s' (obs.set i { x with F := Go.Proofs.YtkjpeacnponcfaaGreatDoor.upd x.F j y })) (hx : obs[i]? = some x) :
    (∀ z : Int, z ≠ (x.r : Int) → ptsAt (obs.set i { x with F := Go.Proofs.YtkjpeacnponcfaaGreatDoor.upd x.F j y }) z = ptsAt obs z) ∧ ∀ u ∈ ptsAt (obs.set i { x with F := Go.Proofs.YtkjpeacnponcfaaGreatDoor.upd x.F j y }) (x.r : Int), u ∈ ptsAt obs (x.r : Int) ∨ u = y := by
  have hi : i < obs.length := (List.getElem?_eq_some_iff.1 hx).1
  have hxm : x ∈ obs := List.mem_of_getElem? hx
  have hym : ({ x with F := Go.Proofs.YtkjpeacnponcfaaGreatDoor.upd x.F j y } : Ob) ∈ obs.set i { x with F := Go.Proofs.YtkjpeacnponcfaaGreatDoor.upd x.F j y } := List.mem_of_getElem? (i := i) (by simp [hi])
  refine ⟨fun z hz => ?_, fun u hu => ?_⟩
  · by_cases hin : ∃ q ∈ obs, (q.r : Int) = z
    · obtain ⟨q, hq, rfl⟩ := hin
      obtain ⟨k, hk⟩ := List.mem_iff_getElem?.1 hq
      have hki : k ≠ i := fun e => by rw [e, hx] at hk; cases hk; exact hz rfl
      have hq' : q ∈ obs.set i { x with F := Go.Proofs.YtkjpeacnponcfaaGreatDoor.upd x.F j y } := List.mem_of_getElem? (i := k) (by rw [List.getElem?_set_ne (Ne.symm hki)]; exact hk)
      rw [ptsAt_mem ho' hq', ptsAt_mem ho hq]
    · rw [ptsAt_no (fun q hq e => hin ⟨q, hq, e⟩), ptsAt_no (fun q hq e => ?_)]
      rcases List.mem_or_eq_of_mem_set hq with h1 | h1
      · exact hin ⟨q, h1, e⟩
      · rw [h1] at e; exact hz e.symm
  · have e1 := ptsAt_mem ho' hym
    have e1' : ptsAt (obs.set i { x with F := Go.Proofs.YtkjpeacnponcfaaGreatDoor.upd x.F j y }) (x.r : Int) = pts { x with F := Go.Proofs.YtkjpeacnponcfaaGreatDoor.upd x.F j y } := e1
    rw [e1'] at hu
    rw [ptsAt_mem ho hxm]
    unfold pts elems nz at hu ⊢
    obtain ⟨t, ht, rfl⟩ := List.mem_map.1 hu
    obtain ⟨ht1, ht2⟩ := List.mem_filter.1 ht
    by_cases e : t = j
    · right; show Go.Proofs.YtkjpeacnponcfaaGreatDoor.upd x.F j y t = y; rw [e]; simp [Go.Proofs.YtkjpeacnponcfaaGreatDoor.upd]
    · left
      have e3 : Go.Proofs.YtkjpeacnponcfaaGreatDoor.upd x.F j y t = x.F t := by simp [Go.Proofs.YtkjpeacnponcfaaGreatDoor.upd, e]
      refine List.mem_map.2 ⟨t, List.mem_filter.2 ⟨ht1, ?_⟩, e3.symm⟩
      have ht3 : decide (¬ Go.Proofs.YtkjpeacnponcfaaGreatDoor.upd x.F j y t = 0) = true := by simpa using ht2
      rw [e3] at ht3
      simpa using ht3
end Go.Proofs.YtkjpeacnponcfaaGreatDoor
