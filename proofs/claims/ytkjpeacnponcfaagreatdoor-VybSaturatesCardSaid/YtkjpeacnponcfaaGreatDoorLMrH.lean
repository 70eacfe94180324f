/- MarkColours' ground: colours as numbers, a map of them beside a marker; at this seat's numbers. -/
import Derived.Test.YtkjpeacnponcfaaGreatDoorLMrB
import Derived.Test.YtkjpeacnponcfaaGreatDoorLMrE
import Derived.Test.YtkjpeacnponcfaaGreatDoorGmI
namespace Go.Proofs.YtkjpeacnponcfaaGreatDoor
open Go Go.RowKit Go.Shelf
set_option linter.unusedSimpArgs false
set_option linter.unusedVariables false

theorem neqM {P : Program} (w : World) {tp te : TypeId} {j : TypeInfo} (a : Addr) (hp : P.underlying tp = some (.pointer te)) (hte : P.info? te = some j) :
    (binOp .neq tp (.pointer (some a)) (.pointer (some a))).run P w = .ok (.bool false) w := by
  have h : ∀ d : Nat, (Op.equalIn (d + 1) tp (.pointer (some a)) (.pointer (some a))).run P w = .ok true w := fun d => by
    simp [Op.equalIn, run_underlying hp, sizeOf, typeInfo, hte, run_sameAddr_same]
  simp only [binOp]
  simp [Op.equal, Op.maxDepth, h 9999]
theorem neqArena (a : Nat) (w : World) : (binOp .neq 28 (.pointer (some ⟨a, 0, none⟩)) (.pointer (some ⟨a, 0, none⟩))).run Tryz.prog w = .ok (.bool false) w := by
  obtain ⟨j, hj⟩ := Option.isSome_iff_exists.1 (show (Tryz.prog.info? 77).isSome = true by kernel_rfl)
  exact neqM w _ Tryz.underlying28 hj

theorem u8_and_maskC (x : Int) (m : Nat) (hm : m < 256) : ∃ r : Nat, r ≤ m ∧ bits .and .u8 x (m : Int) = (r : Int) := by
  refine ⟨(BitVec.ofInt 8 x).toNat &&& m, Nat.and_le_right, ?_⟩
  have h2 : (BitVec.ofInt 8 (m : Int)).toNat = m := by
    rw [BitVec.ofInt_natCast, BitVec.toNat_ofNat]; exact Nat.mod_eq_of_lt (by omega)
  show IntKind.u8.wrap ((BitVec.ofInt 8 x &&& BitVec.ofInt 8 (m : Int)).toNat : Int) = _
  rw [BitVec.toNat_and, h2]
  have h3 : (BitVec.ofInt 8 x).toNat &&& m ≤ m := Nat.and_le_right
  generalize (BitVec.ofInt 8 x).toNat &&& m = r at *
  simp [IntKind.wrap, IntKind.bits, IntKind.signed]
  omega
set_option maxRecDepth 100000 in
set_option maxHeartbeats 4000000 in

def colV (c : Col) (x : Int) : Int := if c.sc x = true then 2 else if c.ma x = true then 1 else 0
/-- A map tells of so many objects which colour they have. -/
structure Hue (R : List Int) (c : Col) (f : Int → Int) : Prop where
  sub : ∀ x, c.sc x = true → c.ma x = true
  is : ∀ x ∈ R, f x = colV c x
section
variable {R : List Int} {c : Col} {f : Int → Int} {x : Int}
theorem hue_white : Hue R Col.white (fun _ => 0) := ⟨fun x h => (by cases h), fun x _ => rfl⟩
theorem Hue.set {c' : Col} {v : Int} (h : Hue R c f) (hs : ∀ y, c'.sc y = true → c'.ma y = true) (hx : colV c' x = v) (ho : ∀ y, y ≠ x → colV c' y = colV c y) : Hue R c' (updI f x v) := by
  refine ⟨hs, fun y hy => ?_⟩
  by_cases e : y = x
  · rw [e, updI_at, hx]
  · rw [updI_ne e, ho y e, h.is y hy]
theorem colV_ne {c c' : Col} {y : Int} (h1 : c'.ma y = c.ma y) (h2 : c'.sc y = c.sc y) : colV c' y = colV c y := by unfold colV; rw [h1, h2]
theorem Hue.shade (h : Hue R c f) (hx : x ∈ R) : Hue R (c.shade x) (updI f x (if f x < 1 then 1 else f x)) := by
  refine h.set (fun y hy => ?_) ?_ (fun y e => colV_ne (by show updI c.ma x true y = c.ma y; rw [updI_ne e]) rfl)
  · show updI c.ma x true y = true
    by_cases e : y = x
    · rw [e, updI_at]
    · rw [updI_ne e]; exact h.sub y hy
  · rw [h.is x hx]
    have e1 : (c.shade x).ma x = true := updI_at _ _ _
    have e2 : (c.shade x).sc x = c.sc x := rfl
    unfold colV
    rw [e1, e2]
    cases c.sc x <;> cases c.ma x <;> simp
theorem Hue.black (h : Hue R c f) : Hue R (c.black x) (updI f x 2) := by
  refine h.set (fun y hy => ?_) ?_ (fun y e => colV_ne (by show updI c.ma x true y = c.ma y; rw [updI_ne e]) (by show updI c.sc x true y = c.sc y; rw [updI_ne e]))
  · show updI c.ma x true y = true
    have hy2 : updI c.sc x true y = true := hy
    by_cases e : y = x
    · rw [e, updI_at]
    · rw [updI_ne e] at hy2 ⊢; exact h.sub y hy2
  · unfold colV
    rw [show (c.black x).sc x = true from updI_at _ _ _]; simp
theorem Hue.regrey (h : Hue R c f) (hx : x ∈ R) (h2 : c.sc x = true) : Hue R (c.regrey x) (updI f x 1) := by
  refine h.set (fun y hy => ?_) ?_ (fun y e => colV_ne rfl (by show updI c.sc x false y = c.sc y; rw [updI_ne e]))
  · have hy2 : updI c.sc x false y = true := hy
    by_cases e : y = x
    · rw [e, updI_at] at hy2; cases hy2
    · rw [updI_ne e] at hy2; exact h.sub y hy2
  · unfold colV
    rw [show (c.regrey x).sc x = false from updI_at _ _ _, show (c.regrey x).ma x = true from h.sub x h2]; simp
theorem Col.regrey_no (h : c.sc x = false) : c.regrey x = c := by unfold Col.regrey; rw [updI_same h]
theorem Hue.forget (h : Hue R c f) : Hue R (c.forget x) (updI f x 0) := by
  refine h.set (fun y hy => ?_) ?_ (fun y e => colV_ne (by show updI c.ma x false y = c.ma y; rw [updI_ne e]) (by show updI c.sc x false y = c.sc y; rw [updI_ne e]))
  · have hy2 : updI c.sc x false y = true := hy
    show updI c.ma x false y = true
    by_cases e : y = x
    · rw [e, updI_at] at hy2; cases hy2
    · rw [updI_ne e] at hy2 ⊢; exact h.sub y hy2
  · unfold colV
    rw [show (c.forget x).sc x = false from updI_at _ _ _, show (c.forget x).ma x = false from updI_at _ _ _]; simp
theorem Hue.zero (h : Hue R c f) (hx : x ∈ R) : decide (f x = 0) = !c.ma x := by
  rw [h.is x hx]; unfold colV
  have := h.sub x
  cases hs : c.sc x <;> cases hm : c.ma x <;> simp_all
theorem Hue.two (h : Hue R c f) (hx : x ∈ R) : decide (f x = 2) = c.sc x := by
  rw [h.is x hx]; unfold colV
  cases c.sc x <;> cases c.ma x <;> simp
theorem Hue.range (h : Hue R c f) (hx : x ∈ R) : f x = 0 ∨ f x = 1 ∨ f x = 2 := by
  rw [h.is x hx]; unfold colV
  cases c.sc x <;> cases c.ma x <;> simp
end
section
variable {B mb n rb bx tm : Nat} {X : ArB} {s : ArS} {obs : List Ob} {vl : Value} {f : Int → Value} {adj : Int → List Int} {E : Nat → Prop} {T T' : MkB} {c c' : Col} {wb wr w' : World} {hue : Int → Int}
theorem GmIn.shade0 (h : GmIn B mb n X s obs vl f adj E T c wb wr) : Calls Tryz.prog 51 #[.pointer (some ⟨T.m, 0, none⟩), .int .i64 0] wr fun e w' => e = .returned (.bool false) ∧ Below wr.heap.size wr w' :=
  mkShadeNo h.mt h.go.ar.at_.toArMem 0 (by
    cases hS : inS s.S 0 with
    | false => rfl
    | true =>
      have h2 : s.S 0 = true := by simpa [inS] using hS
      have := (h.go.ar.at_.fits.at_ 0 h2).1
      omega)
/-- A marker, and the map of colours in its box. -/
structure McA (B mb n rb bx tm q : Nat) (X : ArB) (s : ArS) (obs : List Ob) (vl : Value) (f : Int → Value) (adj : Int → List Int) (wb : World) (hue : Int → Int) (T : MkB) (c : Col) (wr : World) : Prop where
  gm : GmIn B mb n X s obs vl f adj (fun k => k = rb ∨ k = bx) T c wb wr
  tme : T.m = tm
  box : Blk wr bx #[.map (some rb)] 37
  map : ∃ nn K cc, nn ≤ q ∧ MapIn wr rb nn hue K cc
  far : B ≤ rb ∧ ¬ GoHas X mb vl f rb
  hue : Hue (refsI obs) c hue
theorem McA.ask {q : Nat} (h : McA B mb n rb bx tm q X s obs vl f adj wb hue T c wr) (hB : Below wr.heap.size wr w') : McA B mb n rb bx tm q X s obs vl f adj wb hue T c w' := by
  obtain ⟨nn, K, cc, hn, hM⟩ := h.map
  exact ⟨h.gm.ask hB, h.tme, h.box.turn (Turn.ofBelow hB) (fun e => Nat.lt_irrefl _ (Nat.lt_of_lt_of_le h.box.lt e)), ⟨nn, K, cc, hn, hM.ask hB⟩, h.far, h.hue⟩
theorem McA.up {q q' : Nat} (h : McA B mb n rb bx tm q X s obs vl f adj wb hue T c wr) (hq : q ≤ q') : McA B mb n rb bx tm q' X s obs vl f adj wb hue T c wr := by
  obtain ⟨nn, K, cc, hn, hM⟩ := h.map
  exact ⟨h.gm, h.tme, h.box, ⟨nn, K, cc, by omega, hM⟩, h.far, h.hue⟩
theorem McA.look {q : Nat} (h : McA B mb n rb bx tm q X s obs vl f adj wb hue T c wr) (x : Int) (hx : (Lit.int .i64 x).wf = true) (v : Int) (hv : hue x = v) :
    (Instr.lookup 37 (.map (some rb)) (.int .i64 x) false).run Tryz.prog wr = .ok (.int .i64 v) wr := by
  obtain ⟨nn, K, cc, hn, hM⟩ := h.map
  subst hv
  exact hM.look x hx
theorem McA.cell {q : Nat} (h : McA B mb n rb bx tm q X s obs vl f adj wb hue T c wr) : wr.cell? ⟨bx, 0, none⟩ = some (.map (some rb)) := h.box.cell 0
/-- A marker's call, ahead of the map's. -/
structure McS (B mb n rb bx tm q : Nat) (X : ArB) (s : ArS) (obs : List Ob) (vl : Value) (f : Int → Value) (adj : Int → List Int) (wb : World) (hue : Int → Int) (T : MkB) (c : Col) (wr : World) : Prop where
  gm : GmIn B mb n X s obs vl f adj (fun k => k = rb ∨ k = bx) T c wb wr
  tme : T.m = tm
  box : Blk wr bx #[.map (some rb)] 37
  map : ∃ nn K cc, nn ≤ q ∧ MapIn wr rb nn hue K cc
  far : B ≤ rb ∧ ¬ GoHas X mb vl f rb
theorem McA.went {q : Nat} (h : McA B mb n rb bx tm q X s obs vl f adj wb hue T c wr) (hm : T'.m = tm) (hG : GmIn B mb n X s obs vl f adj (fun k => k = rb ∨ k = bx) T' c' wb w') (hk : ∀ k, (k = rb ∨ k = bx) → w'.heap[k]? = wr.heap[k]?) : McS B mb n rb bx tm q X s obs vl f adj wb hue T' c' w' := by
  obtain ⟨nn, K, cc, hn, hM⟩ := h.map
  exact ⟨hG, hm, by have h1 := h.box; unfold Blk at *; rw [hk bx (.inr rfl)]; exact h1, ⟨nn, K, cc, hn, hM.keep (hk rb (.inl rfl))⟩, h.far⟩
theorem McA.plain {q : Nat} (h : McA B mb n rb bx tm q X s obs vl f adj wb hue T c wr) : McS B mb n rb bx tm q X s obs vl f adj wb hue T c wr := ⟨h.gm, h.tme, h.box, h.map, h.far⟩
theorem McS.look {q : Nat} (h : McS B mb n rb bx tm q X s obs vl f adj wb hue T c wr) (x : Int) (hx : (Lit.int .i64 x).wf = true) (v : Int) (hv : hue x = v) :
    (Instr.lookup 37 (.map (some rb)) (.int .i64 x) false).run Tryz.prog wr = .ok (.int .i64 v) wr := by
  obtain ⟨nn, K, cc, hn, hM⟩ := h.map
  subst hv
  exact hM.look x hx
theorem McS.cell {q : Nat} (h : McS B mb n rb bx tm q X s obs vl f adj wb hue T c wr) : wr.cell? ⟨bx, 0, none⟩ = some (.map (some rb)) := h.box.cell 0
theorem McS.ok {q : Nat} (h : McS B mb n rb bx tm q X s obs vl f adj wb hue T c wr) (hh : Hue (refsI obs) c hue) : McA B mb n rb bx tm q X s obs vl f adj wb hue T c wr := ⟨h.gm, h.tme, h.box, h.map, h.far, hh⟩
/-- The map is told a colour. -/
theorem McS.put {q : Nat} (h : McS B mb n rb bx tm q X s obs vl f adj wb hue T c wr) (hq : q ≤ 100000) (x : Int) (hx : (Lit.int .i64 x).wf = true) (v : Int) (hv : (Lit.int .i64 v).wf = true) (hh : Hue (refsI obs) c (updI hue x v)) :
    ∃ w', (Instr.mapUpdate 37 (.map (some rb)) (.int .i64 x) (.int .i64 v)).run Tryz.prog wr = .ok () w' ∧ McA B mb n rb bx tm (q + 1) X s obs vl f adj wb (updI hue x v) T c w' := by
  obtain ⟨nn, K, cc, hn, hM⟩ := h.map
  obtain ⟨w', hrun, hM', hT⟩ := hM.store (by omega) x hx v hv
  have hne : ¬ bx = rb := fun e => hM.farBlk h.box e
  exact ⟨w', hrun, ⟨h.gm.turnE hT (fun k e => ⟨.inl e, e ▸ h.far.1, e ▸ h.far.2⟩), h.tme, h.box.turn hT hne, ⟨_, _, _, by omega, hM'⟩, h.far, hh⟩⟩
end
section
variable {B mb n rb bx tm : Nat} {X : ArB} {s : ArS} {obs : List Ob} {vl : Value} {f : Int → Value} {adj : Int → List Int} {E : Nat → Prop} {T T' : MkB} {c c' : Col} {wb wr w' : World} {hue : Int → Int}
theorem GmIn.arena (h : GmIn B mb n X s obs vl f adj E T c wb wr) : Calls Tryz.prog 32 #[.pointer (some ⟨T.m, 0, none⟩)] wr fun e w' => e = .returned (.pointer (some ⟨X.a, 0, none⟩)) ∧ wr = w' := mkArena h.mt
end
/-- How many of the first are marked; is one of them grey? -/
def cntM (c : Col) (R : List Int) (i : Nat) : Nat := (R.take i).countP c.ma
def anyG (c : Col) (R : List Int) (i : Nat) : Bool := (R.take i).any (greyC c)
section
variable {c : Col} {R : List Int} {i : Nat} {x : Int}
theorem cntM_yes (hx : R[i]? = some x) (h : c.ma x = true) : cntM c R (i + 1) = cntM c R i + 1 := by
  unfold cntM
  rw [List.take_add_one, hx, List.countP_append]; simp [h]
theorem cntM_no (hx : R[i]? = some x) (h : c.ma x = false) : cntM c R (i + 1) = cntM c R i := by
  unfold cntM
  rw [List.take_add_one, hx, List.countP_append]; simp [h]
theorem cntM_le (c : Col) (R : List Int) (i : Nat) : cntM c R i ≤ i := by
  unfold cntM
  have h1 := List.countP_le_length (p := c.ma) (l := R.take i)
  have h2 := List.length_take_le i R
  omega
theorem anyG_next (hx : R[i]? = some x) : anyG c R (i + 1) = (anyG c R i || greyC c x) := by
  unfold anyG
  rw [List.take_add_one, hx, List.any_append]; simp
theorem anyG_dry (hi : ∀ x, c.ma x = true → x ∈ R) : (!anyG c R R.length) = true ↔ c.dry := by
  unfold anyG
  rw [List.take_length]
  constructor
  · intro h x hx
    cases hs : c.sc x with
    | true => rfl
    | false =>
      have : R.any (greyC c) = true := List.any_eq_true.2 ⟨x, hi x hx, by unfold greyC; rw [hx, hs]; rfl⟩
      rw [this] at h; cases h
  · intro h
    cases ha : R.any (greyC c) with
    | false => rfl
    | true =>
      obtain ⟨x, _, hx⟩ := List.any_eq_true.1 ha
      unfold greyC at hx
      cases hm : c.ma x with
      | false => rw [hm] at hx; cases hx
      | true => rw [hm, h x hm] at hx; cases hx
theorem cntM_all (c : Col) (R : List Int) : cntM c R R.length = (R.filter c.ma).length := by
  unfold cntM
  rw [List.take_length, List.countP_eq_length_filter]
end
/-- The last one that was told, or none. -/
def lastN {S : Nat → Bool} {f : Int → Bool} (q : List (InMk S f)) : Nat := (tmVals q).getLast?.getD 0
theorem lastN_snoc {S : Nat → Bool} {f : Int → Bool} (q : List (InMk S f)) (x : InMk S f) : lastN (q ++ [x]) = x.1.val := by
  unfold lastN
  rw [tmVals_append]; simp [tmVals]
/-- Those that were told don't rise. -/
def Falls {S : Nat → Bool} {f : Int → Bool} (q : List (InMk S f)) : Prop := ¬ (tmVals q).Pairwise (· < ·)
theorem falls_of {S : Nat → Bool} {f : Int → Bool} {q : List (InMk S f)} {x : InMk S f} (h1 : 1 ≤ x.1.val) (h : x.1.val ≤ lastN q) : Falls (q ++ [x]) := fun hp => by
  rw [tmVals_append] at hp
  have h2 := (List.pairwise_append.1 hp).2.2
  unfold lastN at h
  cases hl : (tmVals q).getLast? with
  | none => rw [hl] at h; simp at h; omega
  | some y =>
    rw [hl] at h
    have := h2 y (List.mem_of_getLast? hl) x.1.val (by simp [tmVals])
    simp at h; omega
theorem falls_not {S S0 : Nat → Bool} {f : Int → Bool} {q : List (InMk S f)} {j : Nat} (h : tmVals q = soL f (elems S0 j)) : ¬ Falls q := fun hf => hf (by
  rw [h]
  unfold soL elems
  exact (List.pairwise_lt_range.filter _).filter _)
end Go.Proofs.YtkjpeacnponcfaaGreatDoor
