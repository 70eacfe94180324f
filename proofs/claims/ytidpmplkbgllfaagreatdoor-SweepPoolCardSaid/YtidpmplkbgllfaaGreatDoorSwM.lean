/- What SweepPool needs: a map of numbers by numbers, marks of loops, what of a page is kept; at this seat's numbers. -/
import Derived.Test.YtidpmplkbgllfaaGreatDoorSwG
import Derived.Test.YtidpmplkbgllfaaGreatDoorGrow
namespace Go.Proofs.YtidpmplkbgllfaaGreatDoor
open Go Go.RowKit Go.Maps
set_option linter.unusedSimpArgs false
set_option linter.unusedVariables false

theorem keyIntS : Keyed Tryz.prog 3 := int_keyed Tryz.underlying3
/-- Block B is a map of numbers: at x it has f x; it has just the keys that K tells, c of them. -/
structure MapPg (w : World) (B n : Nat) (f : Int → Int) (K : Int → Bool) (c : Nat) : Prop where
  ex : ∃ D : DataW Unit, w.ownsMap Tryz.prog 3 (plainElem Tryz.prog 3) B n D ∧ (∀ x, (Lit.int .i64 x).wf = true → D.atKey (.int .i64 x) (.lit (.int .i64 0)) = .lit (.int .i64 (f x))) ∧
    (∀ x, (Lit.int .i64 x).wf = true → has D (.int .i64 x) = K x) ∧ size D = c
section
variable {w w' : World} {B n c : Nat} {f : Int → Int} {K : Int → Bool}
theorem MapPg.keep (h : MapPg w B n f K c) (hk : w'.heap[B]? = w.heap[B]?) : MapPg w' B n f K c := by
  obtain ⟨⟨D, ⟨es, clock, hb, r⟩, hf⟩⟩ := h
  exact ⟨⟨D, ⟨es, clock, hk.trans hb, r⟩, hf⟩⟩
theorem MapPg.block (h : MapPg w B n f K c) : ∃ o : Obj, w.heap[B]? = some o ∧ o.isCells = false := by
  obtain ⟨⟨D, ⟨es, clock, hb, r⟩, hf⟩⟩ := h
  exact ⟨_, hb, rfl⟩
theorem MapPg.lt (h : MapPg w B n f K c) : B < w.heap.size := by
  obtain ⟨o, h1, _⟩ := h.block
  exact (Array.getElem?_eq_some_iff.1 h1).1
theorem MapPg.turn {M : Nat → Prop} (h : MapPg w B n f K c) (hT : Turn M w w') (hM : ¬ M B) : MapPg w' B n f K c := h.keep (hT.block B h.lt hM)
theorem MapPg.farBlk (h : MapPg w B n f K c) {b : Nat} {cs : Array Value} {T : TypeId} (hb : Blk w b cs T) : b ≠ B := fun e => by
  obtain ⟨o, h1, h2⟩ := h.block
  subst e
  unfold Blk at hb
  rw [hb] at h1
  cases h1
  cases h2
theorem MapPg.made (w : World) : MapPg (w.alloc (.map #[] 0)) w.heap.size 0 (fun _ => 0) (fun _ => false) 0 :=
  ⟨⟨_, World.ownsMap_made _ _ _ _, fun x _ => rfl, fun x _ => rfl, rfl⟩⟩
theorem MapPg.look (h : MapPg w B n f K c) (x : Int) (hx : (Lit.int .i64 x).wf = true) :
    (Instr.lookup 48 (.map (some B)) (.int .i64 x) false).run Tryz.prog w = .ok (.int .i64 (f x)) w := by
  obtain ⟨⟨D, hD, hf, _⟩⟩ := h
  obtain ⟨c, hrun, hat, _⟩ := hD.lookup_int keyIntS Tryz.underlying48 Tryz.underlying3 (zeroIntG _) (keyOf_int_mk Tryz.underlying3 hx)
  have e := (hf x hx).symm.trans hat
  cases e
  exact hrun
theorem MapPg.len (h : MapPg w B n f K c) (ty : TypeId) : (Builtin.len_ #[48] ty #[.map (some B)]).run Tryz.prog w = .ok (.int .i64 (c : Int)) w := by
  obtain ⟨⟨D, hD, _, _, hs⟩⟩ := h
  rw [← hs]; exact hD.len Tryz.underlying48 ty
theorem MapPg.store (h : MapPg w B n f K c) (hn : n < 9223372036854775807) (x : Int) (hx : (Lit.int .i64 x).wf = true) (v : Int) (hv : (Lit.int .i64 v).wf = true) :
    ∃ w', (Instr.mapUpdate 48 (.map (some B)) (.int .i64 x) (.int .i64 v)).run Tryz.prog w = .ok () w' ∧ MapPg w' B (n + 1) (updI f x v) (updI K x true) (if K x then c else c + 1) ∧ Turn (fun k => k = B) w w' := by
  obtain ⟨⟨D, hD, hf, hh, hs⟩⟩ := h
  have hM : IsMap D := hD.isMap
  have hTi : Tidy D := hD.tidy keyIntS
  have hk : WideAt.IsKeyLit (Lit.int .i64 x) := by simp [WideAt.IsKeyLit]
  obtain ⟨w', hrun, h1, h2⟩ := hD.store keyIntS Tryz.underlying48 hn (keyOf_int_mk Tryz.underlying3 hx) (plainElem_int (a := v) Tryz.underlying3 hv)
  refine ⟨w', hrun, ⟨⟨_, h1, fun y hy => ?_, fun y hy => ?_, ?_⟩⟩, (Turn.ofGrownM h2.grown).mono fun k _ e => ((Option.some.inj e).symm : k = B)⟩
  · by_cases e : y = x
    · subst e
      rw [Maps.atKey_put_same hM hk, updI_at]
    · rw [Maps.atKey_put_other (lit_neG e), hf y hy, updI_ne e]
  · by_cases e : y = x
    · subst e
      rw [has_put_same hM hk, updI_at]
    · rw [has_put_other (lit_neG e), hh y hy, updI_ne e]
  · rw [size_put hTi, hh x hx, hs]
end
def DsHas : List Deferred → Nat → Prop
  | [], _ => False
  | d :: ds, k => d.target = .collected k ∨ DsHas ds k
theorem Marks.inside {B : Nat} {w : World} : ∀ {ds : List Deferred} {hi : Nat}, Marks B hi ds w → ∀ k, DsHas ds k → B ≤ k ∧ k < hi
  | [], _, _, _, h => h.elim
  | _ :: _, _, ⟨D, h1, h2, h3, _, h5⟩, k, h => by
    rcases h with e | e
    · rw [h1] at e
      have e2 : D = k := by injection e
      omega
    · have := h5.inside k e; omega
theorem Marks.keepE {B : Nat} {w w' : World} : ∀ {ds : List Deferred} {hi : Nat}, Marks B hi ds w → (∀ k, DsHas ds k → w'.heap[k]? = w.heap[k]?) → Marks B hi ds w'
  | [], _, _, _ => trivial
  | _ :: _, _, ⟨D, h1, h2, h3, h4, h5⟩, hk => ⟨D, h1, h2, h3, (hk D (.inl (by rw [h1]))).trans h4, h5.keepE fun k e => hk k (.inr e)⟩
theorem Marks.top {B : Nat} {w : World} : ∀ {ds : List Deferred} {hi : Nat}, Marks B hi ds w → ∃ hi', hi' ≤ w.heap.size ∧ Marks B hi' ds w
  | [], _, _ => ⟨0, Nat.zero_le _, trivial⟩
  | _ :: _, _, ⟨D, h1, h2, h3, h4, h5⟩ => ⟨D + 1, (Array.getElem?_eq_some_iff.1 h4).1, D, h1, h2, Nat.lt_succ_self D, h4, h5⟩

theorem mod4 {q : Nat} (h : q < 256) : ∃ r : Nat, (q : Int).tmod 4 = (r : Int) ∧ r < 4 ∧ IntKind.u8.wrap (r : Int) = (r : Int) ∧ IntKind.i64.wrap (r : Int) = (r : Int) :=
  ⟨q % 4, by rw [Int.tmod_eq_emod_of_nonneg (by omega)]; omega, Nat.mod_lt _ (by decide), by simp [IntKind.wrap, IntKind.bits, IntKind.signed]; omega, by simp [IntKind.wrap, IntKind.bits, IntKind.signed]; omega⟩
theorem addK {a b c : Nat} (h : c = a + b) (h9 : a + b < 100000) : wrap64 ((a : Int) + (b : Int)) = (c : Int) := by
  subst h; simp [wrap64]; omega
theorem addI {a b c : Nat} (h : c = a + b) (h9 : a + b < 100000) : IntKind.i64.wrap ((a : Int) + (b : Int)) = (c : Int) := by
  subst h; simp [IntKind.wrap, IntKind.bits, IntKind.signed]; omega
theorem wrapV {a : Nat} (h9 : a < 100000) : IntKind.i64.wrap (a : Int) = (a : Int) := by
  simp [IntKind.wrap, IntKind.bits, IntKind.signed]; omega
theorem wpListIn_mapUpdate_runS {P : Program} {F : Fence} {n : Nat} {ops : Array Oper} {rest : List Oper} {o : Oper} {a : Act} {w : World} {Q : Exit → Act → World → Prop} (hgd : o.guard = none) (m x v : Operand) (t : TypeId)
    (ho : o.op = .mapUpdate t m x v) (vm vx vv : Value) (hm : a.eval m = vm) (hx : a.eval x = vx) (hv : a.eval v = vv) {w' : World}
    (hr : (Instr.mapUpdate t vm vx vv).run P w = .ok () w') (h : wpListIn F n P ops Q rest (a.put o.dst undef) w') : wpListIn F n P ops Q (o :: rest) a w := by
  refine wpListIn_plain hgd fun K' hK' => ?_
  unfold Oper.wpIn
  refine ⟨by simp [Oper.about, ho], ?_⟩
  rw [Oper.semAt_plain F _ _ (by rw [ho]; intro c hc'; cases hc')]
  simp [execOp, ho, hm, hx, hv, hr, Result.andThen]
  exact hK' _ _ h


theorem MapPg.ask {w w' : World} {B n c : Nat} {f : Int → Int} {K : Int → Bool} (h : MapPg w B n f K c) (hB : Below w.heap.size w w') : MapPg w' B n f K c := h.keep (hB.block _ h.lt)
/-- How many of a page are marked. -/
def kp (S : Nat → Bool) (c : Col) (p : Nat) : Nat := ((pgL S p).filter (blk c)).length
def kpT (S : Nat → Bool) (c : Col) (p o : Nat) : Bool := S (32 * p + o + 1) && c.ma ((32 * p + o + 1 : Nat) : Int)
theorem kp_elems (S : Nat → Bool) (c : Col) (p : Nat) : kp S c p = (elems (kpT S c p) 32).length := by
  unfold kp pgL elems kpT
  rw [List.filter_map, List.length_map, List.filter_filter]
  congr 1
  apply List.filter_congr
  intro o _
  simp only [Function.comp, blk, inPage]
  exact Bool.and_comm _ _
theorem kp_white (S : Nat → Bool) (p : Nat) : kp S Col.white p = 0 := by
  unfold kp
  rw [List.filter_eq_nil_iff.2 fun r hr h => by cases h]; rfl
theorem kp_le (S : Nat → Bool) (c : Col) (p : Nat) : kp S c p ≤ 32 := by
  unfold kp
  exact Nat.le_trans (List.length_filter_le _ _) (pgL_le S p)
theorem kp_black {S : Nat → Bool} {c : Col} {r : Nat} (h1 : 1 ≤ r) (hS : S r = true) (hm : c.ma (r : Int) = false) (p : Nat) : kp S (c.black (r : Int)) p = if p = pg r then kp S c p + 1 else kp S c p := by
  rw [kp_elems, kp_elems]
  by_cases e : p = pg r
  · rw [if_pos e]
    have e2 : 32 * p + (r - 1) % 32 + 1 = r := by subst e; unfold pg; omega
    refine elems_sub (o := (r - 1) % 32) ?_ (fun j => ?_) 32 (by omega)
    · unfold kpT
      rw [e2, hS]
      show (true && updI c.ma (r : Int) true (r : Int)) = true
      rw [updI_at]; rfl
    · unfold kpT
      by_cases ej : j = (r - 1) % 32
      · subst ej
        rw [e2, hm]; simp
      · have ne : ((32 * p + j + 1 : Nat) : Int) ≠ (r : Int) := by omega
        show (S _ && c.ma _) = ((S _ && updI c.ma (r : Int) true _) && _)
        rw [updI_ne ne, decide_eq_false ej]; simp
  · rw [if_neg e]
    congr 1
    unfold elems
    apply List.filter_congr
    intro o ho
    have ho2 := List.mem_range.1 ho
    have ne : ((32 * p + o + 1 : Nat) : Int) ≠ (r : Int) := by
      intro e2
      apply e
      unfold pg
      omega
    show (S _ && updI c.ma (r : Int) true _) = (S _ && c.ma _)
    rw [updI_ne ne]
/-- How many pages keep an object. -/
def nk (S : Nat → Bool) (c : Col) : Nat := (elems (fun p => decide (0 < kp S c p)) 64).length
theorem nk_white (S : Nat → Bool) : nk S Col.white = 0 := elems_none 64 fun p => by rw [kp_white]; rfl
theorem nk_le (S : Nat → Bool) (c : Col) : nk S c ≤ 64 := elems_length _ 64
theorem nk_black {S : Nat → Bool} {c : Col} {r : Nat} (h1 : 1 ≤ r) (hp : pg r < 64) (hS : S r = true) (hm : c.ma (r : Int) = false) : nk S (c.black (r : Int)) = if 0 < kp S c (pg r) then nk S c else nk S c + 1 := by
  unfold nk
  by_cases e : 0 < kp S c (pg r)
  · rw [if_pos e]
    congr 1
    unfold elems
    apply List.filter_congr
    intro p _
    rw [kp_black h1 hS hm]
    by_cases e2 : p = pg r
    · rw [if_pos e2, e2, decide_eq_true e]; simp
    · rw [if_neg e2]
  · rw [if_neg e]
    refine elems_sub (o := pg r) ?_ (fun p => ?_) 64 hp
    · show decide _ = true
      rw [kp_black h1 hS hm, if_pos rfl]; simp
    · show decide _ = (decide _ && _)
      rw [kp_black h1 hS hm]
      by_cases e2 : p = pg r
      · rw [if_pos e2, e2, decide_eq_false e]; simp
      · rw [if_neg e2, decide_eq_false e2]; simp
/-- The map's numbers, and its keys. -/
def kpF (S : Nat → Bool) (c : Col) (x : Int) : Int := if 0 ≤ x then (kp S c x.toNat : Nat) else 0
def kpK (S : Nat → Bool) (c : Col) (x : Int) : Bool := decide (0 ≤ x) && decide (0 < kp S c x.toNat)
theorem kpF_at (S : Nat → Bool) (c : Col) (p : Nat) : kpF S c (p : Int) = (kp S c p : Nat) := by unfold kpF; rw [if_pos (by omega)]; simp
theorem kpF_black {S : Nat → Bool} {c : Col} {r : Nat} (h1 : 1 ≤ r) (hS : S r = true) (hm : c.ma (r : Int) = false) : updI (kpF S c) ((pg r : Nat) : Int) ((kp S c (pg r) : Int) + 1) = kpF S (c.black (r : Int)) := by
  funext x
  by_cases e : x = ((pg r : Nat) : Int)
  · rw [e, updI_at, kpF_at, kp_black h1 hS hm, if_pos rfl]; omega
  · rw [updI_ne e]
    unfold kpF
    by_cases h0 : 0 ≤ x
    · rw [if_pos h0, if_pos h0, kp_black h1 hS hm, if_neg (by omega)]
    · rw [if_neg h0, if_neg h0]
theorem kpK_black {S : Nat → Bool} {c : Col} {r : Nat} (h1 : 1 ≤ r) (hS : S r = true) (hm : c.ma (r : Int) = false) : updI (kpK S c) ((pg r : Nat) : Int) true = kpK S (c.black (r : Int)) := by
  funext x
  by_cases e : x = ((pg r : Nat) : Int)
  · rw [e, updI_at]
    unfold kpK
    rw [kp_black h1 hS hm]; simp
  · rw [updI_ne e]
    unfold kpK
    by_cases h0 : 0 ≤ x
    · rw [kp_black h1 hS hm, if_neg (by omega)]
    · rw [decide_eq_false h0]; rfl
theorem kpK_pg (S : Nat → Bool) (c : Col) (p : Nat) : kpK S c (p : Int) = decide (0 < kp S c p) := by unfold kpK; simp
/-- What a page has behind its sweep. -/
theorem kept_page {s s' : ArS} {c c' : Col} {p : Nat} (hF : Fits s') (hS : ∀ r, pg r = p → s'.S r = s.S r) (hc : ∀ r : Nat, pg r = p → c'.ma (r : Int) = c.ma (r : Int)) : (pgL (swS s' c' p).S p).length = kp s.S c p := by
  have e : pgL (swS s' c' p).S p = (pgL s.S p).filter (blk c) := by
    unfold pgL elems
    rw [List.filter_map, List.filter_filter]
    congr 1
    apply List.filter_congr
    intro o ho
    have ho2 := List.mem_range.1 ho
    have hp : pg (32 * p + o + 1) = p := by unfold pg; omega
    show (swS s' c' p).S (32 * p + o + 1) = (c.ma ((32 * p + o + 1 : Nat) : Int) && s.S (32 * p + o + 1))
    rw [swS_S hF, hS _ hp, hc _ hp, hp]
    simp [Bool.and_comm]
  unfold kp
  rw [e]
/-- Its class. -/
theorem kept_class {s' : ArS} {c' : Col} {p : Nat} (hF : Fits s') (hp : p < s'.P) : (swS s' c' p).cls p = if (pgL (swS s' c' p).S p).length = 0 then -1 else s'.cls p := by
  by_cases e : (pgL (swS s' c' p).S p).length = 0
  · rw [if_pos e]
    refine giveL_free hF _ hp ?_
    have h1 := pgL_used (swS s' c' p).S p
    rw [List.length_eq_zero_iff.1 e] at h1
    exact h1.trans rfl
  · rw [if_neg e]
    refine giveL_used hF _ ?_
    have h1 := pgL_used (swS s' c' p).S p
    have h2 : pgL (swS s' c' p).S p ≠ [] := fun e2 => e (by rw [e2]; rfl)
    rw [decide_eq_true h2] at h1
    exact h1
/-- At the end so many pages are free. -/
theorem free_end {s s' : ArS} {c : Col} (hF : Fits s') (hP : s'.P = 64) (hS : ∀ r, s'.S r = (s.S r && c.ma (r : Int))) : freeTo s' s'.P + nk s.S c = 64 := by
  rw [hP]
  have h1 : ∀ p, p < 64 → ((s'.cls p == -1) = !decide (0 < kp s.S c p)) := fun p hp => by
    have h2 := pgL_used s'.S p
    have e : pgL s'.S p = (pgL s.S p).filter (blk c) := by
      unfold pgL elems
      rw [List.filter_map, List.filter_filter]
      congr 1
      apply List.filter_congr
      intro o ho
      show s'.S (32 * p + o + 1) = (c.ma ((32 * p + o + 1 : Nat) : Int) && s.S (32 * p + o + 1))
      rw [hS, Bool.and_comm]
    by_cases e2 : 0 < kp s.S c p
    · rw [decide_eq_true e2]
      have h3 : pgL s'.S p ≠ [] := fun e3 => by
        unfold kp at e2
        rw [← e, e3] at e2
        exact absurd e2 (by simp)
      rw [decide_eq_true h3] at h2
      have h4 := used_cls hF h2
      simpa using h4
    · rw [decide_eq_false e2]
      have h3 : pgL s'.S p = [] := by
        unfold kp at e2
        rw [← e] at e2
        exact List.length_eq_zero_iff.1 (by omega)
      by_cases h4 : s'.cls p = -1
      · rw [h4]; rfl
      · have h5 := hF.used p (by omega) h4
        rw [h2, h3] at h5
        simp at h5
  unfold freeTo nk elems
  rw [← List.countP_eq_length_filter]
  have h2 : (List.range 64).countP (fun q => s'.cls q == -1) = (List.range 64).countP (fun p => !decide (0 < kp s.S c p)) := by
    apply List.countP_congr
    intro p hp
    rw [h1 p (List.mem_range.1 hp)]
  rw [h2]
  have h3 := List.length_eq_countP_add_countP (fun p => decide (0 < kp s.S c p)) (l := List.range 64)
  rw [List.length_range] at h3
  have h4 : (List.range 64).countP (fun p => !decide (0 < kp s.S c p)) = (List.range 64).countP (fun a => ¬ (decide (0 < kp s.S c a)) = true) := by
    apply List.countP_congr
    intro p _
    simp
  omega
end Go.Proofs.YtidpmplkbgllfaaGreatDoor
