/- The law's model in memory: its map, its pages' classes; at this seat's numbers. -/
import Derived.Test.YtlloanoohphgcaaDoorArPa
import Derived.Maps.OwnSet
import Derived.Maps.RangeWalk
namespace Go.Proofs.YtlloanoohphgcaaDoor
open Go Go.RowKit Go.Shelf Go.MuLone Go.RwLone Go.Maps
set_option linter.unusedSimpArgs false
set_option linter.unusedVariables false

theorem keyRef : Keyed Tryd.prog 30 := int_keyed Tryd.underlying30
theorem zeroInt (w : World) : (zeroValue 3).run Tryd.prog w = .ok (.int .i64 0) w := by kernel_rfl
theorem wf_of {x : Int} (h0 : 0 ≤ x) (h1 : x ≤ 100000) : (Lit.int .i64 x).wf = true := by
  exact WalkArith.wf_i64 (by omega)

/-- What the map says: the taken cells, each with its page's class. -/
structure MapD (D : DataW Unit) (s : ArS) : Prop where
  has_ : ∀ x, (Lit.int .i64 x).wf = true → Maps.has D (.int .i64 x) = inS s.S x
  at_ : ∀ r : Nat, s.S r = true → ∀ z, D.atKey (.int .i64 (r : Int)) z = .lit (.int .i64 (s.cls (pg r)))
  size_ : Maps.size D = (elems s.S 2049).length

theorem seekF_le {s : ArS} (hF : Fits s) (c : Int) : seekF s c ≤ 2048 := by
  by_cases h0 : seekF s c = 0
  · omega
  · have := (seekF_is hF h0).2.2.1
    have := hF.p64
    omega
theorem litne {x y : Int} (h : y ≠ x) : Lit.int .i64 y ≠ Lit.int .i64 x := fun e => h (by injection e)
theorem inS_put {S : Nat → Bool} {r : Nat} {x : Int} (h : x ≠ r) : inS (putN S r) x = inS S x := by
  unfold inS putN
  by_cases h0 : 0 ≤ x
  · have e : decide (x.toNat = r) = false := by simp; omega
    rw [e]; simp
  · simp [h0]
theorem inS_drop {S : Nat → Bool} {r : Nat} {x : Int} (h : x ≠ r) : inS (dropN S r) x = inS S x := by
  unfold inS dropN
  by_cases h0 : 0 ≤ x
  · have e : decide (x.toNat = r) = false := by simp; omega
    rw [e]; simp
  · simp [h0]

theorem MapD.take {D : DataW Unit} {s : ArS} (h : MapD D s) (hF : Fits s) (hM : IsMap D) (hT : Tidy D) {c : Int} (h0 : seekF s c ≠ 0) :
    MapD (D.put (.int .i64 ((seekF s c : Nat) : Int)) (.lit (.int .i64 c))) (s.take c) := by
  have hk : WideAt.IsKeyLit (Lit.int .i64 ((seekF s c : Nat) : Int)) := by simp [WideAt.IsKeyLit]
  have hle := seekF_le hF c
  obtain ⟨_, _, _, _, hS, _, h6⟩ := seekF_is hF h0
  rw [take_some h0]
  generalize seekF s c = r at *
  refine ⟨fun x hx => ?_, fun j hj z => ?_, ?_⟩
  · show _ = inS (putN s.S r) x
    by_cases e : x = (r : Int)
    · subst e
      rw [has_put_same hM hk, inS_nat]; simp [putN]
    · rw [has_put_other (litne e), h.has_ x hx, inS_put e]
  · show _ = DataW.lit (.int .i64 (upd s.cls (pg r) c (pg j)))
    by_cases e : j = r
    · subst e
      rw [Maps.atKey_put_same hM hk]; simp [upd]
    · have hj' : s.S j = true := by
        have hj2 : putN s.S r j = true := hj
        simpa [putN, e] using hj2
      rw [Maps.atKey_put_other (litne (by omega)), h.at_ j hj']
      unfold upd
      by_cases e2 : pg j = pg r
      · rw [if_pos e2]
        rcases h6 with h6 | ⟨_, h6⟩
        · rw [e2, h6]
        · have h1 := (hF.at_ j hj').1
          have := h6 ((j - 1) % 32) (by omega)
          rw [show 32 * pg r + (j - 1) % 32 + 1 = j by rw [← e2]; unfold pg; omega, hj'] at this
          cases this
      · rw [if_neg e2]
  · show _ = (elems (putN s.S r) 2049).length
    have e1 : Maps.size (D.put (.int .i64 (r : Int)) (.lit (.int .i64 c))) = Maps.size D + 1 := by
      rw [size_put hT, h.has_ _ (wf_of (by omega) (by omega)), inS_nat, hS]; rfl
    rw [e1, h.size_]
    exact (elems_sub (T := putN s.S r) (T' := s.S) (o := r) (by simp [putN]) (fun j => by
      by_cases e : j = r
      · subst e; simp [hS]
      · simp [putN, e]) 2049 (by omega)).symm

theorem MapD.give {D : DataW Unit} {s : ArS} (h : MapD D s) (hF : Fits s) (hT : Tidy D) {r : Nat} (hS : s.S r = true) :
    MapD (D.del (.int .i64 (r : Int))) (s.giveI (r : Int)) := by
  obtain ⟨a1, a2, _, _⟩ := hF.at_ r hS
  have hp := hF.p64
  rw [giveI_nat hS]
  refine ⟨fun x hx => ?_, fun j hj z => ?_, ?_⟩
  · show _ = inS (dropN s.S r) x
    by_cases e : x = (r : Int)
    · subst e
      rw [has_del_same, inS_nat]; simp [dropN]
    · rw [has_del_other (litne e), h.has_ x hx, inS_drop e]
  · show _ = DataW.lit (.int .i64 (giveCls s r (pg j)))
    have hj2 : dropN s.S r j = true := hj
    have hj3 : s.S j = true ∧ ¬ j = r := by simpa [dropN] using hj2
    rw [Maps.atKey_del_other (litne (by omega)), h.at_ j hj3.1]
    unfold giveCls
    split
    · rfl
    · rename_i hu
      unfold upd
      rw [if_neg]
      intro e
      exact hu (e ▸ usedIn_pg (hF.at_ j hj3.1).1 hj2)
  · show _ = (elems (dropN s.S r) 2049).length
    have e1 := size_del (k := Lit.int .i64 (r : Int)) hT
    rw [h.has_ _ (wf_of (by omega) (by omega)), inS_nat, hS, if_pos rfl, h.size_, elems_sub (T := s.S) (T' := dropN s.S r) (o := r) hS (fun j => rfl) 2049 (by omega)] at e1
    omega

/-- Block t is the map of s. -/
def MapM (w : World) (t : Nat) (s : ArS) : Prop :=
  ∃ D : DataW Unit, w.ownsMap Tryd.prog 30 (plainElem Tryd.prog 3) t 4096 D ∧ MapD D s
theorem own_tight {H : Type} {P : Program} {k : TypeId} {R : Value → Option (DataW H × List MemPlace)} {w : World} {b n m : Nat} {D : DataW H} (h : w.ownsMap P k R b n D) (hs : Maps.size D ≤ m) : w.ownsMap P k R b m D := by
  obtain ⟨es, clock, hb, F, hn, rfl⟩ := h
  refine ⟨es, clock, hb, F, ?_, rfl⟩
  simpa [Maps.size, length_sorted] using hs
theorem MapM.block {w : World} {t : Nat} {s : ArS} (h : MapM w t s) : ∃ o : Obj, w.heap[t]? = some o ∧ o.isCells = false := by
  obtain ⟨D, ⟨es, clock, hb, r⟩, hf⟩ := h
  exact ⟨_, hb, rfl⟩
theorem MapM.turn {M : Nat → Prop} {w w' : World} {t : Nat} {s : ArS} (h : MapM w t s) (hT : Turn M w w') (hM : ¬ M t) : MapM w' t s := by
  obtain ⟨D, ⟨es, clock, hb, r⟩, hf⟩ := h
  exact ⟨D, ⟨es, clock, (hT.block t (Array.getElem?_eq_some_iff.1 hb).1 hM).trans hb, r⟩, hf⟩
theorem MapM.made {w : World} {t P : Nat} (h : w.heap[t]? = some (.map #[] 0)) : MapM w t (.new P) :=
  ⟨.map [], ⟨#[], 0, h, ⟨by simp, MapKept.stamped_empty 0, by simp⟩, Nat.zero_le _, rfl⟩, ⟨fun x _ => by simp [inS, ArS.new]; rfl, fun r hr => (by cases hr), by
    have : elems (ArS.new P).S 2049 = [] := by simp [elems, ArS.new]
    rw [this]; rfl⟩⟩
theorem MapM.len {w : World} {t : Nat} {s : ArS} (h : MapM w t s) (ty : TypeId) : (Builtin.len_ #[42] ty #[.map (some t)]).run Tryd.prog w = .ok (.int .i64 ((elems s.S 2049).length : Int)) w := by
  obtain ⟨D, hD, hf⟩ := h
  rw [← hf.size_]; exact hD.len Tryd.underlying42 ty

/-- 'v, ok := m.taken[x]'. -/
theorem wpList_lookM {ops : Array Oper} {rest : List Oper} {o : Oper} {a : Act} {Q : Exit → Act → World → Prop} {w : World} {t : Nat} {s : ArS} (hg : o.guard = none) (m x : Operand) (hop : o.op = Op.lookup 42 m x true)
    (h : MapM w t s) (y : Int) (hy : (Lit.int .i64 y).wf = true) (b : Bool) (hb : inS s.S y = b) (hm : a.eval m = .map (some t)) (hx : a.eval x = .int .i64 y)
    (hK : ∀ c : Int, wpList Tryd.prog ops Q rest (a.put o.dst (.tuple #[.int .i64 c, .bool b])) w) : wpList Tryd.prog ops Q (o :: rest) a w := by
  obtain ⟨D, hD, hf⟩ := h
  refine wpList_lookup_own_ok_int w hg m x 42 hop 30 3 .i64 keyRef Tryd.underlying42 Tryd.underlying3 (zeroInt w) t 4096 D hm hD (.int .i64 y) (.int .i64 y) hx (keyOf_int_mk Tryd.underlying30 hy) fun c _ _ => ?_
  rw [hf.has_ y hy, hb]
  exact hK c

/-- The blocks of a model, and the slice of its pages. -/
structure MdB where
  m : Nat
  t : Nat
  v : Value
def MdB.has (Y : MdB) (k : Nat) : Prop := k = Y.m ∨ k = Y.t ∨ Y.v.ownBlock = some k
def PagesIn (w : World) (v : Value) (s : ArS) : Prop :=
  (v = .slice none 0 0 ∧ s.P = 0) ∨ ∃ g cap cur, v = .slice (some ⟨g, 0, none⟩) s.P cap ∧ Blk w g cur 3 ∧ s.P ≤ cur.size ∧ ∀ k, k < s.P → cur[k]? = some (.int .i64 (s.cls k))
/-- The model of s in memory. -/
structure MdAt (w : World) (Y : MdB) (s : ArS) : Prop where
  head : Blk w Y.m #[Y.v, .map (some Y.t)] 44
  pages : PagesIn w Y.v s
  map : MapM w Y.t s
  fits : Fits s

section
variable {w w' : World} {Y : MdB} {s : ArS} {v : Value}
theorem PagesIn.own (h : PagesIn w v s) {k : Nat} (hk : v.ownBlock = some k) : ∃ cur, Blk w k cur 3 := by
  rcases h with ⟨rfl, _⟩ | ⟨g, cap, cur, rfl, hb, _⟩
  · cases hk
  · have : g = k := by simpa [Value.ownBlock] using hk
    subst this; exact ⟨cur, hb⟩
theorem PagesIn.turn {M : Nat → Prop} (h : PagesIn w v s) (hT : Turn M w w') (hn : ∀ k, v.ownBlock = some k → ¬ M k) : PagesIn w' v s := by
  rcases h with h | ⟨g, cap, cur, rfl, hb, h⟩
  · exact .inl h
  · exact .inr ⟨g, cap, cur, rfl, hb.turn hT (hn g rfl), h⟩
theorem PagesIn.lenRun (h : PagesIn w v s) (ty : TypeId) (W : World) : (Builtin.len_ #[41] ty #[v]).run Tryd.prog W = .ok (.int .i64 (s.P : Int)) W := by
  rcases h with ⟨rfl, e⟩ | ⟨g, cap, cur, rfl, _⟩
  · rw [e]; kernel_rfl
  · simp [go_sem, Builtin.len_]
theorem MdAt.turn {M : Nat → Prop} (h : MdAt w Y s) (hT : Turn M w w') (hn : ∀ k, Y.has k → ¬ M k) : MdAt w' Y s :=
  ⟨h.head.turn hT (hn _ (.inl rfl)), h.pages.turn hT (fun k hk => hn k (.inr (.inr hk))), h.map.turn hT (hn _ (.inr (.inl rfl))), h.fits⟩
theorem MdAt.lt (h : MdAt w Y s) : ∀ k, Y.has k → k < w.heap.size := by
  rintro k (rfl | rfl | e)
  · exact h.head.lt
  · obtain ⟨o, ho, _⟩ := h.map.block
    exact (Array.getElem?_eq_some_iff.1 ho).1
  · obtain ⟨cur, hb⟩ := h.pages.own e
    exact hb.lt
theorem MdAt.below (h : MdAt w Y s) (hB : Below w.heap.size w w') : MdAt w' Y s := h.turn (Turn.ofBelow hB) (fun k hk e => by have := h.lt k hk; omega)
theorem MdAt.alloc (h : MdAt w Y s) (o : Obj) : MdAt (w.alloc o) Y s := h.turn ((Turn.refl (fun _ => False) w).alloc o) (fun _ _ h => h)
theorem MdAt.c0 (h : MdAt w Y s) : w.cell? ⟨Y.m, 0, none⟩ = some Y.v := h.head.cell 0
theorem MdAt.c1 (h : MdAt w Y s) : w.cell? ⟨Y.m, 1, none⟩ = some (.map (some Y.t)) := h.head.cell 1
theorem MdAt.mt (h : MdAt w Y s) : Y.m ≠ Y.t := fun e => by
  obtain ⟨o, ho, hc⟩ := h.map.block
  have hh := h.head
  unfold Blk at hh
  rw [← e, hh] at ho
  cases ho; cases hc
end

/-- -1 is appended to a row of integers. -/
theorem wpList_pushI {ops : Array Oper} {rest : List Oper} {o : Oper} {a : Act} {Q : Exit → Act → World → Prop} {B n : Nat} {v : Value} {xs : List Value} {w : World} (hgd : o.guard = none) (s x : Operand)
    (ho : o.op = .call { callee := .builtin .append, args := #[s, x], argTypes := #[41, 41] }) (h : w.ownsRow B 3 1 v n xs) (hB : B ≤ w.heap.size) (hl : n ≤ 100000) (ad c : Nat) (hr : w.cell? ⟨ad, 0, none⟩ = some (.int .i64 (-1)))
    (hs : a.eval s = v) (hx : a.eval x = .slice (some ⟨ad, 0, none⟩) 1 c) (hK : ∀ v' w', w'.ownsRow B 3 1 v' (n + 1) (xs ++ [.int .i64 (-1)]) → Turn (fun k => v.ownBlock = some k) w w' → wpList Tryd.prog ops Q rest (a.put o.dst v') w') : wpList Tryd.prog ops Q (o :: rest) a w := by
  obtain ⟨i0, hi, hz0, hz1, hz2⟩ := info_parts infoInt
  refine wpList_append_own w hgd s x 41 ho B 3 i0 (.int .i64 0) 1 8 Tryd.underlying41 hi hz0 hz1 hz2 rfl (by decide) v n xs hs h ⟨ad, 0, none⟩ 1 c [.int .i64 (-1)] hx rfl (fun j u hj => by
    match j, hj with
    | 0, hj => simp at hj; subst hj; simpa [Addr.add] using hr) (fun u hu => by simp at hu; subst hu; rfl) (by unfold maxLen; omega) (by omega) hB fun v' w' h2 h3 _ => ?_
  exact hK v' w' h2 ⟨h3.os, h3.tape, h3.output, h3.size, fun k hk hn => h3.block k hk (fun e => hn e.symm)⟩
/-- A Ref is appended to a row of the call's own. -/
theorem wpList_pushR {ops : Array Oper} {rest : List Oper} {o : Oper} {a : Act} {Q : Exit → Act → World → Prop} {B : Nat} {v : Value} {l : List Nat} {w : World} (hgd : o.guard = none) (s x : Operand)
    (ho : o.op = .call { callee := .builtin .append, args := #[s, x], argTypes := #[54, 54] }) (h : RefsIn B w v l) (hB : B ≤ w.heap.size) (hl : l.length ≤ 100000) (ad c r : Nat) (hr : w.cell? ⟨ad, 0, none⟩ = some (.int .i64 (r : Int)))
    (hs : a.eval s = v) (hx : a.eval x = .slice (some ⟨ad, 0, none⟩) 1 c) (hK : ∀ v' w', RefsIn B w' v' (l ++ [r]) → Turn (fun k => v.ownBlock = some k) w w' → wpList Tryd.prog ops Q rest (a.put o.dst v') w') : wpList Tryd.prog ops Q (o :: rest) a w := by
  obtain ⟨i0, hi, hz0, hz1, hz2⟩ := info_parts infoRef
  refine wpList_append_own w hgd s x 54 ho B 30 i0 (.int .i64 0) 1 8 Tryd.underlying54 hi hz0 hz1 hz2 rfl (by decide) v l.length (refVals l) hs h ⟨ad, 0, none⟩ 1 c [.int .i64 (r : Int)] hx rfl (fun j u hj => by
    match j, hj with
    | 0, hj => simp at hj; subst hj; simpa [Addr.add] using hr) (fun u hu => by simp at hu; subst hu; rfl) (by unfold maxLen; omega) (by omega) hB fun v' w' h2 h3 _ => ?_
  refine hK v' w' ?_ ⟨h3.os, h3.tape, h3.output, h3.size, fun k hk hn => h3.block k hk (fun e => hn e.symm)⟩
  unfold RefsIn
  rw [List.length_append]
  have e : refVals (l ++ [r]) = refVals l ++ [.int .i64 (r : Int)] := by simp [refVals]
  rw [e]; exact h2
end Go.Proofs.YtlloanoohphgcaaDoor
