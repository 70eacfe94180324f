/- slices.Delete at rows of registers; SetReg; at this seat's numbers. -/
import Derived.Test.YtoemfehlnnbjdaaThC
namespace Go.Proofs.Ytoemfehlnnbjdaa
open Go Go.RowKit Go.Shelf
set_option linter.unusedSimpArgs false
set_option linter.unusedVariables false
attribute [local go_sem] Oper.semAt_some

theorem zeroReg (w : World) : (zeroValue 67).run Try.prog w = .ok (.agg #[.int .i64 0, .int .i64 0]) w := by kernel_rfl
/-- clear, of one register. -/
theorem run_clear_reg (w : World) (ty : TypeId) (g o c : Nat) (cur : Array Value) (t : TypeId) (hg : w.heap[g]? = some (.cells cur t (0, 0))) (hfit : o + 2 ≤ cur.size) :
    (Builtin.clear_ #[64] ty #[.slice (some ⟨g, o, none⟩) 1 c]).run Try.prog w = .ok (.tuple #[]) (w.setRow g (cur.toList.take o ++ [Value.int .i64 0, .int .i64 0] ++ cur.toList.drop (o + 2)).toArray) := by
  have hst := run_storeCells_at Try.prog g o t [Value.int .i64 0, .int .i64 0] 0 cur w hg (by simpa using hfit) (fun u hu => by simp at hu; subst hu; rfl)
  have hz : (Builtin.zeroCells (Value.agg #[.int .i64 0, .int .i64 0]).cells 1).toList = [Value.int .i64 0, .int .i64 0] := by kernel_rfl
  simp [Builtin.clear_, run_underlying Try.underlying64, zeroReg, hz, hst]
theorem RegRow.front {w : World} {g cap : Nat} {L : List (Nat × Int)} (h : RegRow w (.slice (some ⟨g, 0, none⟩) L.length cap) L) (k : Nat) (hk : k ≤ L.length) : w.ownsRow 0 67 2 (.slice (some ⟨g, 0, none⟩) k cap) k (regCells (L.take k)) := by
  rcases h.2 with ⟨e, _⟩ | ⟨g2, cap2, cur, e, _, hg, hn, hm, hs, ht⟩
  · cases e
  · cases e
    refine ⟨by rw [regCells_length, List.length_take]; omega, .inr ⟨g, cap, cur, rfl, Nat.zero_le _, hg, by omega, hm, hs, ?_⟩⟩
    rw [← regCells_take L k hk, ← ht, List.take_take, Nat.min_eq_left (by omega)]

theorem step_append_runT {P : Program} {ops : Array Oper} {o : Oper} {a : Act} {w : World} {K : Act → World → Prop} {Q : Exit → Act → World → Prop} {E : Prop}
    (hg : o.guard = none) (d x : Operand) (dT sT : TypeId) (hop : o.op = Op.call { callee := Callee.builtin Builtin.append, args := #[d, x], argTypes := #[dT, sT] })
    (v u : Value) (hd : a.eval d = v) (hx : a.eval x = u) {v' : Value} {w' : World} (hr : (Builtin.append_ #[dT, sT] o.type #[v, u]).run P w = .ok v' w') (hK : K (a.put o.dst v') w') :
    if Region.wanted o (yielded ops a.tmps) = true then Oper.wp P o a w K Q else E := by
  have hw : Region.wanted o (yielded ops a.tmps) = true := by simp [Region.wanted, hg]
  rw [if_pos hw]
  unfold Oper.wp
  simp [execOp, hop, resolve, invoke, builtin, hd, hx, hr, Result.andThen]
  exact hK
theorem wpList_clear_runT {P : Program} (w : World) {ops : Array Oper} {rest : List Oper} {o : Oper} {a : Act} {Q : Exit → Act → World → Prop} (hgd : o.guard = none) (d : Operand) (t : TypeId)
    (ho : o.op = .call { callee := .builtin .clear, args := #[d], argTypes := #[t] }) (v : Value) (hd : a.eval d = v) {v' : Value} {w' : World}
    (hr : (Builtin.clear_ #[t] o.type #[v]).run P w = .ok v' w') (h : wpList P ops Q rest (a.put o.dst v') w') : wpList P ops Q (o :: rest) a w :=
  wpList_plain hgd fun _ hK => by
    unfold Oper.wp execOp
    simp only [ho, resolve, invoke, builtin, Sem.run_bind, Sem.run_pure, Result.andThen_ok, List.map_toArray, List.map_cons, List.map_nil, hd, hr]
    exact hK _ _ h

set_option maxHeartbeats 4000000 in
set_option maxRecDepth 100000 in
/-- What is left where one is taken out. -/
theorem delete_any (L : List (Nat × Int)) (g n0 cap : Nat) (w : World) (hv : RegRow w (.slice (some ⟨g, 0, none⟩) n0 cap) L) (k : Nat) (hk : k < L.length) (hL : L.length ≤ 100000) :
    Calls Try.prog 30 #[.slice (some ⟨g, 0, none⟩) n0 cap, .int .i64 (k : Int), .int .i64 ((k : Int) + 1)] w fun e w' =>
      ∃ n, e = .returned (.slice (some ⟨g, 0, none⟩) n cap) ∧ RegRow w' (.slice (some ⟨g, 0, none⟩) n cap) (L.take k ++ L.drop (k + 1)) ∧ Turn (fun j => j = g) w w' := by
  obtain ⟨i0, hi0, hz0, hzs, hzb⟩ := info_parts infoReg
  rcases hv.is with ⟨e, _⟩ | ⟨g2, cap2, cur, e, hg, hlc, hcm, hcs, hcl⟩
  · cases e
  · cases e
    have hfr := hv.front k (by omega)
    have hlen : (L.take k ++ L.drop (k + 1)).length = L.length - 1 := by simp; omega
    have hd : (regCells (L.drop (k + 1))).length = (L.length - (k + 1)) * 2 := by rw [regCells_length, List.length_drop]
    have hab : regCells L = regCells (L.take (k + 1)) ++ regCells (L.drop (k + 1)) := by rw [← regCells_append, List.take_append_drop]
    have ha : (regCells (L.take (k + 1))).length = (k + 1) * 2 := by rw [regCells_length, List.length_take]; omega
    have hsub : ∀ j u, (regCells (L.drop (k + 1)))[j]? = some u → w.drew.cell? ((⟨g, (k + 1) * 2, none⟩ : Addr).add j) = some u := fun j u hj => by
      rw [Addr.add_lit]
      have hc := World.ownsRow.cells hv (g := g) rfl ((k + 1) * 2 + j) u (by rw [hab, List.getElem?_append_right (by omega), ha, Nat.add_sub_cancel_left]; exact hj)
      rw [Addr.add_lit, Nat.zero_add] at hc
      exact hc
    have hlt : k + 1 ≤ L.length := hk
    obtain ⟨src, hsrc, hap⟩ : ∃ src : Value, src = .slice (if cap = k + 1 then some ⟨g, 0, none⟩ else some ⟨g, (k + 1) * 2, none⟩) (L.length - (k + 1)) (cap - (k + 1)) ∧ ∀ ty, ∃ w1, (Builtin.append_ #[64, 64] ty #[.slice (some ⟨g, 0, none⟩) k cap, src]).run Try.prog w.drew = .ok (.slice (some ⟨g, 0, none⟩) (L.length - 1) cap) w1 ∧
        w1.ownsRow 0 67 2 (.slice (some ⟨g, 0, none⟩) (L.length - 1) cap) (L.length - 1) (regCells (L.take k) ++ regCells (L.drop (k + 1))) ∧ w.drew.grownBy w1 (some g) := by
      refine ⟨_, rfl, fun ty => ?_⟩
      have hkk : k + (L.length - (k + 1)) = L.length - 1 := by omega
      by_cases hc : cap = k + 1
      · rw [if_pos hc]
        have hm0 : L.length - (k + 1) = 0 := by omega
        obtain ⟨w1, h1, h2, h3⟩ := run_append_fits (P := Try.prog) w.drew 0 64 ty 67 i0 2 Try.underlying64 hi0 hzs g k cap _ hfr ⟨g, 0, none⟩ (L.length - (k + 1)) (cap - (k + 1)) (regCells (L.drop (k + 1))) hd (fun j u hj => by
          have : regCells (L.drop (k + 1)) = [] := List.eq_nil_of_length_eq_zero (by rw [hd, hm0])
          rw [this] at hj; simp at hj) (regCells_one _) (by omega)
        rw [hkk] at h1 h2
        exact ⟨w1, h1, h2, h3⟩
      · rw [if_neg hc]
        obtain ⟨w1, h1, h2, h3⟩ := run_append_fits (P := Try.prog) w.drew 0 64 ty 67 i0 2 Try.underlying64 hi0 hzs g k cap _ hfr ⟨g, (k + 1) * 2, none⟩ (L.length - (k + 1)) (cap - (k + 1)) (regCells (L.drop (k + 1))) hd hsub (regCells_one _) (by omega)
        rw [hkk] at h1 h2
        exact ⟨w1, h1, h2, h3⟩
    obtain ⟨w1, h1, h2, h3⟩ := hap 64
    rcases h2.2 with ⟨e, _⟩ | ⟨g3, cap3, c1, e, _, hg1, hn1, hm1, hs1, ht1⟩
    · cases e
    · cases e
      have hcl1 : ∀ ty dc, (Builtin.clear_ #[64] ty #[.slice (some ⟨g, (L.length - 1) * 2, none⟩) 1 dc]).run Try.prog w1 = .ok (.tuple #[]) (w1.setRow g (c1.toList.take ((L.length - 1) * 2) ++ [Value.int .i64 0, .int .i64 0] ++ c1.toList.drop ((L.length - 1) * 2 + 2)).toArray) := fun ty dc =>
        run_clear_reg w1 ty g _ dc c1 _ hg1 (by omega)
      obtain ⟨c2, hc2⟩ : ∃ c2, c2 = (c1.toList.take ((L.length - 1) * 2) ++ [Value.int .i64 0, .int .i64 0] ++ c1.toList.drop ((L.length - 1) * 2 + 2)).toArray := ⟨_, rfl⟩
      rw [← hc2] at hcl1
      have hend : RegRow (w1.setRow g c2) (.slice (some ⟨g, 0, none⟩) (L.length - 1) cap) (L.take k ++ L.drop (k + 1)) := by
        unfold RegRow
        rw [hlen, regCells_append]
        refine ⟨h2.1, .inr ⟨g, cap, c2, rfl, Nat.zero_le _, setRow_heap w1 g c1 c2 _ _ hg1, hn1, hcm, ?_, ?_⟩⟩
        · rw [hc2]; simp; omega
        · rw [hc2]
          show (c1.toList.take ((L.length - 1) * 2) ++ [Value.int .i64 0, .int .i64 0] ++ c1.toList.drop ((L.length - 1) * 2 + 2)).take ((L.length - 1) * 2) = _
          rw [List.append_assoc, List.take_append_of_le_length (by simp; omega), List.take_take, Nat.min_self]
          exact ht1
      have hTe : Turn (fun j => j = g) w (w1.setRow g c2) := ((Turn.refl _ w).drew.trans (Turn.ofGrown h3) (fun i _ e => by injection e with e; exact e.symm)).trans (turn_setRow w1 g c2) (fun _ _ h => h)
      have hk0 : (0 : Int) ≤ (k : Int) := by omega
      have hk1 : (k : Int) + 1 ≤ (L.length : Int) := by omega
      have hw1 : IntKind.i64.wrap ((k : Int) + 1) = (k : Int) + 1 := IntWalk.i64_in _ (by omega)
      have hk2 : (k : Int) ≤ (k : Int) + 1 := by omega
      have hkc : (k : Int) ≤ (cap : Int) := by omega
      have hlI : (L.length : Int) ≤ (cap : Int) := by omega
      have hk3 : ¬ (k : Int) = (k : Int) + 1 := by omega
      have htn : ((k : Int) + 1).toNat = k + 1 := by omega
      have hk4 : (0 : Int) ≤ (k : Int) + 1 := by omega
      have mixed : Try.prog.follows .mixedOrders = true := by kernel_rfl
      have hl1 : ((L.length - 1 : Nat) : Int) ≤ (L.length : Int) := by omega
      have hll : L.length - (L.length - 1) = 1 := by omega
      have hcl' : ¬ (cap = L.length - 1) := by omega
      clear hcl hfr hsub hd ha hab h2 hg1 hn1 hm1 hs1 ht1 hc2 hap h3
      have hNl : k < L.length := hk
      clear hlen hL hk hlt
      generalize L.length = N at *
      by_cases hck : cap = k + 1
      · rw [if_pos hck] at hsrc
        subst hck
        obtain rfl : N = k + 1 := by omega
        simp only [Nat.sub_self, Nat.add_sub_cancel] at hsrc h1 hcl1 hend
        subst hsrc
        go_enter Try.func30, Try.ntmps30
        go_wp2_with fail
        go_region_law_o (refine step_append_runT rfl _ _ 64 64 rfl _ _ (by simp [Act.eval, Act.put]) (by simp [Act.eval, Act.put]) h1 ?_)
        go_wp2_with (at_builtin; refine wpList_clear_runT _ rfl _ 64 rfl _ rfl (hcl1 _ _) ?_)
        go_ret
        exact ⟨_, rfl, hend, hTe⟩
      · rw [if_neg hck] at hsrc
        subst hsrc
        go_enter Try.func30, Try.ntmps30
        go_wp2_with fail
        go_region_law_o (refine step_append_runT rfl _ _ 64 64 rfl _ _ (by simp [Act.eval, Act.put]) (by simp [Act.eval, Act.put]) h1 ?_)
        go_wp2_with (at_builtin; refine wpList_clear_runT _ rfl _ 64 rfl _ rfl (hcl1 _ _) ?_)
        go_ret
        exact ⟨_, rfl, hend, hTe⟩

theorem regCells_set : ∀ (L : List (Nat × Int)) (t : Nat) (p : Nat × Int) (r : Int), L[t]? = some p → (regCells L).set (t * 2 + 1) (.int .i64 r) = regCells (L.set t (p.1, r))
  | [], t, p, r, h => by simp at h
  | q :: L, 0, p, r, h => by simp at h; subst h; rfl
  | q :: L, t + 1, p, r, h => by
    have e := regCells_set L t p r (by simpa using h)
    rw [show (t + 1) * 2 + 1 = t * 2 + 1 + 1 + 1 by omega]
    simp only [regCells, List.set_cons_succ, e]
section
variable {w w' : World} {T : ThB} {regs room : Int} {f : Nat → Int} {st : List Int}
theorem ThAt.below (h : ThAt w T regs room f st) (hB : Below w.heap.size w w') : ThAt w' T regs room f st := h.turn (Turn.ofBelow hB) (fun k hk e => by have := h.lt k hk; omega)
theorem ThStep.ofBelow (h : ThAt w T regs room f st) (hB : Below w.heap.size w w') : ThStep T w T w' := ⟨rfl, fun k hk => .inl hk, (Turn.ofBelow hB).mono fun k hk e => by omega⟩
/-- A thread whose registers lie elsewhere. -/
theorem ThAt.reset {f' : Nat → Int} {g n cap : Nat} {w2 : World} (h : ThAt w T regs room f st) (hR : RegRow w2 (.slice (some ⟨g, 0, none⟩) n cap) (segR f' 0 regs.toNat)) (hT : Turn (fun j => T.vs.ownBlock = some j ∨ w.heap.size ≤ j) w w2) (hg : T.vs.ownBlock = some g ∨ w.heap.size ≤ g) :
    ThAt (w2.setCell ⟨T.t, 1, none⟩ (.slice (some ⟨g, 0, none⟩) n cap)) ⟨T.t, .slice (some ⟨g, 0, none⟩) n cap, T.vk⟩ regs room f' st ∧ ThStep T w ⟨T.t, .slice (some ⟨g, 0, none⟩) n cap, T.vk⟩ (w2.setCell ⟨T.t, 1, none⟩ (.slice (some ⟨g, 0, none⟩) n cap)) := by
  have htl := h.head.lt
  have hh := h.head.turn hT (by rintro (e | e); exact h.ts e; omega)
  have hk := h.stk.turn hT (fun k e => by
    rintro (e2 | e2)
    · exact h.sk e2 e
    · have := h.lt k (.inr (.inr e)); omega)
  have hS : Turn (fun k => k = T.t) w2 (w2.setCell ⟨T.t, 1, none⟩ (.slice (some ⟨g, 0, none⟩) n cap)) := (Turn.refl _ w2).set _ _ (.inr rfl)
  have hgt : g ≠ T.t := by
    rcases hg with e | e
    · exact fun e2 => h.ts (by rw [e, e2])
    · omega
  refine ⟨⟨(hh.setAt 1 _).is (by simp), hR.turn hS (fun k e e2 => hgt ((own_slice e).trans e2)), hk.turn hS (fun k e e2 => h.tk (by rw [e, show k = T.t from e2])), h.few, h.low, h.fit⟩, rfl, ?_, ?_⟩
  · rintro k (e | e | e)
    · exact .inl (.inl e)
    · have e3 := own_slice e
      subst e3
      rcases hg with e4 | e4
      · exact .inl (.inr (.inl e4))
      · exact .inr e4
    · exact .inl (.inr (.inr e))
  · have h1 : Turn T.has w w2 := hT.mono fun k hk e => by
      rcases e with e | e
      · exact .inr (.inl e)
      · omega
    exact h1.set _ _ (.inr (.inl rfl))
theorem ThAt.setRegNo (h : ThAt w T regs room f st) (i : Int) (hi : ¬ (0 ≤ i ∧ i < regs)) (r : Int) : Calls Try.prog 14 #[.pointer (some ⟨T.t, 0, none⟩), .int .i64 i, .int .i64 r] w fun e w' =>
    e = .returned (.int .i64 4) ∧ w = w' := by
  have cK := h.knows i false (decide_eq_false hi)
  go_enter Try.func14, Try.ntmps14
  go_wp2_with fail
  refine cK.mono ?_
  rintro e w1 ⟨rfl, rfl⟩
  clear cK
  go_wp2_with fail
  go_ret
  exact ⟨rfl, rfl⟩
theorem updR_same {i : Nat} {r : Int} (h : f i = r) : updR f i r = f := by
  funext j
  unfold updR
  split
  · next e => rw [e, h]
  · rfl
set_option maxHeartbeats 4000000 in
set_option maxRecDepth 100000 in
theorem ThAt.setReg (h : ThAt w T regs room f st) (i : Nat) (hi : (i : Int) < regs) (r : Int) : Calls Try.prog 14 #[.pointer (some ⟨T.t, 0, none⟩), .int .i64 (i : Int), .int .i64 r] w fun e w' =>
    e = .returned (.int .i64 0) ∧ ∃ T', ThAt w' T' regs room (updR f i r) st ∧ ThStep T w T' w' := by
  have cK := h.knows (i : Int) true (decide_eq_true ⟨by omega, hi⟩)
  have hin : i < regs.toNat := by omega
  have htl := h.head.lt
  have hseg := h.seg
  have hcl := (segR_cut f (Nat.le_of_lt hin)).1
  by_cases h0 : f i = 0
  · have cF := h.find i (Nat.le_of_lt hin) false (by rw [decide_eq_true h0]; simp)
    by_cases hr : r = 0
    · subst hr
      have e0 : (0 : Int) ≠ 0 ↔ False := by simp
      rw [updR_same h0]
      go_enter Try.func14, Try.ntmps14
      go_wp2_with fail
      refine cK.mono ?_
      rintro e w1 ⟨rfl, rfl⟩
      clear cK
      go_wp2_with fail
      refine cF.mono ?_
      rintro e w1 ⟨rfl, hB⟩
      clear cF
      go_wp2_with fail
      go_ret
      exact ⟨rfl, T, h.below hB, ThStep.ofBelow h hB⟩
    · have hb : ((r != 0) : Bool) = true := by simpa using hr
      have hL : segR f 0 regs.toNat = segR f 0 i ++ segR f (i + 1) (regs.toNat - i - 1) := by rw [segR_split f hin]; unfold oneR; rw [if_pos h0]; rfl
      have hL2 : segR (updR f i r) 0 regs.toNat = (segR f 0 regs.toNat).take (segR f 0 i).length ++ (i, r) :: (segR f 0 regs.toNat).drop (segR f 0 i).length := by
        rw [segR_upd f hin, if_neg hr, hL]; simp
      go_enter Try.func14, Try.ntmps14
      go_wp2_with fail
      refine cK.mono ?_
      rintro e w1 ⟨rfl, rfl⟩
      clear cK
      go_wp2_with fail
      refine cF.mono ?_
      rintro e w1 ⟨rfl, hB⟩
      clear cF
      have h1 := h.below hB
      have c1 := h1.c1
      have h2 := h1.below ((Below.refl _ w1).alloc (Nat.le_refl _) (.cells #[.int .i64 (i : Int), .int .i64 r] 67))
      have hnb := Blk.new w1 #[.int .i64 (i : Int), .int .i64 r] 67
      have cI := insert_any (segR f 0 regs.toNat) T.vs _ h2.set (segR f 0 i).length hcl (by omega) (i, r) w1.heap.size hnb (fun e => by have := h1.lt _ (.inr (.inl e)); omega)
      rw [← hL2] at cI
      clear hL hL2 hseg
      go_wp2_with fail
      refine cI.mono ?_
      rintro e w2 ⟨g, n, cap, rfl, hR, hT, hg⟩
      clear cI c1
      have hh2 := h2.head.turn hT h2.ts
      have d1 := hh2.cell 1
      have z1 := hh2.free 1
      simp only [List.getElem?_toArray, List.getElem?_cons_zero, List.getElem?_cons_succ] at d1
      go_wp2_with fail
      go_ret
      have hs1 := hB.size
      have hT2 : Turn (fun j => T.vs.ownBlock = some j ∨ w.heap.size ≤ j) w w2 := (((Turn.ofBelow hB).mono fun k _ e => .inr e).alloc _).trans hT (fun k _ e => .inl e)
      have hg2 : T.vs.ownBlock = some g ∨ w.heap.size ≤ g := hg.imp (fun e => e) (fun e => by simp at e; omega)
      obtain ⟨a1, a2⟩ := h.reset hR hT2 hg2
      exact ⟨rfl, _, a1, a2⟩
  · have cF := h.find i (Nat.le_of_lt hin) true (by rw [decide_eq_false h0, decide_eq_true hin]; rfl)
    have hL : segR f 0 regs.toNat = segR f 0 i ++ ([(i, f i)] ++ segR f (i + 1) (regs.toNat - i - 1)) := by rw [segR_split f hin]; unfold oneR; rw [if_neg h0]
    have hat := (segR_at f (i := i) (n := regs.toNat) (by omega)).2 hin h0
    have hkl := (List.getElem?_eq_some_iff.1 hat).1
    rcases h.set.is with ⟨_, e⟩ | ⟨g, cap, cur, hvs, hg, hlc, hcm, hcs, hcl2⟩
    · rw [e] at hat; cases hat
    · have hgl := hg.lt
      by_cases hr : r = 0
      · subst hr
        have hL2 : segR (updR f i 0) 0 regs.toNat = (segR f 0 regs.toNat).take (segR f 0 i).length ++ (segR f 0 regs.toNat).drop ((segR f 0 i).length + 1) := by
          rw [segR_upd f hin, if_pos rfl, hL]
          simp [List.drop_append]
        have hset := h.set
        rw [hvs] at hset
        clear hcl2
        go_enter Try.func14, Try.ntmps14
        go_wp2_with fail
        refine cK.mono ?_
        rintro e w1 ⟨rfl, rfl⟩
        clear cK
        go_wp2_with fail
        refine cF.mono ?_
        rintro e w1 ⟨rfl, hB⟩
        clear cF
        have h1 := h.below hB
        have c1 := h1.c1
        have hset1 := h1.set
        rw [hvs] at c1 hset1
        have cD := delete_any (segR f 0 regs.toNat) g _ cap w1 hset1 (segR f 0 i).length hkl (by omega)
        rw [← hL2] at cD
        have hw1 : IntKind.i64.wrap (((segR f 0 i).length : Int) + 1) = ((segR f 0 i).length : Int) + 1 := IntWalk.i64_in _ (by omega)
        clear hL hL2 hat hset hset1
        generalize (segR f 0 i).length = K at *
        generalize (segR f 0 regs.toNat).length = N at *
        go_wp2_with fail
        refine cD.mono ?_
        rintro e w2 ⟨n, rfl, hR, hT⟩
        clear cD c1
        have hgt : T.t ≠ g := fun e => h.ts (by rw [hvs, e]; rfl)
        have hh2 := h1.head.turn hT hgt
        have d1 := hh2.cell 1
        have z1 := hh2.free 1
        simp only [List.getElem?_toArray, List.getElem?_cons_zero, List.getElem?_cons_succ] at d1
        rw [hvs] at d1
        go_wp2_with fail
        go_ret
        have hT2 : Turn (fun j => T.vs.ownBlock = some j ∨ w.heap.size ≤ j) w w2 := ((Turn.ofBelow hB).mono fun k _ e => .inr e).trans hT (fun k _ e => .inl (by rw [hvs, show k = g from e]; rfl))
        obtain ⟨a1, a2⟩ := h.reset hR hT2 (.inl (by rw [hvs]; rfl))
        exact ⟨rfl, _, a1, a2⟩
      · have hb : ((r == 0) : Bool) = false := by simpa using hr
        have hL2 : segR (updR f i r) 0 regs.toNat = (segR f 0 regs.toNat).set (segR f 0 i).length (i, r) := by
          rw [segR_upd f hin, if_neg hr, hL]
          rw [List.set_append_right _ _ (Nat.le_refl _), Nat.sub_self]
          rfl
        have hcell := regCells_set _ _ _ r hat
        obtain ⟨_, d2⟩ := hcl2 _ _ hat
        clear hcl2
        go_enter Try.func14, Try.ntmps14
        go_wp2_with fail
        refine cK.mono ?_
        rintro e w1 ⟨rfl, rfl⟩
        clear cK
        go_wp2_with fail
        refine cF.mono ?_
        rintro e w1 ⟨rfl, hB⟩
        clear cF
        have h1 := h.below hB
        have c1 := h1.c1
        have hset1 := h1.set
        rw [hvs] at c1 hset1
        have hg1 := hg.turn (Turn.ofBelow hB) (by omega)
        have d3 := (hB.cell (p := ⟨g, (segR f 0 i).length * 2 + 1, none⟩) hgl).trans d2
        have z3 := hg1.free ((segR f 0 i).length * 2 + 1)
        obtain ⟨a1, a2⟩ := World.ownsRow.stored hset1 ((segR f 0 i).length * 2 + 1) (.int .i64 r)
        rw [hcell] at a1
        have hrow : RegRow (w1.setCell ⟨g, (segR f 0 i).length * 2 + 1, none⟩ (.int .i64 r)) T.vs (segR (updR f i r) 0 regs.toNat) := by
          rw [hL2, hvs]
          unfold RegRow
          rw [List.length_set]
          exact a1
        have hT : Turn (fun j => j = g) w1 (w1.setCell ⟨g, (segR f 0 i).length * 2 + 1, none⟩ (.int .i64 r)) := (Turn.refl _ w1).set _ _ (.inr rfl)
        have hend : ThAt (w1.setCell ⟨g, (segR f 0 i).length * 2 + 1, none⟩ (.int .i64 r)) T regs room (updR f i r) st :=
          ⟨h1.head.turn hT (fun e => h.ts (by rw [hvs, e]; rfl)), hrow, h1.stk.turn hT (fun k e e2 => h.sk (k := g) (by rw [hvs]; rfl) (by rw [e, show k = g from e2])), h.few, h.low, h.fit⟩
        have hstep : ThStep T w T (w1.setCell ⟨g, (segR f 0 i).length * 2 + 1, none⟩ (.int .i64 r)) := ⟨rfl, fun k hk => .inl hk, (((Turn.ofBelow hB).mono fun k hk e => by omega).trans hT (fun k _ e => .inr (.inl (by rw [hvs, show k = g from e]; rfl))))⟩
        have hK0 : (0 : Int) ≤ ((segR f 0 i).length : Int) := by omega
        have hKN : ((segR f 0 i).length : Int) < ((segR f 0 regs.toNat).length : Int) := by omega
        clear hL hL2 hat hset1 hcell hrow a1 a2 hcl hseg
        generalize (segR f 0 i).length = K at *
        generalize (segR f 0 regs.toNat).length = N at *
        go_wp2_with fail
        go_ret
        exact ⟨rfl, T, hend, hstep⟩
end
end Go.Proofs.Ytoemfehlnnbjdaa
