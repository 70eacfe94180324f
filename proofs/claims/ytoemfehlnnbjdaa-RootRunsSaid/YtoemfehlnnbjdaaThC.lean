/- slices.Insert and slices.Delete at rows of registers; at this seat's numbers. -/
import Derived.Test.YtoemfehlnnbjdaaThB
import Derived.Shelf.RegionOpenPlain
import Derived.Lib.SliceRun
import Derived.Lib.AppendZerosOnto
import Derived.Lib.Overlaps
import Derived.Laws.Externs
import Derived.Laws.CopyRow
import Derived.Laws.NewBlocks
namespace Go.Proofs.Ytoemfehlnnbjdaa
open Go Go.RowKit Go.Shelf
set_option linter.unusedSimpArgs false
set_option linter.unusedVariables false
attribute [local go_sem] Oper.semAt_some

/-- copy, of elements of two cells. -/
theorem run_copy_two {P : Program} (w : World) (dT sT ty elem : TypeId) (g o dLen dCap : Nat) (a : Addr) (sLen sCap n : Nat) (cur : Array Value) (t : TypeId) (cs : List Value)
    (hu : P.underlying dT = some (.slice elem)) (hs : (P.info? elem).map (·.size) = some 2)
    (hg : w.heap[g]? = some (.cells cur t (0, 0))) (hn : Nat.min sLen dLen = n) (hcs : cs.length = n * 2)
    (hsrc : ∀ j v, cs[j]? = some v → w.cell? (a.add j) = some v) (hfit : o + cs.length ≤ cur.size) (h1 : ∀ v ∈ cs, v.oneCell' = true) :
    (Builtin.copy_ #[dT, sT] ty #[.slice (some ⟨g, o, none⟩) dLen dCap, .slice (some a) sLen sCap]).run P w =
      .ok (goInt n) (w.setRow g (cur.toList.take o ++ cs ++ cur.toList.drop (o + cs.length)).toArray) := by
  have hl := run_loadCells_list (P := P) w a cs hsrc
  have hst := run_storeCells_at P g o t cs 0 cur w hg (by simpa using hfit) h1
  rw [hcs] at hl
  cases hq : P.info? elem with
  | none => simp [hq] at hs
  | some i =>
    have hi : i.size = 2 := by simpa [hq] using hs
    simp [Builtin.copy_, run_underlying hu, Builtin.lenOf, Builtin.firstCells, sizeOf, typeInfo, hq, hi, hn, hl, hst]
theorem wp_copy_runT {P : Program} (w : World) {o : Oper} {a : Act} {K : Act → World → Prop} {Q : Exit → Act → World → Prop} (d s : Operand) (t t' : TypeId)
    (ho : o.op = .call { callee := .builtin .copy, args := #[d, s], argTypes := #[t, t'] }) (v u : Value) (hd : a.eval d = v) (hs : a.eval s = u) {v' : Value} {w' : World}
    (hr : (Builtin.copy_ #[t, t'] o.type #[v, u]).run P w = .ok v' w') (h : K (a.put o.dst v') w') : o.wp P a w K Q := by
  unfold Oper.wp execOp
  simp only [ho, resolve, invoke, builtin, Sem.run_bind, Sem.run_pure, Result.andThen_ok, List.map_toArray, List.map_cons, List.map_nil, hd, hs, hr]
  exact h
theorem wpList_copy_runT {P : Program} (w : World) {ops : Array Oper} {rest : List Oper} {o : Oper} {a : Act} {Q : Exit → Act → World → Prop} (hgd : o.guard = none) (d s : Operand) (t t' : TypeId)
    (ho : o.op = .call { callee := .builtin .copy, args := #[d, s], argTypes := #[t, t'] }) (v u : Value) (hd : a.eval d = v) (hs : a.eval s = u) {v' : Value} {w' : World}
    (hr : (Builtin.copy_ #[t, t'] o.type #[v, u]).run P w = .ok v' w') (h : wpList P ops Q rest (a.put o.dst v') w') : wpList P ops Q (o :: rest) a w :=
  wpList_plain hgd fun _ hK => wp_copy_runT w d s t t' ho v u hd hs hr (hK _ _ h)
theorem step_copy_runT {P : Program} {ops : Array Oper} {o : Oper} {a : Act} {w : World} {K : Act → World → Prop} {Q : Exit → Act → World → Prop} {E : Prop}
    (hg : o.guard = none) (d x : Operand) (dT sT : TypeId) (hop : o.op = Op.call { callee := Callee.builtin Builtin.copy, args := #[d, x], argTypes := #[dT, sT] })
    (v u : Value) (hd : a.eval d = v) (hx : a.eval x = u) {v' : Value} {w' : World} (hr : (Builtin.copy_ #[dT, sT] o.type #[v, u]).run P w = .ok v' w') (hK : K (a.put o.dst v') w') :
    if Region.wanted o (yielded ops a.tmps) = true then Oper.wp P o a w K Q else E := by
  have hw : Region.wanted o (yielded ops a.tmps) = true := by simp [Region.wanted, hg]
  rw [if_pos hw]
  unfold Oper.wp
  simp [execOp, hop, resolve, invoke, builtin, hd, hx, hr, Result.andThen]
  exact hK
theorem infoReg : (Try.prog.info? 67).map (fun i => (i.zero, i.size, i.bytes)) = some (some (.agg #[.int .i64 0, .int .i64 0]), 2, 16) := by kernel_rfl
theorem sizeReg : (Try.prog.info? 67).map (·.size) = some 2 := by kernel_rfl

/-- A hole made, and filled. -/
theorem list_insert {A a b c : List Value} {k n : Nat} (hA : A.take (n * 2) = a ++ b) (ha : a.length = k * 2) (hb : b.length = (n - k) * 2) (hc : c.length = 2) (hk : k ≤ n) (hl : (n + 1) * 2 ≤ A.length) :
    ((A.take ((k + 1) * 2) ++ b ++ A.drop ((k + 1) * 2 + b.length)).take (k * 2) ++ c ++ (A.take ((k + 1) * 2) ++ b ++ A.drop ((k + 1) * 2 + b.length)).drop (k * 2 + c.length)).take ((n + 1) * 2) = a ++ (c ++ b) ∧
    ((A.take ((k + 1) * 2) ++ b ++ A.drop ((k + 1) * 2 + b.length)).take (k * 2) ++ c ++ (A.take ((k + 1) * 2) ++ b ++ A.drop ((k + 1) * 2 + b.length)).drop (k * 2 + c.length)).length = A.length := by
  have h1 : (A.take ((k + 1) * 2)).length = (k + 1) * 2 := by rw [List.length_take]; omega
  have e1 : (A.take ((k + 1) * 2) ++ b ++ A.drop ((k + 1) * 2 + b.length)).take (k * 2) = a := by
    rw [List.append_assoc, List.take_append_of_le_length (by omega), List.take_take, Nat.min_eq_left (by omega)]
    have : A.take (k * 2) = (A.take (n * 2)).take (k * 2) := by rw [List.take_take, Nat.min_eq_left (by omega)]
    rw [this, hA, ← ha]
    exact List.take_left
  have e2 : (A.take ((k + 1) * 2) ++ b ++ A.drop ((k + 1) * 2 + b.length)).drop (k * 2 + c.length) = b ++ A.drop ((k + 1) * 2 + b.length) := by
    rw [List.append_assoc, hc, show k * 2 + 2 = (A.take ((k + 1) * 2)).length by omega]
    exact List.drop_left
  rw [e1, e2]
  refine ⟨?_, ?_⟩
  · rw [show a ++ c ++ (b ++ A.drop ((k + 1) * 2 + b.length)) = (a ++ (c ++ b)) ++ A.drop ((k + 1) * 2 + b.length) by simp]
    rw [show (n + 1) * 2 = (a ++ (c ++ b)).length by simp; omega]
    exact List.take_left
  · simp; omega
theorem list_insert2 {A a b c : List Value} {k n : Nat} (hA : A.take (k * 2) = a) (ha : a.length = k * 2) (hb : b.length = (n - k) * 2) (hc : c.length = 2) (hk : k ≤ n) (hl : (n + 1) * 2 ≤ A.length) :
    ((A.take (k * 2) ++ c ++ A.drop (k * 2 + c.length)).take ((k + 1) * 2) ++ b ++ (A.take (k * 2) ++ c ++ A.drop (k * 2 + c.length)).drop ((k + 1) * 2 + b.length)).take ((n + 1) * 2) = a ++ (c ++ b) ∧
    ((A.take (k * 2) ++ c ++ A.drop (k * 2 + c.length)).take ((k + 1) * 2) ++ b ++ (A.take (k * 2) ++ c ++ A.drop (k * 2 + c.length)).drop ((k + 1) * 2 + b.length)).length = A.length := by
  have h2 : (a ++ c).length = (k + 1) * 2 := by simp; omega
  have e1 : (A.take (k * 2) ++ c ++ A.drop (k * 2 + c.length)).take ((k + 1) * 2) = a ++ c := by
    rw [hA, ← h2]; exact List.take_left
  rw [e1]
  refine ⟨?_, ?_⟩
  · rw [show a ++ (c ++ b) = a ++ c ++ b by simp, show (n + 1) * 2 = (a ++ c ++ b).length by simp; omega]
    exact List.take_left
  · rw [hA]; simp; omega

/-- append of one register. -/
theorem wpList_pushR {ops : Array Oper} {rest : List Oper} {o : Oper} {a : Act} {Q : Exit → Act → World → Prop} {v : Value} {L : List (Nat × Int)} {w : World} (hgd : o.guard = none) (s x : Operand)
    (ho : o.op = .call { callee := .builtin .append, args := #[s, x], argTypes := #[64, 64] }) (h : RegRow w v L) (hl : L.length ≤ 100000) (vb c : Nat) (p : Nat × Int) (hvb : Blk w vb #[.int .i64 (p.1 : Int), .int .i64 p.2] 67)
    (hs : a.eval s = v) (hx : a.eval x = .slice (some ⟨vb, 0, none⟩) 1 c) (hK : ∀ g n cap w', RegRow w' (.slice (some ⟨g, 0, none⟩) n cap) (L ++ [p]) → Turn (fun k => v.ownBlock = some k) w w' → (v.ownBlock = some g ∨ w.heap.size ≤ g) → wpList Try.prog ops Q rest (a.put o.dst (.slice (some ⟨g, 0, none⟩) n cap)) w') : wpList Try.prog ops Q (o :: rest) a w := by
  obtain ⟨i0, hi, hz0, hz1, hz2⟩ := info_parts infoReg
  refine wpList_append_at w hgd s x 64 ho 67 i0 _ 2 16 Try.underlying64 hi hz0 hz1 hz2 rfl v L.length _ hs h ⟨vb, 0, none⟩ 1 c [.int .i64 (p.1 : Int), .int .i64 p.2] hx rfl (fun j u hj => by
    rw [Addr.add_lit, Nat.zero_add]
    match j, hj with
    | 0, hj => simp at hj; subst hj; exact hvb.cell 0
    | 1, hj => simp at hj; subst hj; exact hvb.cell 1) (fun u hu => by
      simp at hu
      rcases hu with rfl | rfl <;> rfl) (by decide) (by unfold maxLen; omega) (by omega) fun v' w' h2 h3 h4 => ?_
  have hR : RegRow w' v' (L ++ [p]) := by
    unfold RegRow
    rw [List.length_append, regCells_append]
    exact h2
  rcases hR.is with ⟨_, e⟩ | ⟨g, cap, cur, rfl, _⟩
  · simp at e
  · exact hK g _ cap w' hR (Turn.ofGrown h3) (h4 g rfl)
theorem turn_setRow (w : World) (g : Nat) (cs : Array Value) : Turn (fun k => k = g) w (w.setRow g cs) :=
  ⟨rfl, rfl, rfl, by simp, fun k _ hn => setRow_other w g k cs hn⟩

set_option maxHeartbeats 4000000 in
set_option maxRecDepth 100000 in
/-- What stands where a register is laid in. -/
theorem insert_any (L : List (Nat × Int)) (v : Value) (w : World) (hv : RegRow w v L) (k : Nat) (hk : k ≤ L.length) (hL : L.length ≤ 100000) (p : Nat × Int) (vb : Nat) (hvb : Blk w vb #[.int .i64 (p.1 : Int), .int .i64 p.2] 67) (hne : v.ownBlock ≠ some vb) :
    Calls Try.prog 31 #[v, .int .i64 (k : Int), .slice (some ⟨vb, 0, none⟩) 1 1] w fun e w' =>
      ∃ g n cap, e = .returned (.slice (some ⟨g, 0, none⟩) n cap) ∧ RegRow w' (.slice (some ⟨g, 0, none⟩) n cap) (L.take k ++ p :: L.drop k) ∧ Turn (fun j => v.ownBlock = some j) w w' ∧ (v.ownBlock = some g ∨ w.heap.size ≤ g) := by
  obtain ⟨i0, hi0, hz0, hzs, hzb⟩ := info_parts infoReg
  by_cases hkn : k = L.length
  · subst hkn
    have hL2 : L.take L.length ++ p :: L.drop L.length = L ++ [p] := by simp
    rw [hL2]
    rcases hv.is with ⟨rfl, rfl⟩ | ⟨g, cap, cur, rfl, hg, hlc, hcm, hcs, hcl⟩
    · go_enter Try.func31, Try.ntmps31
      go_wp2_with (at_builtin; refine wpList_pushR rfl _ _ rfl hv hL vb 1 p hvb rfl rfl ?_; intro g n cap w2 hR hT hN)
      go_ret
      exact ⟨g, n, cap, rfl, hR, hT, hN⟩
    · have hlcI : (L.length : Int) ≤ (cap : Int) := by omega
      clear hcl
      by_cases hcn : cap = L.length
      · go_enter Try.func31, Try.ntmps31
        go_wp2_with (at_builtin; refine wpList_pushR rfl _ _ rfl hv hL vb 1 p hvb rfl rfl ?_; intro g n cap w2 hR hT hN)
        go_ret
        exact ⟨g, n, cap, rfl, hR, hT, hN⟩
      · go_enter Try.func31, Try.ntmps31
        go_wp2_with (at_builtin; refine wpList_pushR rfl _ _ rfl hv hL vb 1 p hvb rfl rfl ?_; intro g n cap w2 hR hT hN)
        go_ret
        exact ⟨g, n, cap, rfl, hR, hT, hN⟩
  · rcases hv.is with ⟨rfl, rfl⟩ | ⟨g, cap, cur, rfl, hg, hlc, hcm, hcs, hcl⟩
    · exact absurd (Nat.le_zero.1 hk) hkn
    · have hkl : k < L.length := by omega
      have htk : cur.toList.take (L.length * 2) = regCells L := by
        rcases hv.2 with ⟨e, _⟩ | ⟨g2, cap2, cur2, e, _, hg2, _, _, _, ht⟩
        · cases e
        · cases e
          unfold Blk at hg
          rw [hg] at hg2
          injection hg2 with e2
          injection e2 with e3
          rw [e3]; exact ht
      have hab : regCells L = regCells (L.take k) ++ regCells (L.drop k) := by rw [← regCells_append, List.take_append_drop]
      have ha : (regCells (L.take k)).length = k * 2 := by rw [regCells_length, List.length_take]; omega
      have hb : (regCells (L.drop k)).length = (L.length - k) * 2 := by rw [regCells_length, List.length_drop]
      have hsub : ∀ (W : World), W.heap[g]? = w.heap[g]? → ∀ j u, (regCells (L.drop k))[j]? = some u → W.cell? ((⟨g, k * 2, none⟩ : Addr).add j) = some u := fun W hW j u hj => by
        rw [Addr.add_lit]
        refine (World.cell?_of_block (w := w) (a := ⟨g, k * 2 + j, none⟩) hW).trans ?_
        have hc := World.ownsRow.cells hv (g := g) rfl (k * 2 + j) u (by rw [hab, List.getElem?_append_right (by omega), ha, Nat.add_sub_cancel_left]; exact hj)
        rw [Addr.add_lit, Nat.zero_add] at hc
        exact hc
      have hsrc : ∀ W : World, (W.heap[vb]? = w.heap[vb]?) → ∀ j u, [Value.int .i64 (p.1 : Int), .int .i64 p.2][j]? = some u → W.cell? ((⟨vb, 0, none⟩ : Addr).add j) = some u := fun W hW j u hj => by
        rw [Addr.add_lit, Nat.zero_add]
        refine (World.cell?_of_block (w := w) (a := ⟨vb, j, none⟩) hW).trans ?_
        match j, hj with
        | 0, hj => simp at hj; subst hj; exact hvb.cell 0
        | 1, hj => simp at hj; subst hj; exact hvb.cell 1
      have h1v : ∀ u ∈ [Value.int .i64 (p.1 : Int), .int .i64 p.2], u.oneCell' = true := fun u hu => by
        simp at hu
        rcases hu with rfl | rfl <;> rfl
      have hgv : vb ≠ g := fun e => hne (by rw [e]; rfl)
      have hgl := hg.lt
      have hvl := hvb.lt
      have hnew : L.take k ++ p :: L.drop k = L.take k ++ [p] ++ L.drop k := by simp
      have hcells : regCells (L.take k ++ p :: L.drop k) = regCells (L.take k) ++ ([Value.int .i64 (p.1 : Int), .int .i64 p.2] ++ regCells (L.drop k)) := by rw [regCells_append]; rfl
      have hlen : (L.take k ++ p :: L.drop k).length = L.length + 1 := by simp; omega
      have hw1 : IntKind.i64.wrap ((k : Int) + 1) = (k : Int) + 1 := IntWalk.i64_in _ (by omega)
      have hkI : (k : Int) < (L.length : Int) := by omega
      have hk0 : (0 : Int) ≤ (k : Int) := by omega
      have hkne : ¬ (k : Int) = (L.length : Int) := by omega
      have htn : ((k : Int) + 1).toNat = k + 1 := by omega
      have hk1 : (0 : Int) ≤ (k : Int) + 1 := by omega
      have hk2 : (k : Int) + 1 ≤ (L.length : Int) + 1 := by omega
      have hk3 : (k : Int) + 1 ≤ (L.length : Int) := by omega
      have mixed : Try.prog.follows .mixedOrders = true := by kernel_rfl
      by_cases hroom : L.length + 1 ≤ cap
      · have hsz : (L.length + 1) * 2 ≤ cur.toList.length := by simp; omega
        have hov : ∀ lb cb, (callFunc 43 #[.slice (some ⟨vb, 0, none⟩) 1 1, .slice (some ⟨g, (k + 1) * 2, none⟩) lb cb]).run Try.prog w = .ok (.value (.bool false)) w := fun lb cb => by
          rw [run_callFunc_extern Try.func43 (by kernel_rfl) (by kernel_rfl) (by kernel_rfl) (e := Extern.SlicesOverlaps.overlaps #[64, 64] #[4]) (by kernel_rfl),
            Lib.run_overlaps_apart w 64 4 67 Try.underlying64 2 (fun W => by rfl) ⟨vb, 0, none⟩ ⟨g, (k + 1) * 2, none⟩ 1 1 lb cb hgv 67 67 2 cur.size (by unfold Blk at hvb; simp [World.shape?, hvb]) (by unfold Blk at hg; simp [World.shape?, hg]) (by omega) (hvb.free 0) (hvb.free 2)]
          rfl
        have hb2 : ¬ (cap = k + 1) := by omega
        have hb4 : ¬ (cap = k) := by omega
        have hb3 : (k : Int) ≤ (L.length : Int) + 1 := by omega
        have hcI : (L.length : Int) + 1 ≤ (cap : Int) := by omega
        have hfit1 : (k + 1) * 2 + (regCells (L.drop k)).length ≤ cur.size := by rw [hb]; omega
        have hcp1 : ∀ ty dc sc, (Builtin.copy_ #[64, 64] ty #[.slice (some ⟨g, (k + 1) * 2, none⟩) (L.length - k) dc, .slice (some ⟨g, k * 2, none⟩) (L.length + 1 - k) sc]).run Try.prog w.drew =
            .ok (goInt ((L.length - k : Nat) : Int)) (w.drew.setRow g (cur.toList.take ((k + 1) * 2) ++ regCells (L.drop k) ++ cur.toList.drop ((k + 1) * 2 + (regCells (L.drop k)).length)).toArray) := fun ty dc sc =>
          run_copy_two w.drew _ _ ty 67 g ((k + 1) * 2) (L.length - k) dc ⟨g, k * 2, none⟩ (L.length + 1 - k) sc (L.length - k) cur 67 (regCells (L.drop k)) Try.underlying64 sizeReg hg (by simp only [Nat.min_def]; split <;> omega) hb (hsub _ rfl) hfit1 (regCells_one _)
        obtain ⟨c1, hc1⟩ : ∃ c1, c1 = (cur.toList.take ((k + 1) * 2) ++ regCells (L.drop k) ++ cur.toList.drop ((k + 1) * 2 + (regCells (L.drop k)).length)).toArray := ⟨_, rfl⟩
        rw [← hc1] at hcp1
        have hg1 : Blk (w.drew.setRow g c1) g c1 67 := setRow_heap w.drew g cur c1 _ _ hg
        have hc1s : c1.size = cur.size := by rw [hc1]; simp; omega
        have hfit2 : k * 2 + 2 ≤ c1.size := by omega
        have hcp2 : ∀ ty dc, (Builtin.copy_ #[64, 64] ty #[.slice (some ⟨g, k * 2, none⟩) (L.length + 1 - k) dc, .slice (some ⟨vb, 0, none⟩) 1 1]).run Try.prog (w.drew.setRow g c1) =
            .ok (goInt 1) ((w.drew.setRow g c1).setRow g (c1.toList.take (k * 2) ++ [Value.int .i64 (p.1 : Int), .int .i64 p.2] ++ c1.toList.drop (k * 2 + [Value.int .i64 (p.1 : Int), .int .i64 p.2].length)).toArray) := fun ty dc =>
          run_copy_two _ _ _ ty 67 g (k * 2) (L.length + 1 - k) dc ⟨vb, 0, none⟩ 1 1 1 c1 67 _ Try.underlying64 sizeReg hg1 (by simp only [Nat.min_def]; split <;> omega) rfl (hsrc _ (setRow_other w.drew g vb c1 hgv)) hfit2 h1v
        obtain ⟨e1, e2⟩ := list_insert (A := cur.toList) (a := regCells (L.take k)) (b := regCells (L.drop k)) (c := [Value.int .i64 (p.1 : Int), .int .i64 p.2]) (k := k) (n := L.length) (htk.trans hab) ha hb rfl (by omega) hsz
        have hc1l : c1.toList = cur.toList.take ((k + 1) * 2) ++ regCells (L.drop k) ++ cur.toList.drop ((k + 1) * 2 + (regCells (L.drop k)).length) := by rw [hc1]
        rw [← hc1l] at e1 e2
        obtain ⟨c2, hc2⟩ : ∃ c2, c2 = (c1.toList.take (k * 2) ++ [Value.int .i64 (p.1 : Int), .int .i64 p.2] ++ c1.toList.drop (k * 2 + [Value.int .i64 (p.1 : Int), .int .i64 p.2].length)).toArray := ⟨_, rfl⟩
        rw [← hc2] at hcp2
        have hc2l : c2.toList = c1.toList.take (k * 2) ++ [Value.int .i64 (p.1 : Int), .int .i64 p.2] ++ c1.toList.drop (k * 2 + [Value.int .i64 (p.1 : Int), .int .i64 p.2].length) := by rw [hc2]
        rw [← hc2l] at e1 e2
        have hg2 : Blk ((w.drew.setRow g c1).setRow g c2) g c2 67 := setRow_heap _ g c1 c2 _ _ hg1
        have hend : RegRow ((w.drew.setRow g c1).setRow g c2) (.slice (some ⟨g, 0, none⟩) (L.length + 1) cap) (L.take k ++ p :: L.drop k) := by
          unfold RegRow
          rw [hlen, hcells]
          exact ⟨by rw [List.length_append, ha, List.length_append, hb]; simp; omega, .inr ⟨g, cap, c2, rfl, Nat.zero_le _, hg2, hroom, hcm, by rw [← Array.length_toList, e2, Array.length_toList, hcs], e1⟩⟩
        have hTe : Turn (fun k => k = g) w ((w.drew.setRow g c1).setRow g c2) := ((Turn.refl _ w).drew.trans (turn_setRow w.drew g c1) (fun _ _ h => h)).trans (turn_setRow _ g c2) (fun _ _ h => h)
        clear hcl hsrc hsub hg1 hg2 e1 e2 hc1 hc2 hc1l hc2l hfit1 hfit2 htk hab ha hb hcells hnew hsz h1v hc1s
        go_enter Try.func31, Try.ntmps31
        go_wp2_with (simp only [hov])
        go_region_law_o (refine step_copy_runT rfl _ _ 64 64 rfl _ _ (by simp [Act.eval, Act.put]) (by simp [Act.eval, Act.put]) (hcp1 _ _ _) ?_)
        go_wp2_with (at_builtin; refine wpList_copy_runT _ rfl _ _ 64 64 rfl _ _ rfl rfl (hcp2 _ _) ?_)
        go_ret
        exact ⟨g, _, cap, rfl, hend, hTe.mono (fun j _ e => by rw [show j = g from e]; rfl), .inl rfl⟩
      · obtain ⟨G, hG⟩ : ∃ G, G = grownCap w (L.length + 1) cap 67 := ⟨_, rfl⟩
        have hGn : L.length + 1 ≤ G := by rw [hG]; exact grownCap_ge w _ _ _
        have hGm : G ≤ 9223372036854775807 := by
          have := grownCap_le_maxLen w (L.length + 1) cap 67 (by unfold maxLen; omega)
          rw [← hG] at this
          unfold maxLen at this
          omega
        have hold : (Builtin.firstCells i0.size k (.slice (some ⟨g, 0, none⟩) k cap)).run Try.prog w.drew = .ok (regCells (L.take k)).toArray w.drew := by
          rw [hzs]
          exact run_firstCells_some w.drew 2 k ⟨g, 0, none⟩ k cap (regCells (L.take k)) ha (fun j u hj => by
            have hc := World.ownsRow.cells hv (g := g) rfl j u (by rw [hab, List.getElem?_append_left (List.getElem?_eq_some_iff.1 hj).1]; exact hj)
            exact hc)
        obtain ⟨R, hR⟩ : ∃ R : Array Value, R = (regCells (L.take k)).toArray ++ Builtin.zeroCells (Value.agg #[.int .i64 0, .int .i64 0]).cells (L.length + 1 - k) ++ Builtin.zeroCells (Value.agg #[.int .i64 0, .int .i64 0]).cells (G - (L.length + 1)) := ⟨_, rfl⟩
        have hrz : ∀ ty, (Builtin.append_ #[64, 3] ty #[.slice (some ⟨g, 0, none⟩) k cap, .int .i64 ((L.length : Int) + 1 - (k : Int))]).run Try.prog w = .ok (.slice (some ⟨w.heap.size, 0, none⟩) (L.length + 1) G) (w.drew.alloc (.cells R 67)) := fun ty => by
          have h := Lib.run_append_grow_zeros w 64 3 ty 67 i0 _ .i64 .i64 Try.underlying64 Try.underlying3 hi0 hz0 (some ⟨g, 0, none⟩) k cap (regCells (L.take k)).toArray.toList (by simpa using hold) (L.length + 1 - k) (by omega) (by omega) (by omega) (by omega) (by rw [hzb]; omega) (by rw [hzb, show k + (L.length + 1 - k) = L.length + 1 by omega]; exact growslice_fits (by omega) (by omega))
          rw [show k + (L.length + 1 - k) = L.length + 1 by omega, ← hG] at h
          rw [show (L.length : Int) + 1 - (k : Int) = ((L.length + 1 - k : Nat) : Int) by omega, hR]
          exact h
        have hRs : R.size = G * 2 := by
          rw [hR]
          simp only [Array.size_append, List.size_toArray, size_zeroCells, ha, Value.cells]
          simp
          omega
        have hRt : R.toList.take (k * 2) = regCells (L.take k) := by
          rw [hR]
          simp only [Array.toList_append, List.append_assoc]
          rw [← ha]
          exact List.take_left
        clear hR hold
        have hgw : Blk (w.alloc (.cells R 67)).drew w.heap.size R 67 := (Blk.new w R _).drew
        have hfit1 : k * 2 + 2 ≤ R.size := by omega
        have hvh : ∀ b, b < w.heap.size → (w.alloc (.cells R 67)).drew.heap[b]? = w.heap[b]? := fun b hb => Below.heap_alloc w _ b hb
        have hcp1 : ∀ ty dc, (Builtin.copy_ #[64, 64] ty #[.slice (some ⟨w.heap.size, k * 2, none⟩) (L.length + 1 - k) dc, .slice (some ⟨vb, 0, none⟩) 1 1]).run Try.prog (w.alloc (.cells R 67)).drew =
            .ok (goInt 1) ((w.alloc (.cells R 67)).drew.setRow w.heap.size (R.toList.take (k * 2) ++ [Value.int .i64 (p.1 : Int), .int .i64 p.2] ++ R.toList.drop (k * 2 + [Value.int .i64 (p.1 : Int), .int .i64 p.2].length)).toArray) := fun ty dc =>
          run_copy_two _ _ _ ty 67 w.heap.size (k * 2) (L.length + 1 - k) dc ⟨vb, 0, none⟩ 1 1 1 R 67 _ Try.underlying64 sizeReg hgw (by simp only [Nat.min_def]; split <;> omega) rfl (hsrc _ (hvh vb hvl)) hfit1 h1v
        obtain ⟨c1, hc1⟩ : ∃ c1, c1 = (R.toList.take (k * 2) ++ [Value.int .i64 (p.1 : Int), .int .i64 p.2] ++ R.toList.drop (k * 2 + [Value.int .i64 (p.1 : Int), .int .i64 p.2].length)).toArray := ⟨_, rfl⟩
        rw [← hc1] at hcp1
        have hc1s : c1.size = R.size := by rw [hc1]; simp; omega
        obtain ⟨W1, hW1⟩ : ∃ W1, W1 = (w.alloc (.cells R 67)).drew.setRow w.heap.size c1 := ⟨_, rfl⟩
        have hg1 : Blk W1 w.heap.size c1 67 := by rw [hW1]; exact setRow_heap _ w.heap.size R c1 _ _ hgw
        have hvh1 : ∀ b, b < w.heap.size → W1.heap[b]? = w.heap[b]? := fun b hb => by rw [hW1, setRow_other _ _ _ _ (by omega)]; exact hvh b hb
        have hs1 : W1.heap.size = w.heap.size + 1 := by rw [hW1]; simp
        have hT1 : Turn (fun _ => False) w W1 := by
          rw [hW1]
          exact (((Turn.refl (fun _ => False) w).alloc _).drew.trans ((turn_setRow _ w.heap.size c1).mono fun k _ e => e) (fun i hi e => by have e2 : i = w.heap.size := e; omega))
        have hfit2 : (k + 1) * 2 + (regCells (L.drop k)).length ≤ c1.size := by rw [hb]; omega
        have hcp2 : ∀ ty dc sc, (Builtin.copy_ #[64, 64] ty #[.slice (some ⟨w.heap.size, (k + 1) * 2, none⟩) (L.length - k) dc, .slice (some ⟨g, k * 2, none⟩) (L.length - k) sc]).run Try.prog W1.drew =
            .ok (goInt ((L.length - k : Nat) : Int)) (W1.drew.setRow w.heap.size (c1.toList.take ((k + 1) * 2) ++ regCells (L.drop k) ++ c1.toList.drop ((k + 1) * 2 + (regCells (L.drop k)).length)).toArray) := fun ty dc sc =>
          run_copy_two _ _ _ ty 67 w.heap.size ((k + 1) * 2) (L.length - k) dc ⟨g, k * 2, none⟩ (L.length - k) sc (L.length - k) c1 67 (regCells (L.drop k)) Try.underlying64 sizeReg hg1 (by simp only [Nat.min_def]; split <;> omega) hb (hsub _ (hvh1 g hgl)) hfit2 (regCells_one _)
        obtain ⟨e1, e2⟩ := list_insert2 (A := R.toList) (a := regCells (L.take k)) (b := regCells (L.drop k)) (c := [Value.int .i64 (p.1 : Int), .int .i64 p.2]) (k := k) (n := L.length) hRt ha hb rfl (by omega) (by simp; omega)
        have hc1l : c1.toList = R.toList.take (k * 2) ++ [Value.int .i64 (p.1 : Int), .int .i64 p.2] ++ R.toList.drop (k * 2 + [Value.int .i64 (p.1 : Int), .int .i64 p.2].length) := by rw [hc1]
        rw [← hc1l] at e1 e2
        obtain ⟨c2, hc2⟩ : ∃ c2, c2 = (c1.toList.take ((k + 1) * 2) ++ regCells (L.drop k) ++ c1.toList.drop ((k + 1) * 2 + (regCells (L.drop k)).length)).toArray := ⟨_, rfl⟩
        rw [← hc2] at hcp2
        have hc2l : c2.toList = c1.toList.take ((k + 1) * 2) ++ regCells (L.drop k) ++ c1.toList.drop ((k + 1) * 2 + (regCells (L.drop k)).length) := by rw [hc2]
        rw [← hc2l] at e1 e2
        have hg2 : Blk (W1.drew.setRow w.heap.size c2) w.heap.size c2 67 := setRow_heap _ w.heap.size c1 c2 _ _ hg1
        have hend : RegRow (W1.drew.setRow w.heap.size c2) (.slice (some ⟨w.heap.size, 0, none⟩) (L.length + 1) G) (L.take k ++ p :: L.drop k) := by
          unfold RegRow
          rw [hlen, hcells]
          exact ⟨by rw [List.length_append, ha, List.length_append, hb]; simp; omega, .inr ⟨w.heap.size, G, c2, rfl, Nat.zero_le _, hg2, hGn, hGm, by rw [← Array.length_toList, e2, Array.length_toList, hRs], e1⟩⟩
        have hTe : Turn (fun _ => False) w (W1.drew.setRow w.heap.size c2) := hT1.drew.trans ((turn_setRow _ w.heap.size c2).mono fun k _ e => e) (fun i hi e => by have e2 : i = w.heap.size := e; omega)
        have hGi : ¬ (G = k) := by omega
        have hGi1 : ¬ (G = k + 1) := by omega
        have hci : ¬ (cap = k) := by omega
        have hz3 : (cap : Int) < (L.length : Int) + 1 := by omega
        have hlcI : (L.length : Int) ≤ (cap : Int) := by omega
        have hkc : (k : Int) ≤ (cap : Int) := by omega
        have hkG : (k : Int) ≤ (L.length : Int) + 1 := by omega
        rw [← hW1] at hcp1
        clear hcl hsrc hsub hg1 hg2 e1 e2 hc1 hc2 hc1l hc2l hfit1 hfit2 htk hab ha hb hcells hnew h1v hc1s hvh hvh1 hT1 hgw hRt hRs hG hW1
        go_enter Try.func31, Try.ntmps31
        go_wp2_with (first
          | (at_builtin; refine Lib.wpList_append_run _ rfl _ _ _ _ rfl _ _ rfl rfl _ _ (hrz _) ?_)
          | (at_builtin; refine wpList_copy_runT _ rfl _ _ 64 64 rfl _ _ rfl rfl (hcp1 _ _) ?_))
        go_region_law_o (refine step_copy_runT rfl _ _ 64 64 rfl _ _ (by simp [Act.eval, Act.put]) (by simp [Act.eval, Act.put]) (hcp2 _ _ _) ?_)
        go_wp2_with fail
        go_ret
        exact ⟨w.heap.size, _, G, rfl, hend, hTe.mono (fun j _ e => e.elim), .inr (Nat.le_refl _)⟩
end Go.Proofs.Ytoemfehlnnbjdaa
