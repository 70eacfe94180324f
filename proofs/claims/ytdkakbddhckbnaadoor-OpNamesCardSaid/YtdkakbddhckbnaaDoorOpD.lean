/- Regs: a row of ints that grows; at this seat's numbers. -/
import Derived.Test.YtdkakbddhckbnaaDoorOpB
import Derived.Test.YtdkakbddhckbnaaDoorApp
namespace Go.Proofs.YtdkakbddhckbnaaDoor
open Go Go.RowKit
set_option linter.unusedSimpArgs false
set_option linter.unusedVariables false
attribute [local go_sem] Oper.semAt_some

def IRow (w : World) (v : Value) (l : List Int) : Prop := w.ownsRow 0 3 1 v l.length (l.map fun r => Value.int .i64 r)
theorem IRow.is {w : World} {v : Value} {l : List Int} (h : IRow w v l) : (v = .slice none 0 0 ∧ l = []) ∨ ∃ g cap cur, v = .slice (some ⟨g, 0, none⟩) l.length cap ∧ Blk w g cur 3 ∧ l.length ≤ cap ∧ cap ≤ 9223372036854775807 ∧ cur.size = cap ∧ ∀ k (hk : k < l.length), w.cell? ⟨g, k, none⟩ = some (.int .i64 l[k]) := by
  have h0 := h
  rcases h.2 with ⟨h1, h2⟩ | ⟨g, cap, cur, rfl, _, hg, hn, hm, hs, ht⟩
  · exact .inl ⟨h1, List.length_eq_zero_iff.1 h2⟩
  · refine .inr ⟨g, cap, cur, rfl, hg, hn, hm, by simpa using hs, fun k hk => ?_⟩
    have hc := World.ownsRow.cells h0 (g := g) rfl k (.int .i64 l[k]) (by simp [hk])
    rw [Addr.add_lit, Nat.zero_add] at hc
    exact hc
theorem IRow.own {w : World} {v : Value} {l : List Int} (h : IRow w v l) {k : Nat} (hk : v.ownBlock = some k) : ∃ cur, Blk w k cur 3 := by
  rcases h.is with ⟨rfl, _⟩ | ⟨g, cap, cur, rfl, hg, _⟩
  · cases hk
  · have : g = k := by simpa [Value.ownBlock] using hk
    subst this
    exact ⟨cur, hg⟩
theorem IRow.lt {w : World} {v : Value} {l : List Int} (h : IRow w v l) {k : Nat} (hk : v.ownBlock = some k) : k < w.heap.size := by
  obtain ⟨_, hb⟩ := h.own hk
  exact hb.lt
theorem IRow.turn {M : Nat → Prop} {w w' : World} {v : Value} {l : List Int} (h : IRow w v l) (hT : Turn M w w') (hn : ∀ k, v.ownBlock = some k → ¬ M k) : IRow w' v l := by
  refine ⟨h.1, ?_⟩
  rcases h.2 with h1 | ⟨g, cap, cur, rfl, hb, hg, rest⟩
  · exact .inl h1
  · exact .inr ⟨g, cap, cur, rfl, hb, (hT.block g (Array.getElem?_eq_some_iff.1 hg).1 (hn g rfl)).trans hg, rest⟩
theorem IRow.alloc {w : World} {v : Value} {l : List Int} (h : IRow w v l) (o : Obj) : IRow (w.alloc o) v l :=
  h.turn ((Turn.refl (fun _ => False) w).alloc o) (fun _ _ h => h)
theorem IRow.on {w w' : World} {v : Value} {l : List Int} (h : IRow w v l) (hB : Below w.heap.size w w') : IRow w' v l :=
  h.turn (Turn.ofBelow hB) (fun k hk e => absurd (h.lt hk) (Nat.not_lt.2 e))
theorem IRow.nil (w : World) : IRow w (.slice none 0 0) [] := ⟨rfl, .inl ⟨rfl, rfl⟩⟩
theorem IRow.lenRun {w : World} {v : Value} {l : List Int} (h : IRow w v l) (ty : TypeId) (W : World) : (Builtin.len_ #[38] ty #[v]).run Tryd.prog W = .ok (.int .i64 (l.length : Int)) W := by
  rcases h.is with ⟨rfl, rfl⟩ | ⟨g, cap, cur, rfl, _⟩
  · kernel_rfl
  · simp [go_sem, Builtin.len_]
theorem infoInt : (Tryd.prog.info? 3).map (fun i => (i.zero, i.size, i.bytes)) = some (some (.int .i64 0), 1, 8) := by kernel_rfl
theorem wpList_pushI {ops : Array Oper} {rest : List Oper} {o : Oper} {a : Act} {Q : Exit → Act → World → Prop} {v : Value} {l : List Int} {w : World} (hgd : o.guard = none) (s x : Operand)
    (ho : o.op = .call { callee := .builtin .append, args := #[s, x], argTypes := #[38, 38] }) (h : IRow w v l) (hl : l.length ≤ 100000) (vb cp : Nat) (r : Int) (hvb : Blk w vb #[.int .i64 r] 3)
    (hs : a.eval s = v) (hx : a.eval x = .slice (some ⟨vb, 0, none⟩) 1 cp) (hK : ∀ g n cap w', IRow w' (.slice (some ⟨g, 0, none⟩) n cap) (l ++ [r]) → Turn (fun k => v.ownBlock = some k) w w' → (v.ownBlock = some g ∨ w.heap.size ≤ g) → wpList Tryd.prog ops Q rest (a.put o.dst (.slice (some ⟨g, 0, none⟩) n cap)) w') : wpList Tryd.prog ops Q (o :: rest) a w := by
  obtain ⟨i0, hi, hz0, hz1, hz2⟩ := info_parts infoInt
  refine wpList_append_atM w hgd s x 38 ho 3 i0 _ 1 8 Tryd.underlying38 hi hz0 hz1 hz2 rfl v l.length _ hs h ⟨vb, 0, none⟩ 1 cp [.int .i64 r] hx rfl (fun j u hj => by
    rw [Addr.add_lit, Nat.zero_add, hvb.cell j]
    show ([Value.int .i64 r].toArray)[j]? = some u
    rw [List.getElem?_toArray]
    exact hj) (fun u hu => by
      simp at hu
      subst hu; rfl) (by decide) (by unfold maxLen; omega) (by omega) fun v' w' h2 h3 h4 => ?_
  have hR : IRow w' v' (l ++ [r]) := by
    unfold IRow
    rw [List.length_append, List.map_append]
    exact h2
  rcases hR.is with ⟨_, e⟩ | ⟨g, cap, cur, rfl, _⟩
  · simp at e
  · exact hK g _ cap w' hR (Turn.ofGrownM h3) (h4 g rfl)

theorem own_sliceI {g n cap k : Nat} (h : (Value.slice (some ⟨g, 0, none⟩) n cap).ownBlock = some k) : g = k := by simpa [Value.ownBlock] using h
theorem own_newI {w1 : World} {o1 o2 : Obj} {g : Nat} (hN : (Value.slice none 0 0).ownBlock = some g ∨ ((w1.alloc o1).alloc o2).heap.size ≤ g) : w1.heap.size + 2 ≤ g := by
  rcases hN with h | h
  · cases h
  · simpa using h
/-- Its registers. -/
def regsOf (x : It) : List Int := (if (opOf x.o).a then [x.a] else []) ++ ((if (opOf x.o).b then [x.b] else []) ++ (if (opOf x.o).c then [x.c] else []))
theorem opN_abc : ∀ n, n < 13 → (opN n).a = true ∧ ((opN n).b = false ∧ (opN n).c = false ∨ (opN n).b = true ∧ (opN n).c = false ∨ (opN n).b = false ∧ (opN n).c = true) := by
  intro n hn
  match n, hn with
  | 0, _ | 1, _ | 2, _ | 3, _ | 4, _ | 5, _ | 6, _ | 7, _ | 8, _ | 9, _ | 10, _ | 11, _ | 12, _ => decide
theorem opOf_abc (i : Int) : ((opOf i).a = false ∧ (opOf i).b = false ∧ (opOf i).c = false) ∨ ((opOf i).a = true ∧ (opOf i).b = false ∧ (opOf i).c = false) ∨ ((opOf i).a = true ∧ (opOf i).b = true ∧ (opOf i).c = false) ∨ ((opOf i).a = true ∧ (opOf i).b = false ∧ (opOf i).c = true) := by
  cases hq : inR i 13
  · rw [opOf_no hq]; exact .inl ⟨rfl, rfl, rfl⟩
  · rw [opOf_yes hq]
    have h := opN_abc i.toNat (by have := inR_iff.1 hq; omega)
    rcases h with ⟨h1, h2 | h2 | h2⟩
    · exact .inr (.inl ⟨h1, h2⟩)
    · exact .inr (.inr (.inl ⟨h1, h2⟩))
    · exact .inr (.inr (.inr ⟨h1, h2⟩))

/-- What Regs answers. -/
def RegsOk (x : It) (w : World) (e : Ending) (w' : World) : Prop := ∃ v, e = .returned v ∧ IRow w' v (regsOf x) ∧ (∀ k, v.ownBlock = some k → w.heap.size ≤ k) ∧ Below w.heap.size w w'

set_option maxRecDepth 100000 in
set_option maxHeartbeats 4000000 in
theorem regs_any (x : It) (w : World) (hT : TabOp w) : Calls Tryd.prog 16 #[x.val] w (RegsOk x w) := by
  have hB := below_new w (.cells x.arr 24)
  have hb := Blk.new w x.arr 24
  have cO : Calls Tryd.prog 20 #[.int .i64 x.o] (w.alloc (.cells x.arr 24)) fun e w' => e = .returned (.agg #[.string (opOf x.o).nm, .bool (opOf x.o).a, .bool (opOf x.o).b, .bool (opOf x.o).c, .bool (opOf x.o).s, .bool (opOf x.o).g, .bool (opOf x.o).w, .bool (opOf x.o).t]) ∧ Below (w.alloc (.cells x.arr 24)).heap.size (w.alloc (.cells x.arr 24)) w' := of_any x.o (w.alloc (.cells x.arr 24)) (hT.below hB)
  have hS := opOf_abc x.o
  have hL : regsOf x = regsOf x := rfl
  conv at hL => rhs; unfold regsOf
  generalize opOf x.o = o at *
  obtain ⟨nm, oa, ob, oc, os, og, ow, ot⟩ := o
  have f2 := hb.cell 2
  simp only [List.getElem?_toArray, List.getElem?_cons_succ, List.getElem?_cons_zero] at f2
  have HH := Lib.hid (And.intro hB (And.intro hb (And.intro hS hL)))
  clear hB hb hT hS hL
  go_enter Tryd.func16, Tryd.ntmps16
  go_wp2_with fail
  refine cO.mono ?_
  rintro e w1 ⟨rfl, hB1⟩
  obtain ⟨hB, hb, hS, hL⟩ := HH.out
  have hB2 := Below.on hB (Nat.le_refl _) hB1
  have hb1 := hb.on hB1
  clear HH cO hB hb hB1 f2
  have f2 := hb1.cell 2
  have f3 := hb1.cell 3
  have f4 := hb1.cell 4
  have f5 := hb1.cell 5
  simp only [List.getElem?_toArray, List.getElem?_cons_succ, List.getElem?_cons_zero] at f2 f3 f4 f5
  have hsz := hB2.size
  have hlt := hb1.lt
  have hlt0 := hb1.lt
  rcases hS with ⟨rfl, rfl, rfl⟩ | ⟨rfl, rfl, rfl⟩ | ⟨rfl, rfl, rfl⟩ | ⟨rfl, rfl, rfl⟩
  · have HH := Lib.hid (And.intro hB2 hL)
    clear hB2 hL hsz hlt hlt0 hb1
    go_wp2_with fail
    go_ret
    refine ⟨_, rfl, ?_, fun k hk => (by cases hk), HH.out.1.alloc HH.out.1.size _⟩
    rw [HH.out.2]
    exact IRow.nil _
  · have hrow : IRow ((w1.alloc (.cells #[.string nm, .bool true, .bool false, .bool false, .bool os, .bool og, .bool ow, .bool ot] 47)).alloc (.cells #[.int .i64 x.a] 3)) (.slice none 0 0) [] := IRow.nil _
    have hvb : Blk ((w1.alloc (.cells #[.string nm, .bool true, .bool false, .bool false, .bool os, .bool og, .bool ow, .bool ot] 47)).alloc (.cells #[.int .i64 x.a] 3)) (w1.heap.size + 1) #[.int .i64 x.a] 3 := by
      have := Blk.new (w1.alloc (.cells #[.string nm, .bool true, .bool false, .bool false, .bool os, .bool og, .bool ow, .bool ot] 47)) #[.int .i64 x.a] 3
      simpa using this
    have hob : Blk ((w1.alloc (.cells #[.string nm, .bool true, .bool false, .bool false, .bool os, .bool og, .bool ow, .bool ot] 47)).alloc (.cells #[.int .i64 x.a] 3)) w1.heap.size #[.string nm, .bool true, .bool false, .bool false, .bool os, .bool og, .bool ow, .bool ot] 47 := (Blk.new w1 _ _).alloc _
    have hxb : Blk ((w1.alloc (.cells #[.string nm, .bool true, .bool false, .bool false, .bool os, .bool og, .bool ow, .bool ot] 47)).alloc (.cells #[.int .i64 x.a] 3)) w.heap.size x.arr 24 := (hb1.alloc _).alloc _
    have hB3 : Below w.heap.size w ((w1.alloc (.cells #[.string nm, .bool true, .bool false, .bool false, .bool os, .bool og, .bool ow, .bool ot] 47)).alloc (.cells #[.int .i64 x.a] 3)) := (hB2.alloc hsz _).alloc (by simp; omega) _
    have g3 := (hb1.alloc (.cells #[.string nm, .bool true, .bool false, .bool false, .bool os, .bool og, .bool ow, .bool ot] 47)).cell 3
    simp only [List.getElem?_toArray, List.getElem?_cons_succ, List.getElem?_cons_zero] at g3
    have HH := Lib.hid (And.intro hB3 (And.intro hL (And.intro hsz hlt)))
    clear hB2 hL hsz hlt hlt0 hb1 hB3 f2 f3 f4 f5
    go_wp2_with (at_builtin; refine wpList_pushI rfl _ _ rfl hrow (by decide) (w1.heap.size + 1) 1 x.a hvb rfl rfl ?_; intro g n cap w5 hR hT hN; have hob5 := hob.turn hT (fun h => by cases h); have hxb5 := hxb.turn hT (fun h => by cases h); have hg := Lib.hid (own_newI hN); have y2 := hob5.cell 2; have y3 := hob5.cell 3; have f4 := hxb5.cell 4; have f5 := hxb5.cell 5; simp only [List.getElem?_toArray, List.getElem?_cons_succ, List.getElem?_cons_zero] at y2 y3 f4 f5)
    obtain ⟨hB3, hL, hsz, hlt⟩ := HH.out
    have hg2 := hg.out
    have hB5 := hB3.trans (hT.below w.heap.size hB3.size (fun k hk h => by cases h))
    clear HH
    go_ret
    refine ⟨_, rfl, ?_, fun k hk => ?_, hB5⟩
    · rw [hL]
      simpa using hR
    · have : g = k := by simpa [Value.ownBlock] using hk
      omega
  · have hrow : IRow ((w1.alloc (.cells #[.string nm, .bool true, .bool true, .bool false, .bool os, .bool og, .bool ow, .bool ot] 47)).alloc (.cells #[.int .i64 x.a] 3)) (.slice none 0 0) [] := IRow.nil _
    have hvb : Blk ((w1.alloc (.cells #[.string nm, .bool true, .bool true, .bool false, .bool os, .bool og, .bool ow, .bool ot] 47)).alloc (.cells #[.int .i64 x.a] 3)) (w1.heap.size + 1) #[.int .i64 x.a] 3 := by
      have := Blk.new (w1.alloc (.cells #[.string nm, .bool true, .bool true, .bool false, .bool os, .bool og, .bool ow, .bool ot] 47)) #[.int .i64 x.a] 3
      simpa using this
    have hob : Blk ((w1.alloc (.cells #[.string nm, .bool true, .bool true, .bool false, .bool os, .bool og, .bool ow, .bool ot] 47)).alloc (.cells #[.int .i64 x.a] 3)) w1.heap.size #[.string nm, .bool true, .bool true, .bool false, .bool os, .bool og, .bool ow, .bool ot] 47 := (Blk.new w1 _ _).alloc _
    have hxb : Blk ((w1.alloc (.cells #[.string nm, .bool true, .bool true, .bool false, .bool os, .bool og, .bool ow, .bool ot] 47)).alloc (.cells #[.int .i64 x.a] 3)) w.heap.size x.arr 24 := (hb1.alloc _).alloc _
    have hB3 : Below w.heap.size w ((w1.alloc (.cells #[.string nm, .bool true, .bool true, .bool false, .bool os, .bool og, .bool ow, .bool ot] 47)).alloc (.cells #[.int .i64 x.a] 3)) := (hB2.alloc hsz _).alloc (by simp; omega) _
    have g3 := (hb1.alloc (.cells #[.string nm, .bool true, .bool true, .bool false, .bool os, .bool og, .bool ow, .bool ot] 47)).cell 3
    simp only [List.getElem?_toArray, List.getElem?_cons_succ, List.getElem?_cons_zero] at g3
    have HH := Lib.hid (And.intro hB3 (And.intro hL (And.intro hsz hlt)))
    clear hB2 hL hsz hlt hlt0 hb1 hB3 f2 f3 f4 f5
    go_wp2_with (at_builtin; first | (refine wpList_pushI rfl _ _ rfl hrow (by decide) (w1.heap.size + 1) 1 x.a hvb rfl rfl ?_; intro g n cap w5 hR hT hN; have hob5 := hob.turn hT (fun h => by cases h); have hxb5 := hxb.turn hT (fun h => by cases h); have hg := Lib.hid (own_newI hN); have y2 := hob5.cell 2; have y3 := hob5.cell 3; have f4 := hxb5.cell 4; have f5 := hxb5.cell 5; simp only [List.getElem?_toArray, List.getElem?_cons_succ, List.getElem?_cons_zero] at y2 y3 f4 f5) | (refine wpList_pushI rfl _ _ rfl (hR.alloc (.cells #[.int .i64 x.b] 3)) (by simp) w5.heap.size 1 x.b (Blk.new w5 #[.int .i64 x.b] 3) rfl rfl ?_; intro g2 n2 cap2 w6 hR2 hT2 hN2; have hob7 := (hob5.alloc (.cells #[.int .i64 x.b] 3)).turn hT2 (fun h => absurd (own_sliceI h) (Nat.ne_of_gt (Nat.lt_of_lt_of_le (Nat.lt_succ_of_lt (Nat.lt_succ_self _)) hg.out))); have z3 := hob7.cell 3; simp only [List.getElem?_toArray, List.getElem?_cons_succ, List.getElem?_cons_zero] at z3))
    obtain ⟨hB3, hL, hsz, hlt⟩ := HH.out
    have hg1 := hg.out
    have hB5 := hB3.trans (hT.below w.heap.size hB3.size (fun k hk h => by cases h))
    have hB6 := hB5.alloc hB5.size (.cells #[.int .i64 x.b] 3)
    have hs5 := hB5.size
    have hg2 : w.heap.size ≤ g2 := by
      rcases hN2 with h | h
      · have := own_sliceI h
        omega
      · simp at h; omega
    have hB7 := hB6.trans (hT2.below w.heap.size hB6.size (fun k hk h => by
      have := own_sliceI h
      omega))
    clear HH
    go_ret
    refine ⟨_, rfl, ?_, fun k hk => ?_, hB7⟩
    · rw [hL]
      simpa using hR2
    · have := own_sliceI hk
      omega
  · have hrow : IRow ((w1.alloc (.cells #[.string nm, .bool true, .bool false, .bool true, .bool os, .bool og, .bool ow, .bool ot] 47)).alloc (.cells #[.int .i64 x.a] 3)) (.slice none 0 0) [] := IRow.nil _
    have hvb : Blk ((w1.alloc (.cells #[.string nm, .bool true, .bool false, .bool true, .bool os, .bool og, .bool ow, .bool ot] 47)).alloc (.cells #[.int .i64 x.a] 3)) (w1.heap.size + 1) #[.int .i64 x.a] 3 := by
      have := Blk.new (w1.alloc (.cells #[.string nm, .bool true, .bool false, .bool true, .bool os, .bool og, .bool ow, .bool ot] 47)) #[.int .i64 x.a] 3
      simpa using this
    have hob : Blk ((w1.alloc (.cells #[.string nm, .bool true, .bool false, .bool true, .bool os, .bool og, .bool ow, .bool ot] 47)).alloc (.cells #[.int .i64 x.a] 3)) w1.heap.size #[.string nm, .bool true, .bool false, .bool true, .bool os, .bool og, .bool ow, .bool ot] 47 := (Blk.new w1 _ _).alloc _
    have hxb : Blk ((w1.alloc (.cells #[.string nm, .bool true, .bool false, .bool true, .bool os, .bool og, .bool ow, .bool ot] 47)).alloc (.cells #[.int .i64 x.a] 3)) w.heap.size x.arr 24 := (hb1.alloc _).alloc _
    have hB3 : Below w.heap.size w ((w1.alloc (.cells #[.string nm, .bool true, .bool false, .bool true, .bool os, .bool og, .bool ow, .bool ot] 47)).alloc (.cells #[.int .i64 x.a] 3)) := (hB2.alloc hsz _).alloc (by simp; omega) _
    have g3 := (hb1.alloc (.cells #[.string nm, .bool true, .bool false, .bool true, .bool os, .bool og, .bool ow, .bool ot] 47)).cell 3
    simp only [List.getElem?_toArray, List.getElem?_cons_succ, List.getElem?_cons_zero] at g3
    have HH := Lib.hid (And.intro hB3 (And.intro hL (And.intro hsz hlt)))
    clear hB2 hL hsz hlt hlt0 hb1 hB3 f2 f3 f4 f5
    go_wp2_with (at_builtin; first | (refine wpList_pushI rfl _ _ rfl hrow (by decide) (w1.heap.size + 1) 1 x.a hvb rfl rfl ?_; intro g n cap w5 hR hT hN; have hob5 := hob.turn hT (fun h => by cases h); have hxb5 := hxb.turn hT (fun h => by cases h); have hg := Lib.hid (own_newI hN); have y2 := hob5.cell 2; have y3 := hob5.cell 3; have f4 := hxb5.cell 4; have f5 := hxb5.cell 5; simp only [List.getElem?_toArray, List.getElem?_cons_succ, List.getElem?_cons_zero] at y2 y3 f4 f5) | (refine wpList_pushI rfl _ _ rfl (hR.alloc (.cells #[.int .i64 x.c] 3)) (by simp) w5.heap.size 1 x.c (Blk.new w5 #[.int .i64 x.c] 3) rfl rfl ?_; intro g2 n2 cap2 w6 hR2 hT2 hN2; have hob7 := (hob5.alloc (.cells #[.int .i64 x.c] 3)).turn hT2 (fun h => absurd (own_sliceI h) (Nat.ne_of_gt (Nat.lt_of_lt_of_le (Nat.lt_succ_of_lt (Nat.lt_succ_self _)) hg.out))); have z3 := hob7.cell 3; simp only [List.getElem?_toArray, List.getElem?_cons_succ, List.getElem?_cons_zero] at z3))
    obtain ⟨hB3, hL, hsz, hlt⟩ := HH.out
    have hg1 := hg.out
    have hB5 := hB3.trans (hT.below w.heap.size hB3.size (fun k hk h => by cases h))
    have hB6 := hB5.alloc hB5.size (.cells #[.int .i64 x.c] 3)
    have hs5 := hB5.size
    have hg2 : w.heap.size ≤ g2 := by
      rcases hN2 with h | h
      · have := own_sliceI h
        omega
      · simp at h; omega
    have hB7 := hB6.trans (hT2.below w.heap.size hB6.size (fun k hk h => by
      have := own_sliceI h
      omega))
    clear HH
    go_ret
    refine ⟨_, rfl, ?_, fun k hk => ?_, hB7⟩
    · rw [hL]
      simpa using hR2
    · have := own_sliceI hk
      omega
end Go.Proofs.YtdkakbddhckbnaaDoor
