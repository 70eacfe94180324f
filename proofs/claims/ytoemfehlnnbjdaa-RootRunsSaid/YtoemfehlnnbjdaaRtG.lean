/- fit; at this seat's numbers. -/
import Derived.Test.YtoemfehlnnbjdaaRtF
namespace Go.Proofs.Ytoemfehlnnbjdaa
open Go Go.RowKit Go.Shelf
set_option linter.unusedSimpArgs false
set_option linter.unusedVariables false
attribute [local go_sem] Oper.semAt_some

theorem Turn.grown {M : Nat → Prop} {W V V' : World} {row : Option Nat} {m : Nat} (h : Turn M W V) (hm : W.heap.size ≤ m) (hg : V.grownBy V' row) (hr : ∀ r, row = some r → m ≤ r) : Turn M W V' :=
  ⟨hg.os.trans h.os, hg.tape.trans h.tape, hg.output.trans h.output, Nat.le_trans h.size hg.size, fun k hk hn => (hg.block k (by have := h.size; omega) (fun e => by have := hr k e.symm; omega)).trans (h.block k hk hn)⟩
def digS (n x : Int) : Int := wrap64 (wrap64 (10 * n) + x)
def dig (l : List Int) : Int := l.foldl digS 0
theorem dig_snoc (l : List Int) (x : Int) : dig (l ++ [x]) = digS (dig l) x := by unfold dig; rw [List.foldl_append]; rfl
/-- Between two roots told to a box. -/
structure BoxI (kb : Nat) (v : Value) (T : TypeId) (V7 : World) (V : World) : Prop where
  box : Blk V kb #[v] T
  turn : Turn (fun k => k = kb) V7 V
theorem BoxI.grown {kb m : Nat} {v : Value} {T : TypeId} {V7 V V' : World} {row : Option Nat} (h : BoxI kb v T V7 V) (hm : V7.heap.size ≤ m) (hg : V.grownBy V' row) (hr : ∀ r, row = some r → m ≤ r ∧ ∃ o : Obj, V.heap[r]? = some o ∧ o.isCells = false) : BoxI kb v T V7 V' :=
  ⟨h.box.keptT hg (fun r e => (hr r e).2), h.turn.grown hm hg (fun r e => (hr r e).1)⟩
theorem BoxI.is {kb : Nat} {v v' : Value} {T : TypeId} {V7 V : World} (h : BoxI kb v T V7 V) (e : v = v') : BoxI kb v' T V7 V := e ▸ h
theorem BoxI.put {kb : Nat} {v : Value} {T : TypeId} {V7 V : World} (h : BoxI kb v T V7 V) (v' : Value) : BoxI kb v' T V7 (V.setCell ⟨kb, 0, none⟩ v') :=
  ⟨(h.box.setAt 0 _).is (by simp), h.turn.set _ _ (.inr rfl)⟩
theorem BoxI.kept {kb : Nat} {v : Value} {T : TypeId} {V7 V : World} (h : BoxI kb v T V7 V) (v' : Value) {R : RtB} {th : Nat → Option TM} {Bx b0 : Nat} (hT : ∀ k, R.has th k → k < V7.heap.size ∧ k ≠ kb) (hB : Bx < V7.heap.size) (hB2 : Bx ≠ kb) (hb : kb < b0) : KpRt R th Bx b0 V (V.setCell ⟨kb, 0, none⟩ v') := by
  have hs := h.turn.size
  exact KpRt.ofTurn (M := fun k => k = kb) (fun k hk => by have := (hT k hk).1; omega) (by omega) ((Turn.refl _ V).set _ _ (.inr rfl)) (fun k hk e => (hT k hk).2 e) hB2 (fun k hk e => by have e2 : k = kb := e; omega)
theorem BoxI.owned {kb m : Nat} {v : Value} {T : TypeId} {V7 V : World} {O : Nat → Prop} (h : BoxI kb v T V7 V) (v' : Value) (hm : kb < m) : OwnedT m O O V (V.setCell ⟨kb, 0, none⟩ v') :=
  OwnedT.ofTurn (M := fun k => k = kb) ((Turn.refl _ V).set _ _ (.inr rfl)) (fun k e => (show k = kb from e) ▸ hm)
/-- A box that was laid just now is none of a table's. -/
theorem RtIn.box {B t N : Nat} {regs stk : Int} {gl : List Int} {th : Nat → Option TM} {wb wr : World} (h : RtIn B (fun _ => False) t N regs stk gl th wb wr) (o : Obj) : RtIn B (fun k => k = wr.heap.size) t N regs stk gl th wb (wr.alloc o) :=
  h.add ((Below.refl _ wr).alloc (Nat.le_refl _) o) (fun k hk => .inr ⟨Nat.le_of_eq hk.symm, by rw [hk]; simp⟩)

set_option maxRecDepth 100000 in
set_option maxHeartbeats 8000000 in
theorem rtfit_true (w : World) : Calls Try.prog 8 #[] w fun e w' => e = .returned (.bool true) ∧ Below w.heap.size w w' := by
  obtain ⟨M, hM⟩ : ∃ M : Nat, 14 ≤ M := ⟨14, Nat.le_refl _⟩
  refine calls_of_wp_marks Try.func8 rfl M ?_
  simp only [Try.ntmps8, List.size_toArray, List.length_cons, List.length_nil, Nat.reduceAdd, Nat.reduceSub, Array.replicate_succ, Array.replicate_zero, List.push_toArray, List.append_toArray, List.nil_append, List.cons_append]
  gi_wp2_with fail
  refine ⟨trivial, fun h => (by cases h), ?_⟩
  refine (callsIn_wide.2 (rtIn_new (B := w.heap.size) (F := fun _ => False) (wb := w) (wr := w) 2 1 1 0 (by decide) (by decide) (by decide) (by decide) (fun _ h => h.elim) (Below.refl _ _) (Nat.le_refl _))).mono ?_
  rintro e w1 ⟨t, rfl, h1, _⟩
  gi_wp2_with fail
  refine ⟨trivial, fun h => (by cases h), ?_⟩
  refine (callsIn_wide.2 (h1.spawn 1 (by decide) rfl 1 rfl)).mono ?_
  rintro e w2 ⟨rfl, ⟨u, h2⟩, _⟩
  clear h1
  gi_wp2_with fail
  refine ⟨trivial, fun h => (by cases h), ?_⟩
  refine (callsIn_wide.2 (h2.spawnNo 1 (.inr rfl))).mono ?_
  rintro e w3 ⟨rfl, rfl⟩
  gi_wp2_with fail
  refine ⟨trivial, fun h => (by cases h), ?_⟩
  refine (callsIn_wide.2 (h2.spawnNo 2 (.inl (by decide)))).mono ?_
  rintro e w3 ⟨rfl, rfl⟩
  have cO : Calls Try.prog 13 #[.pointer (some ⟨t, 0, none⟩), .int .i64 1] w2 fun e w' => e = .returned (.pointer (some ⟨u, 0, none⟩)) ∧ w2 = w' := h2.of 1
  gi_wp2_with fail
  refine ⟨trivial, fun h => (by cases h), ?_⟩
  refine (callsIn_wide.2 cO).mono ?_
  rintro e w3 ⟨rfl, rfl⟩
  clear cO
  gi_wp2_with fail
  refine ⟨trivial, fun h => (by cases h), ?_⟩
  refine (callsIn_wide.2 (h2.setGlobal 0 (by decide) 0 4 rfl)).mono ?_
  rintro e w3 ⟨rfl, h3, _⟩
  clear h2
  have cO : Calls Try.prog 13 #[.pointer (some ⟨t, 0, none⟩), .int .i64 1] w3 fun e w' => e = .returned (.pointer (some ⟨u, 0, none⟩)) ∧ w3 = w' := h3.of 1
  gi_wp2_with fail
  refine ⟨trivial, fun h => (by cases h), ?_⟩
  refine (callsIn_wide.2 cO).mono ?_
  rintro e w4 ⟨rfl, rfl⟩
  clear cO
  have cS := RtIn.at (Re := fun e => e = .returned (.int .i64 0)) (i := 1) (m := ⟨u, fun _ => 0, []⟩) h3 rfl (fun F' hN => hN.setReg 0 0 rfl (by decide) 5)
  gi_wp2_with fail
  refine ⟨trivial, fun h => (by cases h), ?_⟩
  refine (callsIn_wide.2 cS).mono ?_
  rintro e w4 ⟨rfl, h4, _⟩
  clear cS h3
  have h5 := h4.box (.cells #[.int .i64 0] 3)
  have hk5 := Blk.new w4 #[.int .i64 0] 3
  have hs5 : (w4.alloc (.cells #[.int .i64 0] 3)).heap.size = w4.heap.size + 1 := by simp
  have hs4 := h4.size
  clear h4
  have HK5 := Lib.hid hk5
  have HS5 := Lib.hid hs5
  clear hk5 hs5
  gi_wp2_with fail
  refine ⟨trivial, fun h => (by cases h), ?_⟩
  refine (callsIn_wide.2 (rootallfn_any t _)).mono ?_
  rintro e w' ⟨rfl, rfl⟩
  have hk6 := HK5.out.alloc (.cells #[.pointer (some ⟨t, 0, none⟩)] 27)
  have hx6 := (Blk.new (w4.alloc (.cells #[.int .i64 0] 3)) #[.pointer (some ⟨t, 0, none⟩)] 27).cell 0
  have h6 := h5.alloc (.cells #[.pointer (some ⟨t, 0, none⟩)] 27)
  have hs6 : ((w4.alloc (.cells #[.int .i64 0] 3)).alloc (.cells #[.pointer (some ⟨t, 0, none⟩)] 27)).heap.size = w4.heap.size + 1 + 1 := by simp
  rw [HS5.out] at hx6
  have HX6 := Lib.hid hx6
  have HK6 := Lib.hid hk6
  have HS6 := Lib.hid hs6
  clear h5 hx6 hk6 hs6 HK5 HS5
  gi_wp2_with fail
  have hx6 := HX6.out
  have hk6 := HK6.out
  have hs6 := HS6.out
  clear HX6 HK6 HS6
  generalize (w4.alloc (.cells #[.int .i64 0] 3)).alloc (.cells #[.pointer (some ⟨t, 0, none⟩)] 27) = V7 at *
  obtain ⟨R, rfl, hA, hF⟩ := h6.ex
  have hlt := hA.lt
  refine wpIn_rangeT rfl (by omega) (gf := 35) (lb := #[.pointer (some ⟨w4.heap.size + 1, 0, none⟩)]) rfl trivial (enters_of Try.func35 (by kernel_rfl) rfl)
    (all_seqR (M - 1) (by omega) (w4.heap.size + 1) V7 hA hx6) KpRt.trans (fun W l o o' hl ho hc => KpRt.putObj hlt (by omega) W l o o' hl ho hc) (Below.refl _ _) (fun _ => rfl)
    (fun st V => BoxI w4.heap.size (.int .i64 (dig st.1)) 3 V7 V) (fun c st V => False)
    (fun st A C row hs hg hr => hs.grown (Nat.le_refl _) hg hr) (fun c st A C row hs hg hr => hs)
    ⟨hk6, Turn.refl _ _⟩ ?a1 ?assign ?body ?done ?stop
  case assign =>
    intro l0 x W K hK
    gi_wp2
    exact hK
  case body =>
    rintro l0 pre O x V hl0 _ hO hI hlen
    have ck := hI.box.cell 0
    have zk := hI.box.free 0
    simp only [List.getElem?_toArray, List.getElem?_cons_zero] at ck
    have h8 := hI.put (.int .i64 (dig (pre ++ [x])))
    have h9 := hI.kept (R := R) (th := _) (Bx := w4.heap.size + 1) (b0 := V7.heap.size) (.int .i64 (dig (pre ++ [x]))) (fun k hk => ⟨hlt k hk, (hF k hk).2⟩) (by omega) (by omega) (by omega)
    have h10 := hI.owned (m := V7.heap.size) (O := O) (.int .i64 (dig (pre ++ [x]))) (by omega)
    have H := Lib.hid (show ∃ O', OwnedT V7.heap.size O O' V _ ∧ _ ∧ BoxI w4.heap.size (.int .i64 (dig (pre ++ [x]))) 3 V7 (V.setCell ⟨w4.heap.size, 0, none⟩ (.int .i64 (dig (pre ++ [x])))) from ⟨O, h10, h9, h8⟩)
    clear h8 h9 h10 hI
    rw [dig_snoc] at H
    have ED := Lib.hid (dig_snoc pre x)
    gi_wp2_with fail
    obtain ⟨O', a, b, c⟩ := H.out
    exact ⟨O', a, b, c.is (by rw [ED.out])⟩
  case stop =>
    rintro D c pre O V hD _ h
    exact h.elim
  case done =>
    rintro D xs O V hD hO hxs hI hK
    replace hxs : xs = allR ([0].set 0 4) (1 : Int).toNat (updT (updT (fun _ => none) 1 (some ⟨u, fun _ => 0, []⟩)) 1 (some ⟨u, updR (fun _ => 0) 0 5, []⟩)) := hxs
    have hxs2 : xs = [4, 5] := hxs.trans rfl
    subst hxs2
    have h7 := h6.turned hI.turn (fun k e => ⟨e, by have e2 : k = w4.heap.size := e; omega⟩)
    have ck := hI.box.cell 0
    simp only [List.getElem?_toArray, List.getElem?_cons_zero] at ck
    have e45 : dig [4, 5] = 45 := by first | decide | (simp [dig, digS, wrap64]; done)
    replace ck : V.cell? ⟨w4.heap.size, 0, none⟩ = some (.int .i64 45) := by rw [← e45]; exact ck
    clear e45
    have hDl : D < V.heap.size := (Array.getElem?_eq_some_iff.mp hK).1
    have hbl := h7.below
    clear hxs hI hA hF hlt hk6 hx6 h6
    gi_wp2_with fail
    refine ⟨trivial, fun h => (by cases h), ?_⟩
    refine (callsIn_wide.2 (h7.count 1 rfl)).mono ?_
    rintro e w8 ⟨rfl, hB8⟩
    have h8 := h7.ask hB8
    clear h7
    gi_wp2_with fail
    refine ⟨trivial, fun h => (by cases h), ?_⟩
    refine (callsIn_wide.2 (h8.live 1 true rfl)).mono ?_
    rintro e w9 ⟨rfl, rfl⟩
    gi_wp2_with fail
    refine ⟨trivial, fun h => (by cases h), ?_⟩
    refine (callsIn_wide.2 (h8.live 0 false rfl)).mono ?_
    rintro e w9 ⟨rfl, rfl⟩
    have hbl8 := h8.below
    have hs8 := hB8.size
    have hK8 := (hB8.block D hDl).trans hK
    clear h8
    gi_wp2_with fail
    refine leavesP_marks (B := w.heap.size) (hi := D + 1) ⟨D, rfl, by omega, by omega, hK8, trivial⟩ (by omega) fun w' hb _ _ => ?_
    exact ⟨_, by simp [results, Try.f8, go_sem], rfl, hbl8.trans hb⟩
end Go.Proofs.Ytoemfehlnnbjdaa
