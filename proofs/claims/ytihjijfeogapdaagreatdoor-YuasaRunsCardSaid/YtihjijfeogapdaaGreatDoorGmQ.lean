/- A marker beside its arena; refill; at this seat's numbers. -/
import Derived.Test.YtihjijfeogapdaaGreatDoorGmP
namespace Go.Proofs.YtihjijfeogapdaaGreatDoor
open Go Go.RowKit Go.Shelf Go.MuLone Go.RwLone
set_option linter.unusedSimpArgs false
set_option linter.unusedVariables false
attribute [local go_sem] Oper.semAt_some

/-- What stands beside a marker: its arena, the two tables, none of which lies in its blocks. -/
structure MkSide (w : World) (T : MkB) (X : ArB) (s : ArS) : Prop where
  ar : ArAt w X s
  P : T.n = 32 * s.P + 1
  tab : TabAt w
  tabc : TableAt w
  far : ∀ k, T.has k → ¬ X.has k
  nt : ¬ T.has 1
  nc : ¬ T.has 0
section
variable {w wr w' w1 : World} {T T' T1 : MkB} {X : ArB} {s : ArS} {S S2 : Nat → Bool} {c : Col} {room : Int} {st : List Int} {ov : Bool} {xa : Nat} {row : Option Nat}
theorem TabAt.turn {M : Nat → Prop} (h : TabAt w) (hT : Turn M w w') (hn : ¬ M 1) : TabAt w' := h.keep (hT.block _ h.lt hn)
theorem MkSide.step (h : MkSide w T X s) (hS : MkStep T w T' w') : MkSide w' T' X s := by
  refine ⟨h.ar.turn hS.turn fun k e e2 => h.far k e2 e, hS.n.trans h.P, h.tab.turn hS.turn h.nt, h.tabc.turn hS.turn h.nc, fun k e e2 => ?_, fun e => ?_, fun e => ?_⟩
  · rcases hS.new k e with e3 | e3
    · exact h.far k e3 e2
    · have := h.ar.lt k e2; omega
  · rcases hS.new _ e with e3 | e3
    · exact h.nt e3
    · have := h.tab.lt; omega
  · rcases hS.new _ e with e3 | e3
    · exact h.nc e3
    · have := h.tabc.lt; omega
theorem MkSide.below (h : MkSide w T X s) (hB : Below w.heap.size w w') : MkSide w' T X s := h.step (MkStep.ofBelow hB)
theorem MkMem.cells (h : MkMem w T xa S S2 room st ov) {k : Nat} (hk : T.has k) : ∃ o, w.heap[k]? = some o ∧ o.isCells = true := by
  have hlt := h.lt k hk
  have ho : w.heap[k]? = some w.heap[k] := Array.getElem?_eq_getElem hlt
  refine ⟨_, ho, ?_⟩
  have go : ∀ {j : Nat} {cs : Array Value} {X : TypeId}, Blk w j cs X → w.heap[j]? = some w.heap[k] → w.heap[k].isCells = true := fun hb h2 => by
    unfold Blk at hb; rw [hb] at h2; rw [← Option.some.inj h2]; rfl
  have gs : ∀ {b N : Nat} {lo : Option Nat} {S : Nat → Bool}, SetAt w b lo N S → (k = b ∨ lo = some k) → w.heap[k].isCells = true := fun hs e => by
    rcases e with e | e
    · obtain ⟨d, l, hB⟩ := hs.2.2.blk
      rw [← e] at hB; exact go hB ho
    · obtain ⟨_, _, h5⟩ := hs
      rw [e] at h5
      obtain ⟨_, _, ws, h6, _⟩ := h5
      exact go h6 ho
  rcases hk with e | e | e | e | e
  · have hb := h.head
    rw [← e] at hb; exact go hb ho
  · exact gs h.s1 e
  · exact gs h.s2 e
  · have hb := h.gr.head
    rw [← e] at hb; exact go hb ho
  · obtain ⟨_, h6⟩ := h.gr.stk.own e
    exact go h6 ho
theorem MkMem.grown (h : MkMem w T xa S S2 room st ov) (hg : w.grownBy w' row) (hr : ∀ r, row = some r → ∃ o : Obj, w.heap[r]? = some o ∧ o.isCells = false) : MkMem w' T xa S S2 room st ov :=
  h.keep fun k hk => by
    obtain ⟨o, ho, hc⟩ := h.cells hk
    exact grownBy_keeps_cells hg hr ho hc
theorem MkAt.grown (h : MkAt w T xa c) (hg : w.grownBy w' row) (hr : ∀ r, row = some r → ∃ o : Obj, w.heap[r]? = some o ∧ o.isCells = false) : MkAt w' T xa c := by
  obtain ⟨S, S2, room, st, ov, hM, hO⟩ := h.ex
  exact ⟨S, S2, room, st, ov, hM.grown hg hr, hO⟩
theorem MkStep.grown (h : MkStep T w T1 w1) (hg : w1.grownBy w' row) (hr : ∀ r, row = some r → w.heap.size ≤ r) : MkStep T w T1 w' :=
  ⟨h.m, h.n, h.new, h.turn.trans (Turn.ofGrownM hg) fun i hi e => by have := hr i e; omega⟩
theorem MkStep.thenT {M : Nat → Prop} (h : MkStep T w T1 w1) (hT : Turn M w1 w') (hM : ∀ k, M k → w.heap.size ≤ k) : MkStep T w T1 w' :=
  ⟨h.m, h.n, h.new, h.turn.trans hT fun i hi e => by have := hM i e; omega⟩
theorem MkMem.deferred {B : Nat} (h : MkMem w T xa S S2 room st ov) (hT : Turn (fun k => B ≤ k ∧ IsDef w k) w w') : MkMem w' T xa S S2 room st ov :=
  h.turn hT fun k hk e => by
    obtain ⟨o, ho, hc⟩ := h.cells hk
    obtain ⟨_, d, hd⟩ := e
    rw [hd] at ho; cases ho; cases hc
theorem MkAt.deferred {B : Nat} (h : MkAt w T xa c) (hT : Turn (fun k => B ≤ k ∧ IsDef w k) w w') : MkAt w' T xa c := by
  obtain ⟨S, S2, room, st, ov, hM, hO⟩ := h.ex
  exact ⟨S, S2, room, st, ov, hM.deferred hT, hO⟩
/-- A round's step owns what it lays. -/
theorem MkStep.owned {B : Nat} {T7 : MkB} {O : Nat → Prop} (h7 : ∀ k, T7.has k → k < B) (hO : ∀ k, T.has k → T7.has k ∨ O k) (hB : B ≤ w.heap.size) (hS : MkStep T w T' w') : ∃ O', Owned B O O' w w' ∧ (∀ k, T'.has k → T7.has k ∨ O' k) ∧ ∀ k, O' k → O k ∨ w.heap.size ≤ k := by
  refine ⟨fun k => O k ∨ (w.heap.size ≤ k ∧ T'.has k), ⟨hS.turn.size, fun k hk hkl hn => hS.turn.block k hkl fun e => ?_, fun k e => ?_⟩, fun k e => ?_, fun k e => ?_⟩
  · rcases hO k e with e2 | e2
    · have := h7 k e2; omega
    · exact hn e2
  · rcases e with e | e
    · exact .inl e
    · exact .inr e.1
  · rcases hS.new k e with e2 | e2
    · rcases hO k e2 with e3 | e3
      · exact .inl e3
      · exact .inr (.inl e3)
    · exact .inr (.inr ⟨e2, e⟩)
  · rcases e with e | e
    · exact .inl e
    · exact .inr e.1
theorem MkMem.sees (h : MkMem wr T X.a S S2 room st ov) (ma : c.ma = inS S) (sc : c.sc = inS S2) (sub : ∀ x, c.sc x = true → c.ma x = true) (hs : MkSide wr T X s) (hi : InAr s c) : MkSees wr T X s S S2 c :=
  ⟨h.head, h.s1, h.s2, hs.ar.toArMem, ma, sc, sub, hi⟩
/-- A push, exactly. -/
theorem MkMem.pushX (h : MkMem wr T xa S S2 room st ov) (hr : room ≤ 4096) (x : Int) (t : Bool) (ht : decide ((st.length : Int) < room) = t) : Calls Tryz.prog 36 #[.pointer (some ⟨T.g.s, 0, none⟩), .int .i64 x] wr fun e w' =>
    e = .returned (.bool t) ∧ ∃ G, MkMem w' { T with g := G } xa S S2 room (pushL room st x) (pushV room st ov) ∧ MkStep T wr { T with g := G } w' ∧ Turn T.g.has wr w' := by
  refine (h.gr.pushAny hr x t ht).mono ?_
  rintro e w1 ⟨rfl, G, hG, hS⟩
  have hTu := hS.turn
  have n1 := h.s1.farG h.gr
  have n2 := h.s2.farG h.gr
  have n0 := h.gr.farT h.head (by decide) (by decide)
  refine ⟨rfl, G, ⟨(h.head.turn hTu n0).is ?_, h.s1.turn hTu (fun e => n1 _ e (.inl rfl)) (fun l e e2 => n1 l e2 (.inr e)), h.s2.turn hTu (fun e => n2 _ e (.inl rfl)) (fun l e e2 => n2 l e2 (.inr e)), hG, h.sep⟩, ⟨rfl, rfl, ?_, hTu.mono fun k _ e => .inr (.inr (.inr e))⟩, hTu⟩
  · show mkArr T xa = mkArr { T with g := G } xa
    unfold mkArr
    rw [hS.s]
  · rintro k (e | e | e | e)
    · exact .inl (.inl e)
    · exact .inl (.inr (.inl e))
    · exact .inl (.inr (.inr (.inl e)))
    · rcases hS.new k e with e2 | e2
      · exact .inl (.inr (.inr (.inr e2)))
      · exact .inr e2
theorem MkMem.gfar (h : MkMem wr T xa S S2 room st ov) : ∀ k, T.sets k → ¬ T.g.has k := by
  rintro k (e | e | e) e2
  · exact h.gr.farT h.head (by decide) (by decide) (e ▸ e2)
  · exact h.s1.farG h.gr k e2 e
  · exact h.s2.farG h.gr k e2 e
end
def ints (l : List Nat) : List Int := l.map fun n : Nat => (n : Int)
/-- What holds between two pushes of refill. -/
def RefI (T7 : MkB) (V7 : World) (xa : Nat) (S S2 : Nat → Bool) (room : Int) (b : Nat) (f : Int → Bool) (st : List (InMk S f) × (Nat → Prop)) (V : World) : Prop :=
  ∃ G, MkMem V { T7 with g := G } xa S S2 room (ints (tmVals st.1)) false ∧ MkStep T7 V7 { T7 with g := G } V ∧ Blk V b #[.pointer (some ⟨T7.m, 0, none⟩)] 33 ∧ (∀ k, ({ T7 with g := G } : MkB).has k → T7.has k ∨ st.2 k) ∧ (∀ k, st.2 k → V7.heap.size ≤ k) ∧ (st.1.length : Int) ≤ room
def RefX (T7 : MkB) (V7 : World) (xa : Nat) (S S2 : Nat → Bool) (room : Int) (f : Int → Bool) (V : World) : Prop :=
  ∃ G l, MkMem V { T7 with g := G } xa S S2 room l true ∧ MkStep T7 V7 { T7 with g := G } V ∧ (∀ y ∈ l, f y = true) ∧ l ≠ [] ∧ (l.length : Int) ≤ room
theorem refI_own {T7 : MkB} {V7 : World} {xa : Nat} {S S2 : Nat → Bool} {room : Int} {b : Nat} {f : Int → Bool} : OwnFrom V7.heap.size (RefI T7 V7 xa S S2 room b f) := by
  rintro st V V' row ⟨G, hM, hS, hb, hO, hO2, hl⟩ hg hr
  exact ⟨G, hM.grown hg (fun r e => (hr r e).2), hS.grown hg (fun r e => (hr r e).1), hb.kept hg (fun r e => (hr r e).2), hO, hO2, hl⟩
theorem refX_own {T7 : MkB} {V7 : World} {xa : Nat} {S S2 : Nat → Bool} {room : Int} {f : Int → Bool} {β : Type} (q : Code → Prop) (c : Code) : OwnFrom V7.heap.size (fun (_ : β) V => q c ∧ RefX T7 V7 xa S S2 room f V) := by
  rintro st V V' row ⟨hq, G, l, hM, hS, h1, h2, h3⟩ hg hr
  exact ⟨hq, G, l, hM.grown hg (fun r e => (hr r e).2), hS.grown hg (fun r e => (hr r e).1), h1, h2, h3⟩
/-- What refill leaves of the stack. -/
structure Refilled (c : Col) (room : Int) (st : List Int) (ov : Bool) : Prop where
  is : ∀ y ∈ st, greyC c y = true
  all : ∀ y, greyC c y = true → y ∈ st ∨ ov = true
  len : (st.length : Int) ≤ room
  nil : st = [] → ov = false
def RefEnd (T : MkB) (w : World) (xa : Nat) (S S2 : Nat → Bool) (c : Col) (room : Int) (w' : World) : Prop :=
  ∃ (T' : MkB) (st' : List Int) (ov' : Bool), MkMem w' T' xa S S2 room st' ov' ∧ MkStep T w T' w' ∧ Refilled c room st' ov'
section
variable {w wr w' w1 : World} {T T' T1 : MkB} {X : ArB} {s : ArS} {S S2 : Nat → Bool} {c : Col} {room : Int} {st : List Int} {ov : Bool}
set_option maxRecDepth 100000 in
set_option maxHeartbeats 4000000 in
theorem mkRefill (hM : MkMem wr T X.a S S2 room [] ov) (ma : c.ma = inS S) (sc : c.sc = inS S2) (sub : ∀ x, c.sc x = true → c.ma x = true) (r1 : 1 ≤ room) (r2 : room ≤ 4096) (hs : MkSide wr T X s) (hi : InAr s c) :
    Calls Tryz.prog 42 #[.pointer (some ⟨T.m, 0, none⟩)] wr fun e w' =>
    e = .returned (.tuple #[]) ∧ RefEnd T wr X.a S S2 c room w' := by
  obtain ⟨M, hMM⟩ : ∃ M : Nat, 10 ≤ M := ⟨10, Nat.le_refl _⟩
  have hB1 := (Below.refl wr.heap.size wr).alloc (Nat.le_refl _) (.cells #[.pointer (some ⟨T.m, 0, none⟩)] 33)
  have hM1 := hM.below hB1
  have hs1 := hs.below hB1
  have hb1 := Blk.new wr #[.pointer (some ⟨T.m, 0, none⟩)] 33
  have hz1 : (wr.alloc (.cells #[.pointer (some ⟨T.m, 0, none⟩)] 33)).heap.size = wr.heap.size + 1 := by simp
  have hlt := hM.lt
  have c3 := hM1.c3
  have cb := hb1.cell 0
  simp only [List.getElem?_toArray, List.getElem?_cons_zero] at cb
  have cS := hM1.gr.settle
  have HZ1 := Lib.hid hz1
  have HC := Lib.hid (And.intro ma (And.intro sc (And.intro sub hi)))
  refine calls_of_wp_marks Tryz.func42 rfl M ?_
  simp only [Tryz.ntmps42, List.size_toArray, List.length_cons, List.length_nil, Nat.reduceAdd, Nat.reduceSub, Array.replicate_succ, Array.replicate_zero, List.push_toArray, List.append_toArray, List.nil_append, List.cons_append]
  clear hz1 ma sc sub hi
  gi_wp2_with fail
  refine ⟨trivial, fun h => (by cases h), ?_⟩
  generalize wr.alloc (.cells #[.pointer (some ⟨T.m, 0, none⟩)] 33) = W1 at *
  refine (callsIn_wide.2 cS).mono ?_
  rintro e w2 ⟨rfl, G, hG, hSG⟩
  obtain ⟨T1, _, hM2, hS2⟩ := hM1.turn3 hG hSG
  have hz1 := HZ1.out
  have hs2 := hs1.step hS2
  have hm : T1.m = T.m := hS2.m
  have hnb : ¬ T.has wr.heap.size := fun e => by have := hlt _ e; omega
  have hb2 := hb1.turn hS2.turn hnb
  have cb2 := hb2.cell 0
  simp only [List.getElem?_toArray, List.getElem?_cons_zero] at cb2
  have hz2 : wr.heap.size + 1 ≤ w2.heap.size := by have := hS2.turn.size; omega
  have HM := Lib.hid hm
  clear cS c3 cb hz1 hm hG hSG
  gi_wp2_with fail
  refine ⟨trivial, fun h => (by cases h), ?_⟩
  refine (callsIn_wide.2 (greys_any T.m w2)).mono ?_
  rintro e w' ⟨rfl, rfl⟩
  obtain ⟨e0, e1, hB2, hsz2⟩ := toldW_facts T.m 39 w2
  have hM7 := hM2.below hB2
  have hs7 := hs2.below hB2
  have hb7 := hb2.turn (Turn.ofBelow hB2) (fun e => by omega)
  have h7 : MkSees _ T1 X s S S2 c := hM7.sees HC.out.1 HC.out.2.1 HC.out.2.2.1 hs7 HC.out.2.2.2
  have hS7 := hS2.then_ hB2
  have hT2lt := hM2.lt
  have hX2lt := hs2.ar.lt
  rw [← HM.out] at e0
  have hX := Lib.hid (And.intro e0 (And.intro e1 hsz2))
  clear e0 e1 hB2 hsz2 cb2
  gi_wp2_with fail
  obtain ⟨e0, e1, hsz2⟩ := hX.out
  rw [HM.out] at e0
  generalize toldWorld T.m 39 w2 = V7 at *
  have hlt7 := h7.lt
  have hXlt7 := h7.ar.lt
  have hTlt7 := hs7.tab.lt
  have e0' : V7.cell? ⟨w2.heap.size, 0, none⟩ = some (.pointer (some ⟨T1.m, 0, none⟩)) := by rw [HM.out]; exact e0
  have h0 : RefI T1 V7 X.a S S2 room wr.heap.size (greyC c) ([], fun _ => False) V7 :=
    ⟨T1.g, (hM7 : MkMem V7 T1 X.a S S2 room [] false), MkStep.refl _ _, by rw [HM.out]; exact hb7, fun k e => .inl e, fun _ h => h.elim, by simp; omega⟩
  have HSZ := Lib.hid hsz2
  have HE := Lib.hid e0'
  clear e0 hsz2 e0'
  refine wpIn_rangeO rfl (by omega) (gf := 79) (lb := #[.pointer (some ⟨w2.heap.size, 0, none⟩), .pointer (some ⟨w2.heap.size + 1, 0, none⟩)]) rfl trivial (enters_of Tryz.func79 (by kernel_rfl) rfl)
    (told_seq (M - 1) (by omega) 39 (greyC c) asks_grey (enters_of Tryz.func39 (by kernel_rfl) rfl) h7.greyS w2.heap.size V7 h7 hs7.tab HE.out e1) KpMk.trans
    (fun V l o hl => KpMk.putObj (n0 := V7.heap.size) hlt7 hXlt7 (by have := HSZ.out; omega) (by omega) V l o hl) (Below.refl _ _) (fun _ => rfl)
    (RefI T1 V7 X.a S S2 room wr.heap.size (greyC c))
    (fun c' st V => c' = .ret ∧ RefX T1 V7 X.a S S2 room (greyC c) V)
    refI_own (refX_own (fun c' => c' = .ret)) h0 ?a1 ?assign ?body ?done ?stop
  case assign =>
    intro l0 x W K hK
    unfold tmArgs
    gi_wp2
    exact hK
  case body =>
    rintro l0 pre O x V ⟨G, hMV, hSV, hbV, hOV, hO2, hlV⟩ hpl
    have hVs := hSV.turn.size
    have ck := hbV.cell 0
    simp only [List.getElem?_toArray, List.getElem?_cons_zero] at ck
    have c3 : V.cell? ⟨T1.m, 3, none⟩ = some (.pointer (some ⟨G.s, 0, none⟩)) := hMV.c3
    have hsV := hs7.step hSV
    obtain ⟨t, ht⟩ : ∃ t, decide (((ints (tmVals pre)).length : Int) < room) = t := ⟨_, rfl⟩
    have cP := hMV.pushX r2 ((x.1.val : Nat) : Int) t ht
    have hlen : (ints (tmVals pre)).length = pre.length := by unfold ints; rw [List.length_map, tmVals_length]
    have HT := Lib.hid (And.intro ht hlen)
    have hg7 := hMV.gfar
    clear ht hlen
    rw [HM.out] at ck c3
    gi_wp2_with fail
    refine ⟨trivial, fun h => (by cases h), ?_⟩
    refine ((callsIn_wide.2 cP).inRound l0).mono ?_
    rintro e V1 ⟨rfl, G1, hM1, hS1, hTu⟩
    obtain ⟨O', hOw, hO', hOn⟩ := hS1.owned (B := V7.heap.size) (T7 := T1) hM7.lt hOV hVs
    have hz := HSZ.out
    have hnG : ∀ k, w2.heap.size ≤ k → k < V7.heap.size → ¬ G.has k := fun k h1 h2 e => by
      rcases hOV k (.inr (.inr (.inr e))) with e2 | e2
      · have := hT2lt k e2; omega
      · have := hO2 k e2; omega
    have hKp : KpMk T1 X w2.heap.size V V1 := KpMk.ofTurn hTu (fun k hk => ⟨by have := hlt7 k hk; omega, hg7 k hk⟩) (fun k hk => ⟨by have := hXlt7 k hk; omega, fun e => hsV.far k (.inr (.inr (.inr e))) hk⟩) (by omega) (hnG _ (by omega) (by omega)) (hnG _ (by omega) (by omega)) (by omega) (fun e => hsV.nt (.inr (.inr (.inr e))))
    have hO3 : ∀ k, O' k → V7.heap.size ≤ k := fun k e => by
      rcases hOn k e with e2 | e2
      · exact hO2 k e2
      · omega
    have HK := Lib.hid (And.intro hOw hKp)
    cases t with
    | true =>
      have hlt2 : (pre.length : Int) < room := by have := of_decide_eq_true HT.out.1; rw [HT.out.2] at this; exact this
      have e1 : pushL room (ints (tmVals pre)) ((x.1.val : Nat) : Int) = ints (tmVals (pre ++ [x])) := by
        unfold pushL
        rw [if_pos (by rw [HT.out.2]; exact hlt2), tmVals_append]
        unfold ints; rw [List.map_append]; rfl
      have e2 : pushV room (ints (tmVals pre)) false = false := by unfold pushV; rw [if_pos (by rw [HT.out.2]; exact hlt2)]
      rw [e1, e2] at hM1
      have hI : RefI T1 V7 X.a S S2 room wr.heap.size (greyC c) (pre ++ [x], O') V1 :=
        ⟨G1, hM1, hSV.trans hS1, hbV.turn hTu (fun e => by
          rcases hOV _ (.inr (.inr (.inr e))) with e2 | e2
          · rcases hS2.new _ e2 with e3 | e3
            · exact hnb e3
            · have := HZ1.out; omega
          · have := hO2 _ e2; omega), hO', hO3, by simp; omega⟩
      have HI := Lib.hid hI
      clear hI e1 e2 hlt2 hM1 hS1 hTu hKp hOw hz cP hOV
      gi_wp2_with fail
      exact ⟨O', HK.out.1, HK.out.2, HI.out⟩
    | false =>
      have hge : ¬ ((ints (tmVals pre)).length : Int) < room := of_decide_eq_false HT.out.1
      have e1 : pushL room (ints (tmVals pre)) ((x.1.val : Nat) : Int) = ints (tmVals pre) := by unfold pushL; rw [if_neg hge]
      have e2 : pushV room (ints (tmVals pre)) false = true := by unfold pushV; rw [if_neg hge]
      rw [e1, e2] at hM1
      have hI : RefX T1 V7 X.a S S2 room (greyC c) V1 :=
        ⟨G1, _, hM1, hSV.trans hS1, fun y hy => by
          unfold ints at hy
          obtain ⟨k, hk, rfl⟩ := List.mem_map.1 hy
          unfold tmVals at hk
          obtain ⟨z, _, rfl⟩ := List.mem_map.1 hk
          exact z.2.2, fun e => by rw [e] at hge; simp at hge; omega, by rw [HT.out.2]; exact hlV⟩
      have HI := Lib.hid hI
      clear hI e1 e2 hge hM1 hS1 hTu hKp hOw hz cP hOV
      gi_wp2_with fail
      exact ⟨O', HK.out.1, rfl, HI.out⟩
  case done =>
    rintro D xs O V hD hxs ⟨G, hMV, hSV, hbV, hOV, hO2, hlV⟩ hK
    have hDl : D < V.heap.size := (Array.getElem?_eq_some_iff.mp hK).1
    have HXS := Lib.hid hxs
    clear hxs
    gi_wp2_with fail
    refine leavesP_marksG (B := V7.heap.size) (hi := D + 1) ⟨D, rfl, by omega, by omega, hK, trivial⟩ fun w' hT => ?_
    have hz := HSZ.out
    refine ⟨_, results_none rfl _ _ _, rfl, _, ints (tmVals xs), false, hMV.deferred hT, ((MkStep.below hB1 hS7).trans hSV).thenT hT (fun k e => by omega), fun y hy => ?_, fun y hy => .inl ?_, by unfold ints; rw [List.length_map, tmVals_length]; exact hlV, fun _ => rfl⟩
    · unfold ints at hy
      obtain ⟨k, hk, rfl⟩ := List.mem_map.1 hy
      have e : tmVals xs = soL (greyC c) (elems S T1.n) := HXS.out
      rw [e] at hk
      exact (soL_mem h7.greyS h7.s1.2.1 k).1 hk
    · have hma : c.ma y = true := by unfold greyC at hy; cases hm : c.ma y with | true => rfl | false => rw [hm] at hy; cases hy
      obtain ⟨k, rfl⟩ := h7.nonneg hma
      have e : tmVals xs = soL (greyC c) (elems S T1.n) := HXS.out
      rw [e]
      exact List.mem_map.2 ⟨k, (soL_mem h7.greyS h7.s1.2.1 k).2 hy, rfl⟩
  case stop =>
    rintro D c' pre O V hD _ ⟨rfl, G, l, hMV, hSV, h1, h2, h3⟩ hK
    have hDl : D < V.heap.size := (Array.getElem?_eq_some_iff.mp hK).1
    gi_wp2_with fail
    refine leavesP_marksG (B := V7.heap.size) (hi := D + 1) ⟨D, rfl, by omega, by omega, hK, trivial⟩ fun w' hT => ?_
    have hz := HSZ.out
    exact ⟨_, results_none rfl _ _ _, rfl, _, l, true, hMV.deferred hT, ((MkStep.below hB1 hS7).trans hSV).thenT hT (fun k e => by omega), h1, fun y hy => .inr rfl, h3, fun e => absurd e h2⟩
end
end Go.Proofs.YtihjijfeogapdaaGreatDoor
