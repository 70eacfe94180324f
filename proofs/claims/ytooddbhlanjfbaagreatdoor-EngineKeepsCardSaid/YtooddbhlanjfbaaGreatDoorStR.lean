/- Steele's Remark: a range over dirty pages, and within each round one over the page's cells; at this seat's numbers. -/
import Derived.Test.YtooddbhlanjfbaaGreatDoorUd
import Derived.Test.YtooddbhlanjfbaaGreatDoorUe
import Derived.Test.YtooddbhlanjfbaaGreatDoorUk
namespace Go.Proofs.YtooddbhlanjfbaaGreatDoor
open Go Go.RowKit Go.Shelf Go.MuLone Go.RwLone
set_option linter.unusedSimpArgs false
set_option linter.unusedVariables false
attribute [local go_sem] Oper.semAt_some

/-- The cells that were told, as references. -/
def pgRefs {S : Nat → Bool} {p : Nat} (q : List (InPg S p)) : List Int := (pgVals q).map fun j => ((32 * p + j + 1 : Nat) : Int)
theorem pgRefs_snoc {S : Nat → Bool} {p : Nat} (q : List (InPg S p)) (y : InPg S p) : pgRefs (q ++ [y]) = pgRefs q ++ [((32 * p + y.1.val + 1 : Nat) : Int)] := by
  unfold pgRefs pgVals; simp
theorem pgRefs_all {S : Nat → Bool} {p : Nat} {q : List (InPg S p)} (h : pgVals q = elems (inPage S p) 32) : pgRefs q = cellsOf S p := by
  unfold pgRefs cellsOf; rw [h]
theorem SetAt.isCells {w : World} {b : Nat} {lo : Option Nat} {n : Nat} {S : Nat → Bool} (h : SetAt w b lo n S) {k : Nat} (hk : k = b ∨ lo = some k) : ∃ o, w.heap[k]? = some o ∧ o.isCells = true := by
  rcases hk with e | e
  · obtain ⟨d, l, hB⟩ := h.2.2.blk
    unfold Blk at hB
    exact ⟨_, by rw [e]; exact hB, rfl⟩
  · obtain ⟨_, _, h5⟩ := h
    rw [e] at h5
    obtain ⟨_, _, ws, h6, _⟩ := h5
    unfold Blk at h6
    exact ⟨_, h6, rfl⟩
theorem SetAt.deferred {w w' : World} {b : Nat} {lo : Option Nat} {n B : Nat} {S : Nat → Bool} (h : SetAt w b lo n S) (hT : Turn (fun k => B ≤ k ∧ IsDef w k) w w') : SetAt w' b lo n S := by
  have no : ∀ k, (k = b ∨ lo = some k) → ¬ (B ≤ k ∧ IsDef w k) := fun k hk ⟨_, d, hd⟩ => by
    obtain ⟨o, ho, hc⟩ := h.isCells hk
    rw [hd] at ho; cases ho; cases hc
  exact h.turn hT (no b (.inl rfl)) (fun l e => no l (.inr e))
/-- What is at hand between two pages: the colours without what pages of l held, the set without those of l2. -/
structure RemG (T : MkB) (C : CdB) (V7 : World) (xa P : Nat) (c : Col) (D : Nat → Bool) (l l2 : List Nat) (O : Nat → Prop) (V : World) : Prop where
  ex : ∃ T1, MkAt V T1 xa (c.rem fun q => decide (q ∈ l)) ∧ T1.m = T.m ∧ T1.n = T.n ∧ ∀ k, T1.has k → T.has k ∨ O k
  set : SetAt V C.b C.lo P (fun q => D q && !decide (q ∈ l2))
  own : ∀ k, O k → V7.heap.size ≤ k
  turn : Turn (fun k => T.has k ∨ k = C.b ∨ C.lo = some k) V7 V
section
variable {T : MkB} {C : CdB} {V7 V V' : World} {xa P : Nat} {c : Col} {D : Nat → Bool} {l l2 : List Nat} {O : Nat → Prop} {row : Option Nat}
theorem RemG.grown (h : RemG T C V7 xa P c D l l2 O V) (hg : V.grownBy V' row) (hr : ∀ r, row = some r → V7.heap.size ≤ r ∧ ∃ o : Obj, V.heap[r]? = some o ∧ o.isCells = false) : RemG T C V7 xa P c D l l2 O V' := by
  obtain ⟨T1, h1, h2⟩ := h.ex
  exact ⟨⟨T1, h1.grown hg (fun r e => (hr r e).2), h2⟩, h.set.kept hg (fun r e => (hr r e).2), h.own, h.turn.trans (Turn.ofGrownM hg) fun i hi e => by have := (hr i e).1; omega⟩
/-- A page is told: it is clean. -/
theorem RemG.tell (h : RemG T C V7 xa P c D l l O V) {x : Nat} (hA : ArrTk C P x V V') (hTl : ∀ k, T.has k → ¬ (k = C.b ∨ C.lo = some k)) (hCl : ∀ k, (k = C.b ∨ C.lo = some k) → k < V7.heap.size) :
    x < P ∧ D x = true ∧ RemG T C V7 xa P c D l (l ++ [x]) O V' := by
  obtain ⟨S1, h1, h2, h3, h4, h5⟩ := hA
  have e := h.set.uniq h1
  subst e
  obtain ⟨T1, g1, g2, g3, g4⟩ := h.ex
  have hd : D x = true := by
    cases e : D x with
    | true => rfl
    | false =>
      have h6 : (D x && !decide (x ∈ l)) = true := h2
      rw [e] at h6; cases h6
  refine ⟨h3, hd, ⟨⟨T1, g1.turn h5 (fun k hk e => ?_), g2, g3, g4⟩, ?_, h.own, h.turn.trans h5 fun i _ e => .inr e⟩⟩
  · rcases g4 k hk with e2 | e2
    · exact hTl k e2 e
    · have := h.own k e2; have := hCl k e; omega
  · have e : dropN1 (fun q => D q && !decide (q ∈ l)) x = fun q => D q && !decide (q ∈ l ++ [x]) := by
      funext q; unfold dropN1; simp [Bool.and_assoc]
    rw [← e]; exact h4
end
/-- What is at hand between two cells of a page. -/
def InnG (T1 : MkB) (V9 : World) (xa : Nat) (c1 : Col) (l : List Int) (O : Nat → Prop) (V : World) : Prop :=
  ∃ T2, MkAt V T2 xa (c1.dim l) ∧ MkStep T1 V9 T2 V ∧ (∀ k, T2.has k → T1.has k ∨ O k) ∧ ∀ k, O k → V9.heap.size ≤ k
theorem InnG.grown {T1 : MkB} {V9 V V' : World} {xa : Nat} {c1 : Col} {l : List Int} {O : Nat → Prop} {row : Option Nat} (h : InnG T1 V9 xa c1 l O V) (hg : V.grownBy V' row) (hr : ∀ r, row = some r → V9.heap.size ≤ r ∧ ∃ o : Obj, V.heap[r]? = some o ∧ o.isCells = false) : InnG T1 V9 xa c1 l O V' := by
  obtain ⟨T2, h1, h2, h3⟩ := h
  exact ⟨T2, h1.grown hg (fun r e => (hr r e).2), h2.grown hg (fun r e => (hr r e).1), h3⟩
/-- A round's step owns what it lays (and no more). -/
theorem MkStep.ownedT {w w' : World} {T T' T7 : MkB} {B : Nat} {O : Nat → Prop} (h7 : ∀ k, T7.has k → k < B) (hO : ∀ k, T.has k → T7.has k ∨ O k) (hl : ∀ k, T'.has k → k < w'.heap.size) (hS : MkStep T w T' w') : ∃ O', OwnedT B O O' w w' ∧ (∀ k, T'.has k → T7.has k ∨ O' k) ∧ ∀ k, O' k → O k ∨ w.heap.size ≤ k := by
  refine ⟨fun k => O k ∨ (w.heap.size ≤ k ∧ T'.has k), ⟨hS.turn.size, fun k hk hkl hn => hS.turn.block k hkl fun e => ?_, fun k e => ?_⟩, fun k e => ?_, fun k e => ?_⟩
  · rcases hO k e with e2 | e2
    · have := h7 k e2; omega
    · exact hn e2
  · rcases e with e | e
    · exact .inl e
    · exact .inr ⟨e.1, hl k e.2⟩
  · rcases hS.new k e with e2 | e2
    · rcases hO k e2 with e3 | e3
      · exact .inl e3
      · exact .inr (.inl e3)
    · exact .inr (.inr ⟨e2, e⟩)
  · rcases e with e | e
    · exact .inl e
    · exact .inr e.1
section
variable {B mb n : Nat} {X : ArB} {s : ArS} {obs : List Ob} {vl : Value} {f : Int → Value} {adj : Int → List Int} {E E' : Nat → Prop} {T T' : MkB} {c c' : Col} {Z Z' : StB} {D D' : Nat → Bool} {wb wr w' : World}
/-- What Remark has turned: the marker's blocks, the table's set. -/
theorem StIn.fin (h : StIn B mb n X s obs vl f adj E T c Z D wb wr) (hT : Turn (fun k => T.has k ∨ k = Z.C.b ∨ Z.C.lo = some k) wr w') (hA : MkAt w' T' X.a c') (hm : T'.m = T.m) (hn : T'.n = T.n) (hnew : ∀ k, T'.has k → T.has k ∨ wr.heap.size ≤ k) (hma : c'.ma = c.ma) (hS : SetAt w' Z.C.b Z.C.lo s.P D') :
    StIn B mb n X s obs vl f adj E T' c' Z D' wb w' ∧ ∀ k, E k → w'.heap[k]? = wr.heap[k]? := by
  have hs := h.gm.size
  have hC : ∀ k, (k = Z.C.b ∨ Z.C.lo = some k) → Z.has k := fun k e => by
    rcases e with e | e
    · exact .inr (.inr (.inl e))
    · exact .inr (.inr (.inr e))
  have hnZ : ∀ k, Z.has k → ¬ T.has k := fun k e e2 => (h.gm.own k e2).2.2 (.inr e)
  have ht : ¬ (T.has Z.t ∨ Z.t = Z.C.b ∨ Z.C.lo = some Z.t) := fun e => by
    rcases e with e | e
    · exact hnZ _ (.inl rfl) e
    · exact h.st.far (.inr e)
  have hct : ¬ (T.has Z.C.t ∨ Z.C.t = Z.C.b ∨ Z.C.lo = some Z.C.t) := fun e => by
    rcases e with e | e | e
    · exact hnZ _ (.inr (.inl rfl)) e
    · exact h.st.cd.tb e
    · exact h.st.cd.tl e
  have hst : StAt w' Z X.a T'.m s.P D' := ⟨by rw [hm]; exact h.st.head.turn hT ht, ⟨h.st.cd.head.turn hT hct, hS⟩, h.st.far⟩
  refine ⟨⟨⟨h.gm.go.turned hT (fun k e e2 => ?_) (fun k hk e => ?_), hA, fun k e => ?_, fun k e => ?_, fun x hx => h.gm.inn x (by rw [← hma]; exact hx), ⟨h.gm.ex.tab, h.gm.ex.tabB, hn.trans h.gm.ex.n⟩⟩, hst, h.own⟩, fun k e => hT.block k (h.gm.ext k (.inl e)) (fun e2 => ?_)⟩
  · rcases e2 with e2 | e2
    · exact (h.gm.own k e2).2.1 e
    · exact (h.own k (hC k e2)).2.1 e
  · rcases e with e | e
    · have := (h.gm.own k e).1; omega
    · have := (h.own k (hC k e)).1; omega
  · rcases hnew k e with e2 | e2
    · exact h.gm.own k e2
    · exact ⟨by omega, fun e3 => by have := h.gm.go.lt k e3; omega, fun e3 => by have := h.gm.ext k e3; omega⟩
  · exact Nat.lt_of_lt_of_le (h.gm.ext k e) hT.size
  · rcases e2 with e2 | e2
    · exact (h.gm.own k e2).2.2 (.inl e)
    · exact (h.own k (hC k e2)).2.2 e
set_option maxRecDepth 100000 in
set_option maxHeartbeats 4000000 in
theorem StIn.remark (h : StIn B mb n X s obs vl f adj E T c Z D wb wr) : Calls Tryz.prog 167 #[.pointer (some ⟨Z.t, 0, none⟩)] wr fun e w' =>
    e = .returned (.tuple #[]) ∧ ∃ T' Z', T'.m = T.m ∧ Z'.t = Z.t ∧ StIn B mb n X s obs vl f adj E T' (c.rem D) Z' (fun _ => false) wb w' ∧ ∀ k, E k → w'.heap[k]? = wr.heap[k]? := by
  obtain ⟨M, hMM⟩ : ∃ M : Nat, 20 ≤ M := ⟨20, Nat.le_refl _⟩
  have hB1 := (Below.refl wr.heap.size wr).alloc (Nat.le_refl _) (.cells #[.pointer (some ⟨Z.t, 0, none⟩)] 56)
  have h1 := h.ask hB1
  have hb1 := Blk.new wr #[.pointer (some ⟨Z.t, 0, none⟩)] 56
  have hz1 : (wr.alloc (.cells #[.pointer (some ⟨Z.t, 0, none⟩)] 56)).heap.size = wr.heap.size + 1 := by simp
  have cb := hb1.cell 0
  have c1 := h1.st.head.cell 1
  simp only [List.getElem?_toArray, List.getElem?_cons_zero, List.getElem?_cons_succ] at cb c1
  have HB := Lib.hid (And.intro hB1 (And.intro h1 (And.intro hb1 hz1)))
  clear hB1 h1 hb1 hz1
  refine calls_of_wp_marks Tryz.func167 rfl M ?_
  simp only [Tryz.ntmps167, List.size_toArray, List.length_cons, List.length_nil, Nat.reduceAdd, Nat.reduceSub, Array.replicate_succ, Array.replicate_zero, List.push_toArray, List.append_toArray, List.nil_append, List.cons_append]
  gi_wp2_with fail
  refine ⟨trivial, fun h => (by cases h), ?_⟩
  generalize wr.alloc (.cells #[.pointer (some ⟨Z.t, 0, none⟩)] 56) = W1 at *
  refine (callsIn_wide.2 (takefn_any Z.C.t W1)).mono ?_
  rintro e w' ⟨rfl, rfl⟩
  obtain ⟨hB1, h1, hb1, hz1⟩ := HB.out
  have hB2 := (Below.refl W1.heap.size W1).alloc (Nat.le_refl _) (.cells #[.pointer (some ⟨Z.C.t, 0, none⟩)] 96)
  have h7 := h1.ask hB2
  have hb7 := hb1.turn (Turn.ofBelow hB2) (fun e => by omega)
  have hbox := Blk.new W1 #[.pointer (some ⟨Z.C.t, 0, none⟩)] 96
  have hz7 : (W1.alloc (.cells #[.pointer (some ⟨Z.C.t, 0, none⟩)] 96)).heap.size = wr.heap.size + 2 := by simp; omega
  have hB7 : Below wr.heap.size wr (W1.alloc (.cells #[.pointer (some ⟨Z.C.t, 0, none⟩)] 96)) := below_step hB1 hB2
  have H7 := Lib.hid (And.intro hB7 (And.intro h7 (And.intro hb7 (And.intro hbox hz7))))
  clear hB1 h1 hb1 hB2 h7 hb7 hbox hz7 hB7 cb c1
  gi_wp2_with fail
  obtain ⟨hB7, h7, hb7, hbox, hz7⟩ := H7.out
  clear HB H7
  generalize W1.alloc (.cells #[.pointer (some ⟨Z.C.t, 0, none⟩)] 96) = V7 at *
  have hbx7 := hbox.cell 0
  simp only [List.getElem?_toArray, List.getElem?_cons_zero] at hbx7
  rw [hz1] at hbx7
  clear hbox
  have hsd := h7.gm.at_.side
  have hTlt := h.gm.mt.lt
  have hZlt := h.st.lt
  have hXlt := hsd.ar.lt
  have hCh : ∀ k, Z.C.has k → Z.has k := fun k e => .inr e
  have hTZ : ∀ k, T.has k → ¬ Z.has k := fun k e e2 => (h.gm.own k e).2.2 (.inr e2)
  have hZX : ∀ k, Z.has k → ¬ X.has k := fun k e e2 => (h.own k e).2.1 (.inl e2)
  have hCn : ∀ k, (k = Z.C.b ∨ Z.C.lo = some k) → Z.has k := fun k e => by
    rcases e with e | e
    · exact .inr (.inr (.inl e))
    · exact .inr (.inr (.inr e))
  have htb := h.gm.ex.tabB
  have htn : ¬ Z.C.has 1 := fun e => by have := (h.own _ (hCh _ e)).1; omega
  have hBn : ¬ Z.C.has (wr.heap.size + 1) := fun e => by have := hZlt _ (hCh _ e); omega
  have hsz := h.gm.size
  have h0 : RemG T Z.C V7 X.a s.P c D (([] : List (Fin 4096)).map Fin.val) (([] : List (Fin 4096)).map Fin.val) (fun _ => False) V7 :=
    ⟨⟨T, by simpa [Col.rem_none] using h7.gm.mt, rfl, rfl, fun k e => .inl e⟩, by simpa using h7.st.cd.set, fun _ e => e.elim, Turn.refl _ _⟩
  refine wpIn_rangeEL rfl (by omega) (gf := 175) (lb := #[.pointer (some ⟨wr.heap.size + 1, 0, none⟩)]) rfl trivial (enters_of Tryz.func175 (by kernel_rfl) rfl)
    (take_seq (M - 1) (by omega) (xa := X.a) (wr.heap.size + 1) V7 h7.st.cd hsd.tab hbx7 hBn htn) KpTk.trans (fun x V l o hl => KpTk.putObj (n0 := V7.heap.size) (fun k e => by have := hZlt _ (hCh k e); omega) (by omega) (by omega) V l o hl)
    (fun x A D' hA => by
      obtain ⟨S1, _, _, _, _, hT⟩ := hA
      exact ⟨hT.size, fun k hk hlt => hT.block k hlt (fun e => by have := hZlt _ (hCn k e); omega)⟩) (Below.refl _ _) (fun _ => rfl)
    (fun st V => RemG T Z.C V7 X.a s.P c D (st.1.map Fin.val) (st.1.map Fin.val) st.2 V)
    (fun st V => st.2.val < s.P ∧ D st.2.val = true ∧ RemG T Z.C V7 X.a s.P c D (st.1.1.map Fin.val) (st.1.1.map Fin.val ++ [st.2.val]) st.1.2 V)
    (fun _ _ _ => False)
    (fun st V V' row hs hg hr => hs.grown hg hr)
    (fun st V V' row hs hg hr => ⟨hs.1, hs.2.1, hs.2.2.grown hg hr⟩)
    (fun c st V V' row hs hg hr => hs)
    (fun pre O x A D' hi ha => hi.tell ha (fun k e e2 => hTZ k e (hCn k e2)) (fun k e => by have := hZlt _ (hCn k e); omega))
    h0 ?aA ?assignA ?bodyA ?doneA ?stopA
  case assignA =>
    intro l0 x V K hK
    gi_wp2
    exact hK
  case stopA =>
    rintro D c' pre O V hD _ h
    exact h.elim
  case bodyA =>
    rintro l0 pre O x V hl0 ⟨r0, hr0⟩ hOl ⟨hxP, hxD, hG⟩ hlen
    obtain ⟨T1, hA1, hm1, hn1, hO1⟩ := hG.ex
    have hVs := hG.turn.size
    have hT1lt := hA1.lt
    have hOw := hG.own
    have hT1Z : ∀ k, T1.has k → ¬ Z.has k := fun k e e2 => by
      rcases hO1 k e with e3 | e3
      · exact hTZ k e3 e2
      · have := hOw k e3; have := hZlt k e2; omega
    have hT1X : ∀ k, T1.has k → ¬ X.has k := fun k e e2 => by
      rcases hO1 k e with e3 | e3
      · exact hsd.far k e3 e2
      · have := hOw k e3; have := hXlt k e2; omega
    have hArV : ArMem V X s := hsd.ar.toArMem.turn hG.turn (fun k e e2 => by
      rcases e2 with e2 | e2
      · exact hsd.far k e2 e
      · exact hZX k (hCn k e2) e)
    have hbV : Blk V wr.heap.size #[.pointer (some ⟨Z.t, 0, none⟩)] 56 := hb7.turn hG.turn (fun e => by
      rcases e with e | e
      · have := hTlt _ e; omega
      · have := hZlt _ (hCn _ e); omega)
    have hzV : Blk V Z.t #[.pointer (some ⟨T.m, 0, none⟩), .pointer (some ⟨Z.C.t, 0, none⟩)] 100 := h7.st.head.turn hG.turn (fun e => by
      rcases e with e | e
      · exact hTZ _ e (.inl rfl)
      · exact h7.st.far (.inr e))
    have cbV := hbV.cell 0
    have c0V := hzV.cell 0
    simp only [List.getElem?_toArray, List.getElem?_cons_zero] at cbV c0V
    have cA := mkArena hA1
    rw [hm1] at cA
    have HV := Lib.hid (And.intro hArV (And.intro hbV (And.intro hzV hG)))
    clear hArV hbV hzV hG
    gi_wp2_with fail
    refine ⟨trivial, fun h => (by cases h), ?_⟩
    refine ((callsIn_wide.2 cA).inRound l0).mono ?_
    rintro e w' ⟨rfl, rfl⟩
    clear cA
    gi_wp2_with fail
    refine ⟨trivial, fun h => (by cases h), ?_⟩
    refine ((callsIn_wide.2 (cellsfn_any X.a ((x.val : Nat) : Int) V)).inRound l0).mono ?_
    rintro e w' ⟨rfl, rfl⟩
    obtain ⟨hArV, hbV, hzV, hG⟩ := HV.out
    have hB9 : Below V.heap.size V ((V.alloc (.cells #[.pointer (some ⟨X.a, 0, none⟩)] 32)).alloc (.cells #[.int .i64 ((x.val : Nat) : Int)] 3)) := ((Below.refl V.heap.size V).alloc (Nat.le_refl _) _).alloc (by simp) _
    have e0 : ((V.alloc (.cells #[.pointer (some ⟨X.a, 0, none⟩)] 32)).alloc (.cells #[.int .i64 ((x.val : Nat) : Int)] 3)).cell? ⟨V.heap.size, 0, none⟩ = some (.pointer (some ⟨X.a, 0, none⟩)) := ((Blk.new V _ _).alloc _).cell 0
    have e1 : ((V.alloc (.cells #[.pointer (some ⟨X.a, 0, none⟩)] 32)).alloc (.cells #[.int .i64 ((x.val : Nat) : Int)] 3)).cell? ⟨V.heap.size + 1, 0, none⟩ = some (.int .i64 ((x.val : Nat) : Int)) := by
      have := (Blk.new (V.alloc (.cells #[.pointer (some ⟨X.a, 0, none⟩)] 32)) #[.int .i64 ((x.val : Nat) : Int)] 3).cell 0
      rw [World.size_alloc] at this
      exact this
    have hz9 : ((V.alloc (.cells #[.pointer (some ⟨X.a, 0, none⟩)] 32)).alloc (.cells #[.int .i64 ((x.val : Nat) : Int)] 3)).heap.size = V.heap.size + 2 := by simp
    have HX := Lib.hid (And.intro hB9 (And.intro e0 (And.intro e1 hz9)))
    have HV2 := HV
    clear hB9 e0 e1 hz9 hArV hbV hzV hG cbV c0V
    gi_wp2_with fail
    obtain ⟨hB9, e0, e1, hz9⟩ := HX.out
    obtain ⟨hArV, hbV, hzV, hG⟩ := HV.out
    clear HX HV HV2
    generalize (V.alloc (.cells #[.pointer (some ⟨X.a, 0, none⟩)] 32)).alloc (.cells #[.int .i64 ((x.val : Nat) : Int)] 3) = V9 at *
    have hA9 := hA1.below hB9
    have hAr9 := hArV.below hB9
    have hXV : ∀ k, X.has k → k < V9.heap.size := fun k e => by have := hXlt k e; omega
    have hr9 : V9.heap[l0]? = some (.loop r0) := (hB9.block l0 (Array.getElem?_eq_some_iff.1 hr0).1).trans hr0
    have hb9 : Blk V9 wr.heap.size #[.pointer (some ⟨Z.t, 0, none⟩)] 56 := hbV.turn (Turn.ofBelow hB9) (fun e => by omega)
    have hz0 := hZlt _ (.inl rfl)
    have hzz9 : Blk V9 Z.t #[.pointer (some ⟨T.m, 0, none⟩), .pointer (some ⟨Z.C.t, 0, none⟩)] 100 := hzV.turn (Turn.ofBelow hB9) (fun e => by omega)
    have hIn : InAr s (c.rem fun q => decide (q ∈ pre.map Fin.val)) := inAr_of h7.gm.go.ob h7.gm.inn
    have HK := Lib.hid (And.intro hArV (And.intro hbV (And.intro hzV hG)))
    clear hArV hbV hzV hG
    refine wpIn_rangeTN rfl hr9 (by omega) (gf := 177) (lb := #[.pointer (some ⟨V.heap.size, 0, none⟩), .pointer (some ⟨V.heap.size + 1, 0, none⟩)]) rfl trivial (enters_of Tryz.func177 (by kernel_rfl) rfl)
      ((SeqT.ofK (pg_stops (M - 1 - 1 - 1) V.heap.size x.val hxP V9 hAr9 e0 e1)).inRound l0) KpAr.trans (fun W l o o' hl _ _ => KpAr.putObj (n0 := V9.heap.size) hXV (by omega) W l o' hl) (Below.refl _ _) (fun _ => rfl)
      (fun st V' => InnG T1 V9 X.a (c.rem fun q => decide (q ∈ pre.map Fin.val)) (pgRefs st.1) st.2 V')
      (fun _ _ _ => False)
      (fun st A C row hs hg hr => hs.grown hg hr) (fun c st A C row hs hg hr => hs)
      ⟨T1, by rw [show pgRefs (([], fun _ => False) : List (InPg s.S x.val) × (Nat → Prop)).1 = [] from rfl, Col.dim_nil]; exact hA9, MkStep.refl _ _, fun k e => .inl e, fun _ h => h.elim⟩ ?aB ?assignB ?bodyB ?doneB ?stopB
    case assignB =>
      intro l2 y V K hK
      unfold pgArgs
      gi_wp2
      exact hK
    case stopB =>
      rintro c' pre O V _ h
      exact h.elim
    case bodyB =>
      rintro l2 pre2 O2 y V1 hl2 _ hO2 ⟨T2, hA2, hS2, hO2h, hO2b⟩ hlen2
      have hT2 : ∀ k, T2.has k → T1.has k ∨ V9.heap.size ≤ k := hS2.new
      have hb2 := hb9.turn hS2.turn (fun e => by
        rcases hO1 _ e with e3 | e3
        · have := hTlt _ e3; omega
        · have := hOw _ e3; omega)
      have hz2 := hzz9.turn hS2.turn (fun e => hT1Z _ e (.inl rfl))
      have cb2 := hb2.cell 0
      have c02 := hz2.cell 0
      simp only [List.getElem?_toArray, List.getElem?_cons_zero] at cb2 c02
      have hT2X : ∀ k, T2.has k → ¬ X.has k := fun k e e2 => by
        rcases hT2 k e with e3 | e3
        · exact hT1X k e3 e2
        · have := hXV k e2; omega
      have hAr2 := hAr9.turn hS2.turn (fun k e e2 => hT1X k e2 e)
      have cR := mkRegrey hA2 hAr2 hIn (((32 * x.val + y.1.val + 1 : Nat) : Int)) _ rfl
      rw [hS2.m, hm1, Col.dim_regrey, ← pgRefs_snoc] at cR
      generalize ((c.rem fun q => decide (q ∈ pre.map Fin.val)).dim (pgRefs pre2)).sc (((32 * x.val + y.1.val + 1 : Nat) : Int)) = q2 at cR
      have HS := Lib.hid (And.intro hAr2 (And.intro hb2 hz2))
      clear hAr2 hb2 hz2
      gi_wp2_with fail
      refine ⟨trivial, fun h => (by cases h), ?_⟩
      refine (((callsIn_wide.2 cR).inRound l0).inRound l2).mono ?_
      rintro e V3 ⟨rfl, T3, hA3, hS3⟩
      obtain ⟨O', hOT, hO', hOn⟩ := MkStep.ownedT (B := V9.heap.size) (T7 := T1) (fun k e => by have := hT1lt k e; omega) hO2h hA3.lt hS3
      have hKp : KpAr X V.heap.size V1 V3 := by
        have no : ∀ k, (X.has k ∨ k = V.heap.size ∨ k = V.heap.size + 1) → ¬ T2.has k := fun k e e2 => by
          rcases e with e | e
          · exact hT2X k e2 e
          · rcases hT2 k e2 with e3 | e3
            · have := hT1lt k e3; omega
            · omega
        have hs := hS2.turn.size
        exact ⟨fun k hk => hS3.turn.block k (by have := hXV k hk; omega) (no k (.inl hk)), hS3.turn.block _ (by omega) (no _ (.inr (.inl rfl))), hS3.turn.block _ (by omega) (no _ (.inr (.inr rfl)))⟩
      have hs := hS2.turn.size
      have HI := Lib.hid (And.intro hOT (And.intro hKp (show InnG T1 V9 X.a (c.rem fun q => decide (q ∈ pre.map Fin.val)) (pgRefs (pre2 ++ [y])) O' V3 from ⟨T3, hA3, hS2.trans hS3, hO', fun k e => by
        rcases hOn k e with e2 | e2
        · exact hO2b k e2
        · omega⟩)))
      clear hOT hKp hO' hA3 hS3 cR cb2 c02
      gi_wp2_with fail
      exact ⟨O', HI.out.1, HI.out.2.1, HI.out.2.2⟩
    case doneB =>
      rintro xs O9 V4 hO9 hxs ⟨T2, hA2, hS2, hO2h, hO2b⟩
      obtain ⟨hArV, hbV, hzV, hG⟩ := HK.out
      have hSS := MkStep.below hB9 hS2
      obtain ⟨O', hOT, hO', hOn⟩ := hSS.owned (B := V7.heap.size) (T7 := T) (fun k e => by have := hTlt k e; omega) hO1 hVs
      have no : ∀ k, k < V7.heap.size → ¬ T.has k → ¬ T1.has k := fun k hk h1 e => by
        rcases hO1 k e with e3 | e3
        · exact h1 e3
        · have := hOw k e3; omega
      have hct := hZlt _ (.inr (.inl rfl))
      refine ⟨O', hOT, ⟨⟨fun S0 hS0 => ⟨S0, hS0.turn hSS.turn (fun e => hT1Z _ e (hCn _ (.inl rfl))) (fun l e e2 => hT1Z _ e2 (hCn _ (.inr e))), fun _ _ => rfl⟩, hSS.turn.block _ (by omega) (no _ (by omega) (fun e => by have := hTlt _ e; omega)), hSS.turn.block _ (by omega) (no _ (by omega) (fun e => by have := (h.gm.own _ e).1; omega))⟩, hSS.turn.block _ (by omega) (no _ (by omega) (fun e => hTZ _ e (.inr (.inl rfl))))⟩, ?_⟩
      refine ⟨⟨T2, ?_, hSS.m.trans hm1, hSS.n.trans hn1, hO'⟩, ?_, fun k e => ?_, hG.turn.trans hSS.turn fun i hi e => ?_⟩
      · have e1 : pgRefs xs = cellsOf s.S x.val := pgRefs_all hxs
        rw [e1, Col.rem_page, Col.rem_list] at hA2
        · rw [List.map_append]; exact hA2
        · intro z hz
          obtain ⟨_, _, _, _, _, _, hOk⟩ := h7.gm.mt.ex
          obtain ⟨y, hy, rfl⟩ := List.mem_map.1 (h7.gm.inn z (hOk.sub z hz))
          obtain ⟨i, hi⟩ := List.mem_iff_getElem?.1 hy
          have ho := h7.gm.go.ob.at_ i y hi
          exact ⟨y.r, rfl, by have := ho.pos h7.gm.go.ar.at_.fits; omega, ho.S⟩
      · rw [List.map_append]
        exact hG.set.turn hSS.turn (fun e => hT1Z _ e (hCn _ (.inl rfl))) (fun l e e2 => hT1Z _ e2 (hCn _ (.inr e)))
      · rcases hOn k e with e2 | e2
        · exact hOw k e2
        · omega
      · rcases hO1 i e with e3 | e3
        · exact .inl e3
        · have := hOw i e3; omega
  case doneA =>
    rintro D9 xs O V hD hxs hG hK
    have hxs2 : xs.map Fin.val = elems D s.P := hxs
    have hDl : D9 < V.heap.size := (Array.getElem?_eq_some_iff.mp hK).1
    have HG := Lib.hid hG
    clear hG hxs
    gi_wp2_with fail
    refine leavesP_marksG (B := V7.heap.size) (hi := D9 + 1) ⟨D9, rfl, by omega, by omega, hK, trivial⟩ fun w' hT => ?_
    obtain ⟨T1, hA1, hm1, hn1, hO1⟩ := HG.out.ex
    have hset := HG.out.set
    rw [hxs2] at hA1 hset
    have eD : (fun q => decide (q ∈ elems D s.P)) = D := by
      funext q
      have hlt := h7.st.cd.set.2.1 q
      unfold elems
      cases e : D q with
      | true => simp [hlt e, e]
      | false => simp [e]
    have eE : (fun q => D q && !decide (q ∈ elems D s.P)) = fun _ => false := by
      funext q
      rw [show decide (q ∈ elems D s.P) = D q from congrFun eD q]
      cases D q <;> rfl
    rw [eD] at hA1
    rw [eE] at hset
    have hTT := ((Turn.ofBelow hB7).mono (M' := fun k => T.has k ∨ k = Z.C.b ∨ Z.C.lo = some k) (fun i hi e => absurd hi (by omega))).trans ((HG.out.turn.trans hT (fun i hi e => absurd hi (by omega)))) (fun i _ e => e)
    obtain ⟨hS, hE⟩ := h.fin hTT (hA1.deferred hT) hm1 hn1 (fun k e => by
      rcases hO1 k e with e2 | e2
      · exact .inl e2
      · have := HG.out.own k e2; exact .inr (by omega)) rfl (hset.deferred hT)
    exact ⟨_, results_none rfl _ _ _, rfl, T1, hm1, Z, rfl, hS, hE⟩
end
end Go.Proofs.YtooddbhlanjfbaaGreatDoor
