/- What SteeleRuns keeps: the barrier, a row of pairs of bools, a map of pages; at this seat's numbers. -/
import Derived.Test.YtgfofilknejmnaaGreatDoorStF
import Derived.Test.YtgfofilknejmnaaGreatDoorMapC
namespace Go.Proofs.YtgfofilknejmnaaGreatDoor
open Go Go.RowKit Go.Shelf
set_option linter.unusedSimpArgs false
set_option linter.unusedVariables false
attribute [local go_sem] Oper.semAt_some
def bolCells : List (Bool × Bool) → List Value
  | [] => []
  | p :: L => .bool p.1 :: .bool p.2 :: bolCells L
theorem bolCells_length : ∀ L, (bolCells L).length = L.length * 2
  | [] => rfl
  | p :: L => by simp [bolCells, bolCells_length L]; omega
theorem bolCells_append : ∀ L M, bolCells (L ++ M) = bolCells L ++ bolCells M
  | [], _ => rfl
  | p :: L, M => by simp [bolCells, bolCells_append L M]
theorem bolCells_get : ∀ (L : List (Bool × Bool)) (t : Nat) (p : Bool × Bool), L[t]? = some p → (bolCells L)[t * 2]? = some (.bool p.1) ∧ (bolCells L)[t * 2 + 1]? = some (.bool p.2)
  | [], t, p, h => by simp at h
  | q :: L, 0, p, h => by simp at h; subst h; exact ⟨rfl, rfl⟩
  | q :: L, t + 1, p, h => by
    obtain ⟨h1, h2⟩ := bolCells_get L t p (by simpa using h)
    rw [show (t + 1) * 2 = t * 2 + 1 + 1 by omega]
    exact ⟨by simpa [bolCells] using h1, by simpa [bolCells] using h2⟩
/-- A row of pairs of bools in the heap. -/
def BolRow (w : World) (v : Value) (L : List (Bool × Bool)) : Prop := w.ownsRow 0 41 2 v L.length (bolCells L)
theorem BolRow.is {w : World} {v : Value} {L : List (Bool × Bool)} (h : BolRow w v L) : (v = .slice none 0 0 ∧ L = []) ∨ ∃ g cap cur, v = .slice (some ⟨g, 0, none⟩) L.length cap ∧ Blk w g cur 41 ∧ L.length ≤ cap ∧ cap ≤ 9223372036854775807 ∧ cur.size = cap * 2 ∧
    ∀ t p, L[t]? = some p → w.cell? ⟨g, t * 2, none⟩ = some (.bool p.1) ∧ w.cell? ⟨g, t * 2 + 1, none⟩ = some (.bool p.2) := by
  have h0 := h
  rcases h.2 with ⟨h1, h2⟩ | ⟨g, cap, cur, rfl, _, hg, hn, hm, hs, ht⟩
  · exact .inl ⟨h1, List.length_eq_zero_iff.1 h2⟩
  · refine .inr ⟨g, cap, cur, rfl, hg, hn, hm, hs, fun t p hp => ?_⟩
    have hc := World.ownsRow.cells h0 (g := g) rfl
    obtain ⟨a1, a2⟩ := bolCells_get L t p hp
    have b1 := hc _ _ a1
    have b2 := hc _ _ a2
    rw [Addr.add_lit] at b1 b2
    simp only [Nat.zero_add] at b1 b2
    exact ⟨b1, b2⟩
theorem BolRow.own {w : World} {v : Value} {L : List (Bool × Bool)} (h : BolRow w v L) {k : Nat} (hk : v.ownBlock = some k) : ∃ cur, Blk w k cur 41 := by
  rcases h.is with ⟨rfl, _⟩ | ⟨g, cap, cur, rfl, hg, _⟩
  · cases hk
  · have : g = k := by simpa [Value.ownBlock] using hk
    subst this
    exact ⟨cur, hg⟩
theorem BolRow.lt {w : World} {v : Value} {L : List (Bool × Bool)} (h : BolRow w v L) {k : Nat} (hk : v.ownBlock = some k) : k < w.heap.size := by
  obtain ⟨cs, hb⟩ := h.own hk
  exact hb.lt
theorem BolRow.keepG {w w' : World} {v : Value} {L : List (Bool × Bool)} (h : BolRow w v L) (hk : ∀ k, v.ownBlock = some k → w'.heap[k]? = w.heap[k]?) : BolRow w' v L := by
  refine ⟨h.1, ?_⟩
  rcases h.2 with h1 | ⟨g, cap, cur, rfl, hb, hg, rest⟩
  · exact .inl h1
  · exact .inr ⟨g, cap, cur, rfl, hb, (hk g rfl).trans hg, rest⟩
theorem infoBol : (Tryz.prog.info? 41).map (fun i => (i.zero, i.size, i.bytes)) = some (some (.agg #[.bool false, .bool false]), 2, 2) := by kernel_rfl
/-- append of one pair. -/
theorem wpList_pushB {ops : Array Oper} {rest : List Oper} {o : Oper} {a : Act} {Q : Exit → Act → World → Prop} {v : Value} {L : List (Bool × Bool)} {w : World} (hgd : o.guard = none) (s x : Operand)
    (ho : o.op = .call { callee := .builtin .append, args := #[s, x], argTypes := #[40, 40] }) (h : BolRow w v L) (hl : L.length ≤ 100000) (vb c : Nat) (p : Bool × Bool) (hvb : Blk w vb #[.bool p.1, .bool p.2] 41)
    (hs : a.eval s = v) (hx : a.eval x = .slice (some ⟨vb, 0, none⟩) 1 c) (hK : ∀ g n cap w', BolRow w' (.slice (some ⟨g, 0, none⟩) n cap) (L ++ [p]) → Turn (fun k => v.ownBlock = some k) w w' → (v.ownBlock = some g ∨ w.heap.size ≤ g) → wpList Tryz.prog ops Q rest (a.put o.dst (.slice (some ⟨g, 0, none⟩) n cap)) w') : wpList Tryz.prog ops Q (o :: rest) a w := by
  obtain ⟨i0, hi, hz0, hz1, hz2⟩ := info_parts infoBol
  refine wpList_append_atM w hgd s x 40 ho 41 i0 _ 2 2 Tryz.underlying40 hi hz0 hz1 hz2 rfl v L.length _ hs h ⟨vb, 0, none⟩ 1 c [.bool p.1, .bool p.2] hx rfl (fun j u hj => by
    rw [Addr.add_lit, Nat.zero_add]
    match j, hj with
    | 0, hj => simp at hj; subst hj; exact hvb.cell 0
    | 1, hj => simp at hj; subst hj; exact hvb.cell 1) (fun u hu => by
      simp at hu
      rcases hu with rfl | rfl <;> rfl) (by decide) (by unfold maxLen; omega) (by omega) fun v' w' h2 h3 h4 => ?_
  have hR : BolRow w' v' (L ++ [p]) := by
    unfold BolRow
    rw [List.length_append, bolCells_append]
    exact h2
  rcases hR.is with ⟨_, e⟩ | ⟨g, cap, cur, rfl, _⟩
  · simp at e
  · exact hK g _ cap w' hR (Turn.ofGrownM h3) (h4 g rfl)
section
variable {B mb n : Nat} {X : ArB} {s : ArS} {obs : List Ob} {vl : Value} {f : Int → Value} {adj : Int → List Int} {E E' : Nat → Prop} {T T' : MkB} {c c' : Col} {Z Z' : StB} {D D' S : Nat → Bool} {wb wr w' : World} {pm cnt : Nat} {v : Value} {L : List (Bool × Bool)}
theorem StIn.turnE {M : Nat → Prop} (h : StIn B mb n X s obs vl f adj E T c Z D wb wr) (hT : Turn M wr w') (hM : ∀ k, M k → E k ∧ B ≤ k ∧ ¬ GoHas X mb vl f k) : StIn B mb n X s obs vl f adj E T c Z D wb w' :=
  ⟨h.gm.turnE hT (fun k e => ⟨.inl (hM k e).1, (hM k e).2⟩), h.st.turn hT (fun k e e2 => (h.own k e).2.2 (hM k e2).1), h.own⟩
theorem StIn.reE (h : StIn B mb n X s obs vl f adj E T c Z D wb wr) (hE : ∀ k, E' k → ¬ T.has k ∧ ¬ Z.has k ∧ k < wr.heap.size) : StIn B mb n X s obs vl f adj E' T c Z D wb wr :=
  ⟨h.gm.reE (fun k e => by
    rcases e with e | e
    · exact ⟨(hE k e).1, (hE k e).2.2⟩
    · exact ⟨fun e2 => (h.gm.own k e2).2.2 (.inr e), h.gm.ext k (.inr e)⟩), h.st, fun k e => ⟨(h.own k e).1, (h.own k e).2.1, fun e2 => (hE k e2).2.1 e⟩⟩
end
/-- The barrier, the row, the map. -/
structure Srn (B mb n : Nat) (X : ArB) (s : ArS) (obs : List Ob) (vl : Value) (f : Int → Value) (T : MkB) (c : Col) (Z : StB) (D S : Nat → Bool) (pm cnt : Nat) (v : Value) (L : List (Bool × Bool)) (wb wr : World) : Prop where
  st : StIn B mb n X s obs vl f (ptsAt obs) (fun k => k = pm ∨ v.ownBlock = some k) T c Z D wb wr
  row : BolRow wr v L
  map : MapOf wr pm cnt S
  low : B ≤ pm ∧ ¬ GoHas X mb vl f pm
  far : ∀ k, v.ownBlock = some k → B ≤ k ∧ ¬ GoHas X mb vl f k ∧ k ≠ pm
section
variable {B mb n : Nat} {X : ArB} {s : ArS} {obs : List Ob} {vl : Value} {f : Int → Value} {T T' : MkB} {c c' : Col} {Z Z' : StB} {D D' S : Nat → Bool} {wb wr w' : World} {pm cnt : Nat} {v : Value} {L : List (Bool × Bool)}
theorem Srn.start (h : StIn B mb n X s obs vl f (ptsAt obs) (fun _ => False) T c Z D wb wr) : Srn B mb n X s obs vl f T c Z D (fun _ => false) wr.heap.size 0 (.slice none 0 0) [] wb (wr.alloc (.map #[] 0)) := by
  have hB := (Below.refl wr.heap.size wr).alloc (Nat.le_refl _) (.map #[] 0)
  have hs := h.gm.size
  refine ⟨h.watch hB fun k e => ?_, World.ownsRow_nil _ _ _ _, MapOf.made wr, ⟨hs, fun e => Nat.lt_irrefl _ (h.gm.go.lt _ e)⟩, fun k e => by cases e⟩
  rcases e with e | e
  · exact .inr ⟨by omega, by rw [e]; simp⟩
  · cases e
theorem Srn.ask (h : Srn B mb n X s obs vl f T c Z D S pm cnt v L wb wr) (hB : Below wr.heap.size wr w') : Srn B mb n X s obs vl f T c Z D S pm cnt v L wb w' :=
  ⟨h.st.ask hB, h.row.keepG fun k e => hB.block k (h.row.lt e), h.map.turn (Turn.ofBelow hB) (fun e => Nat.lt_irrefl _ (Nat.lt_of_lt_of_le h.map.lt e)), h.low, h.far⟩
theorem MapOf.keep {w w' : World} {B n : Nat} {S : Nat → Bool} (h : MapOf w B n S) (hk : w'.heap[B]? = w.heap[B]?) : MapOf w' B n S := by
  obtain ⟨D, ⟨es, clock, hb, r⟩, hf⟩ := h
  exact ⟨D, ⟨es, clock, hk.trans hb, r⟩, hf⟩
/-- A call of the marker's or the barrier's. -/
theorem Srn.went (h : Srn B mb n X s obs vl f T c Z D S pm cnt v L wb wr) (hS : StIn B mb n X s obs vl f (ptsAt obs) (fun k => k = pm ∨ v.ownBlock = some k) T' c' Z' D' wb w') (hk : ∀ k, (k = pm ∨ v.ownBlock = some k) → w'.heap[k]? = wr.heap[k]?) :
    Srn B mb n X s obs vl f T' c' Z' D' S pm cnt v L wb w' :=
  ⟨hS, h.row.keepG fun k e => hk k (.inr e), h.map.keep (hk pm (.inl rfl)), h.low, h.far⟩
theorem Srn.push {g m cap : Nat} {p : Bool × Bool} (h : Srn B mb n X s obs vl f T c Z D S pm cnt v L wb wr) (hR : BolRow w' (.slice (some ⟨g, 0, none⟩) m cap) (L ++ [p])) (hT : Turn (fun k => v.ownBlock = some k) wr w') (hN : v.ownBlock = some g ∨ wr.heap.size ≤ g) :
    Srn B mb n X s obs vl f T c Z D S pm cnt (.slice (some ⟨g, 0, none⟩) m cap) (L ++ [p]) wb w' := by
  have h1 := h.st.turnE hT fun k e => ⟨.inr e, (h.far k e).1, (h.far k e).2.1⟩
  have hs := h.st.gm.size
  have hml := h.map.lt
  have hg : ∀ k, (Value.slice (some ⟨g, 0, none⟩) m cap).ownBlock = some k → (B ≤ k ∧ ¬ GoHas X mb vl f k ∧ k ≠ pm) ∧ ¬ T.has k ∧ ¬ Z.has k := fun k e => by
    have e2 := own_slice e
    subst e2
    rcases hN with e3 | e3
    · exact ⟨h.far _ e3, fun e4 => (h.st.gm.own _ e4).2.2 (.inl (.inr e3)), fun e4 => (h.st.own _ e4).2.2 (.inr e3)⟩
    · exact ⟨⟨by omega, fun e4 => by have := h.st.gm.go.lt _ e4; omega, by omega⟩, fun e4 => by have := h.st.gm.mt.lt _ e4; omega, fun e4 => by have := h.st.st.lt _ e4; omega⟩
  refine ⟨h1.reE fun k e => ?_, hR, h.map.turn hT (fun e => (h.far _ e).2.2 rfl), h.low, fun k e => (hg k e).1⟩
  rcases e with e | e
  · rw [e]
    exact ⟨fun e4 => (h.st.gm.own _ e4).2.2 (.inl (.inl rfl)), fun e4 => (h.st.own _ e4).2.2 (.inl rfl), Nat.lt_of_lt_of_le hml hT.size⟩
  · exact ⟨(hg k e).2.1, (hg k e).2.2, hR.lt e⟩
theorem Srn.store (h : Srn B mb n X s obs vl f T c Z D S pm cnt v L wb wr) {m : Nat} (hm : m ≤ 4096) (hn : cnt < 9223372036854775807) (x : Int) (hx : (Lit.int .i64 x).wf = true) (hmay : may m x = true) :
    ∃ w', (Instr.mapUpdate 39 (.map (some pm)) (.int .i64 x) (.int .i64 1)).run Tryz.prog wr = .ok () w' ∧ Srn B mb n X s obs vl f T c Z D (putS m S x) pm (cnt + 1) v L wb w' := by
  obtain ⟨w', hr, hM, hg⟩ := h.map.store hm hn x hx hmay
  have hT := Turn.ofGrownM hg
  refine ⟨w', hr, h.st.turnE hT (fun k e => ?_), h.row.keepG (fun k e => hT.block k (h.row.lt e) (fun e2 => ?_)), hM, h.low, h.far⟩
  · have e2 : pm = k := by simpa using e
    subst e2
    exact ⟨.inl rfl, h.low⟩
  · have e3 : pm = k := by simpa using e2
    exact (h.far k e).2.2 e3.symm
end
end Go.Proofs.YtgfofilknejmnaaGreatDoor
