/- A list of Refs that a call appends to, beside an arena; takes one after the other; at this seat's numbers. -/
import Derived.Test.YtidpmplkbgllfaaGreatDoorUh
import Derived.Test.YtidpmplkbgllfaaGreatDoorArgsC
import Derived.OwnWalk
namespace Go.Proofs.YtidpmplkbgllfaaGreatDoor
open Go Go.RowKit Go.Shelf Go.MuLone Go.RwLone
set_option linter.unusedSimpArgs false
set_option linter.unusedVariables false

def refVals (l : List Nat) : List Value := l.map fun (r : Nat) => Value.int .i64 (r : Int)
/-- The slice v holds the Refs l, in a row of the call's own. -/
def RefsIn (B : Nat) (w : World) (v : Value) (l : List Nat) : Prop := w.ownsRow B 41 1 v l.length (refVals l)
theorem infoRef : (Tryz.prog.info? 41).map (fun i => (i.zero, i.size, i.bytes)) = some (some (.int .i64 0), 1, 8) := by kernel_rfl

section
variable {B : Nat} {w w' : World} {v : Value} {l : List Nat}
theorem RefsIn.nil (B : Nat) (w : World) : RefsIn B w (.slice none 0 0) [] := World.ownsRow_nil w B _ 1
theorem RefsIn.is (h : RefsIn B w v l) : (v = .slice none 0 0 ∧ l = []) ∨ ∃ g cap cur, v = .slice (some ⟨g, 0, none⟩) l.length cap ∧ B ≤ g ∧ Blk w g cur 41 ∧ l.length ≤ cap ∧ ∀ k (hk : k < l.length), w.cell? ⟨g, k, none⟩ = some (.int .i64 (l[k] : Int)) := by
  have h0 := h
  rcases h.2 with ⟨h1, h2⟩ | ⟨g, cap, cur, h1, h2, h3, h4, h5, h6, h7⟩
  · exact .inl ⟨h1, List.eq_nil_of_length_eq_zero h2⟩
  · refine .inr ⟨g, cap, cur, h1, h2, h3, h4, fun k hk => ?_⟩
    subst h1
    rw [World.ownsRow.cellAt h0 k (by omega)]
    simp [refVals, hk]
theorem RefsIn.turn {M : Nat → Prop} (h : RefsIn B w v l) (hT : Turn M w w') (hn : ∀ g cur, Blk w g cur 41 → ¬ M g) : RefsIn B w' v l := by
  refine ⟨h.1, ?_⟩
  rcases h.2 with h1 | ⟨g, cap, cur, h1, h2, h3, h4⟩
  · exact .inl h1
  · exact .inr ⟨g, cap, cur, h1, h2, (hT.block g (lt_of_block h3) (hn g cur h3)).trans h3, h4⟩
theorem RefsIn.below (h : RefsIn B w v l) (hB : Below w.heap.size w w') : RefsIn B w' v l := h.turn (Turn.ofBelow hB) (fun g cur hg e => by have := hg.lt; omega)
theorem RefsIn.alloc (h : RefsIn B w v l) (o : Obj) : RefsIn B (w.alloc o) v l := h.turn ((Turn.refl (fun _ => False) w).alloc o) (fun _ _ _ h => h)
theorem RefsIn.step {X X' : ArB} {s : ArS} (h : RefsIn B w v l) (hA : ArAt w X s) (hS : ArStep X w X' w') : RefsIn B w' v l :=
  h.turn hS.turn (fun g cur hg => hA.far hg (by decide) (by decide) (by decide) (by decide))

/-- One is appended. -/
theorem RefsIn.push (h : RefsIn B w v l) (hB : B ≤ w.heap.size) (hl : l.length ≤ 100000) (ad c : Nat) (r : Nat) (hr : w.cell? ⟨ad, 0, none⟩ = some (.int .i64 (r : Int))) :
    ∃ v' w', (Builtin.append_ #[28, 28] 28 #[v, .slice (some ⟨ad, 0, none⟩) 1 c]).run Tryz.prog w = .ok v' w' ∧ RefsIn B w' v' (l ++ [r]) ∧ Turn (fun k => v.ownBlock = some k) w w' := by
  obtain ⟨i0, hi, hz0, hz1, hz2⟩ := info_parts infoRef
  obtain ⟨v', w', h1, h2, h3, h4⟩ := run_append_own (P := Tryz.prog) w B 28 28 41 i0 (.int .i64 0) 1 8 Tryz.underlying28 hi hz0 hz1 hz2 rfl (by decide) v l.length (refVals l) h ⟨ad, 0, none⟩ 1 c [.int .i64 (r : Int)] rfl (fun j u hj => by
    match j, hj with
    | 0, hj => simp at hj; subst hj; simpa [Addr.add] using hr) (fun u hu => by simp at hu; subst hu; rfl) (by unfold maxLen; omega) (by omega) hB
  refine ⟨v', w', h1, ?_, ⟨h3.os, h3.tape, h3.output, h3.size, fun k hk hn => h3.block k hk (fun e => hn e.symm)⟩⟩
  unfold RefsIn
  rw [List.length_append]
  have e : refVals (l ++ [r]) = refVals l ++ [.int .i64 (r : Int)] := by simp [refVals]
  rw [e]; exact h2
theorem RefsIn.own (h : RefsIn B w v l) {k : Nat} (hk : v.ownBlock = some k) : B ≤ k ∧ ∃ cur, Blk w k cur 41 := by
  rcases h.is with ⟨rfl, _⟩ | ⟨g, cap, cur, rfl, h2, h3, _⟩
  · cases hk
  · have : g = k := by simpa [Value.ownBlock] using hk
    subst this
    exact ⟨h2, cur, h3⟩
theorem RefsIn.lenRun (h : RefsIn B w v l) (ty : TypeId) (W : World) : (Builtin.len_ #[28] ty #[v]).run Tryz.prog W = .ok (.int .i64 (l.length : Int)) W := by
  rcases h.is with ⟨rfl, rfl⟩ | ⟨g, cap, cur, rfl, _⟩
  · kernel_rfl
  · simp [go_sem, Builtin.len_]
end

/-- An arena and a list beside it: the list holds just the taken cells. -/
structure ListIn (B : Nat) (X : ArB) (s : ArS) (v : Value) (l : List Nat) (wb wr : World) : Prop where
  ar : ArIn B X s wb wr
  refs : RefsIn B wr v l

theorem ArIn.turned {B : Nat} {X : ArB} {s : ArS} {wb wr w' : World} {M : Nat → Prop} (h : ArIn B X s wb wr) (hT : Turn M wr w') (hX : ∀ k, X.has k → ¬ M k) (hB : ∀ k, k < B → ¬ M k) : ArIn B X s wb w' :=
  ⟨h.at_.turn hT hX, h.own, h.below.trans (hT.below B h.size hB), h.base, h.tab, h.tabB⟩
theorem ListIn.push {B : Nat} {X : ArB} {s : ArS} {v : Value} {l : List Nat} {wb wr : World} (h : ListIn B X s v l wb wr) (hl : l.length ≤ 100000) (ad c r : Nat) (hr : wr.cell? ⟨ad, 0, none⟩ = some (.int .i64 (r : Int))) :
    ∃ v' w', (Builtin.append_ #[28, 28] 28 #[v, .slice (some ⟨ad, 0, none⟩) 1 c]).run Tryz.prog wr = .ok v' w' ∧ ListIn B X s v' (l ++ [r]) wb w' ∧ Turn (fun k => v.ownBlock = some k) wr w' := by
  obtain ⟨v', w', h1, h2, h3⟩ := h.refs.push h.ar.size hl ad c r hr
  refine ⟨v', w', h1, ⟨h.ar.turned h3 (fun k hk e => ?_) (fun k hk e => ?_), h2⟩, h3⟩
  · obtain ⟨_, cur, hb⟩ := h.refs.own e
    exact h.ar.at_.far hb (by decide) (by decide) (by decide) (by decide) hk
  · have := (h.refs.own e).1; omega

theorem natne_false : decide ((0 : Nat) ≠ 0) = false := rfl
/-- An append at the walk's level. -/
theorem wpList_push {ops : Array Oper} {rest : List Oper} {o : Oper} {a : Act} {Q : Exit → Act → World → Prop} {B : Nat} {X : ArB} {st : ArS} {v : Value} {l : List Nat} {wb w : World} (hgd : o.guard = none) (s x : Operand)
    (ho : o.op = .call { callee := .builtin .append, args := #[s, x], argTypes := #[28, 28] }) (h : ListIn B X st v l wb w) (hl : l.length ≤ 100000) (ad c r : Nat) (hr : w.cell? ⟨ad, 0, none⟩ = some (.int .i64 (r : Int)))
    (hs : a.eval s = v) (hx : a.eval x = .slice (some ⟨ad, 0, none⟩) 1 c) (hK : ∀ v' w', ListIn B X st v' (l ++ [r]) wb w' → Turn (fun k => v.ownBlock = some k) w w' → wpList Tryz.prog ops Q rest (a.put o.dst v') w') : wpList Tryz.prog ops Q (o :: rest) a w := by
  obtain ⟨i0, hi, hz0, hz1, hz2⟩ := info_parts infoRef
  refine wpList_append_own w hgd s x 28 ho B 41 i0 (.int .i64 0) 1 8 Tryz.underlying28 hi hz0 hz1 hz2 rfl (by decide) v l.length (refVals l) hs h.refs ⟨ad, 0, none⟩ 1 c [.int .i64 (r : Int)] hx rfl (fun j u hj => by
    match j, hj with
    | 0, hj => simp at hj; subst hj; simpa [Addr.add] using hr) (fun u hu => by simp at hu; subst hu; rfl) (by unfold maxLen; omega) (by omega) h.ar.size fun v' w' h2 h3 _ => ?_
  have hT : Turn (fun k => v.ownBlock = some k) w w' := ⟨h3.os, h3.tape, h3.output, h3.size, fun k hk hn => h3.block k hk (fun e => hn e.symm)⟩
  refine hK v' w' ⟨h.ar.turned hT (fun k hk e => ?_) (fun k hk e => ?_), ?_⟩ hT
  · obtain ⟨_, cur, hb⟩ := h.refs.own e
    exact h.ar.at_.far hb (by decide) (by decide) (by decide) (by decide) hk
  · have := (h.refs.own e).1; omega
  · unfold RefsIn
    rw [List.length_append]
    have e : refVals (l ++ [r]) = refVals l ++ [.int .i64 (r : Int)] := by simp [refVals]
    rw [e]; exact h2

/-- The list holds just the taken cells, each once. -/
structure Holds1 (s : ArS) (l : List Nat) : Prop where
  iff : ∀ r, s.S r = true ↔ r ∈ l
  nodup : l.Nodup
theorem holds_new (P : Nat) : Holds1 (.new P) [] := ⟨fun r => by simp [ArS.new], List.nodup_nil⟩
theorem Holds1.take {s : ArS} {l : List Nat} (h : Holds1 s l) (hF : Fits s) {c : Int} (h0 : seekF s c ≠ 0) : Holds1 (s.take c) (l ++ [seekF s c]) := by
  have hS := (seekF_is hF h0).2.2.2.2.1
  rw [take_some h0]
  refine ⟨fun r => ?_, ?_⟩
  · show putN s.S _ r = true ↔ _
    simp [putN, h.iff r]
  · rw [List.nodup_append]
    refine ⟨h.nodup, by simp, fun a ha b hb => ?_⟩
    simp at hb
    subst hb
    intro e
    subst e
    rw [(h.iff _).2 ha] at hS; cases hS
end Go.Proofs.YtidpmplkbgllfaaGreatDoor
