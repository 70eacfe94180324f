/- Objects beside an arena, and things that tell of them: a row of pointers to structs; at this seat's numbers. -/
import Derived.Test.YtoemfehlnnbjdaaDoorObM
import Derived.Test.YtoemfehlnnbjdaaDoorApp
namespace Go.Proofs.YtoemfehlnnbjdaaDoor
open Go Go.RowKit Go.Shelf
set_option linter.unusedSimpArgs false
set_option linter.unusedVariables false
attribute [local go_sem] Oper.semAt_some

theorem infoRefM : (Tryd.prog.info? 31).map (fun i => (i.zero, i.size, i.bytes)) = some (some (.int .i64 0), 1, 8) := by kernel_rfl
theorem infoPtrM : (Tryd.prog.info? 29).map (fun i => (i.zero, i.size, i.bytes)) = some (some (.pointer none), 1, 8) := by kernel_rfl
theorem make_refM (n : Nat) (hn : n ≤ 4096) (w : World) : (Instr.makeSlice 32 (.int .i64 (n : Int)) (.int .i64 (n : Int))).run Tryd.prog w = .ok (.slice (some ⟨w.heap.size, 0, none⟩) n n) (w.alloc (.cells (row n fun _ => 0) 31)) := by
  obtain ⟨i0, hi, hz0, hz1, hz2⟩ := info_parts infoRefM
  have h := run_make (P := Tryd.prog) w 32 31 i0 (.int .i64 0) Tryd.underlying32 hi hz0 .i64 .i64 (n : Int) (n : Int) (by omega) (Int.le_refl _) (by rw [hz2]; omega) (by omega)
  simp only [Int.toNat_natCast, hz1] at h
  rw [h]
  have e : madeCells (Value.int .i64 0).cells (n * 1) = row n fun _ => 0 := by
    apply Array.ext'
    rw [Nat.mul_one]
    refine (toList_madeCells_one (Value.int .i64 0) n).trans ?_
    rw [← row_const]; simp
  rw [e]

/-- A thing's blocks: itself, its fields. -/
structure ThB where
  p : Nat
  g : Nat
/-- A row of pointers. -/
def PtrRow (w : World) (v : Value) (l : List ThB) : Prop := w.ownsRow 0 29 1 v l.length (l.map fun b => Value.pointer (some ⟨b.p, 0, none⟩))
theorem PtrRow.is {w : World} {v : Value} {l : List ThB} (h : PtrRow w v l) : (v = .slice none 0 0 ∧ l = []) ∨ ∃ g cap cur, v = .slice (some ⟨g, 0, none⟩) l.length cap ∧ Blk w g cur 29 ∧ ∀ k (hk : k < l.length), w.cell? ⟨g, k, none⟩ = some (.pointer (some ⟨l[k].p, 0, none⟩)) := by
  have h0 := h
  rcases h.2 with ⟨h1, h2⟩ | ⟨g, cap, cur, rfl, _, hg, hn, hm, hs, ht⟩
  · exact .inl ⟨h1, List.length_eq_zero_iff.1 h2⟩
  · refine .inr ⟨g, cap, cur, rfl, hg, fun k hk => ?_⟩
    have hc := World.ownsRow.cells h0 (g := g) rfl k (.pointer (some ⟨l[k].p, 0, none⟩)) (by simp [hk])
    rw [Addr.add_lit, Nat.zero_add] at hc
    exact hc
theorem PtrRow.own {w : World} {v : Value} {l : List ThB} (h : PtrRow w v l) {k : Nat} (hk : v.ownBlock = some k) : ∃ cur, Blk w k cur 29 := by
  rcases h.is with ⟨rfl, _⟩ | ⟨g, cap, cur, rfl, hg, _⟩
  · cases hk
  · have : g = k := by simpa [Value.ownBlock] using hk
    subst this
    exact ⟨cur, hg⟩
theorem PtrRow.turn {M : Nat → Prop} {w w' : World} {v : Value} {l : List ThB} (h : PtrRow w v l) (hT : Turn M w w') (hn : ∀ k, v.ownBlock = some k → ¬ M k) : PtrRow w' v l := by
  refine ⟨h.1, ?_⟩
  rcases h.2 with h1 | ⟨g, cap, cur, rfl, hb, hg, rest⟩
  · exact .inl h1
  · exact .inr ⟨g, cap, cur, rfl, hb, (hT.block g (Array.getElem?_eq_some_iff.1 hg).1 (hn g rfl)).trans hg, rest⟩

/-- What a thing holds. -/
def thingV (x : Ob) (b : ThB) : Array Value := #[.int .i64 (x.r : Int), .slice (some ⟨b.g, 0, none⟩) x.k x.k, .int .i64 x.v]
/-- An arena with objects, and a row of things that say the same. -/
structure MkR (B : Nat) (X : ArB) (s : ArS) (l lt : List Ob) (bs : List ThB) (vo : Value) (wb w : World) : Prop where
  ar : ArIn B X s wb w
  ob : Objs s l
  row : PtrRow w vo bs
  len : bs.length = lt.length
  th : ∀ (i : Nat) (x : Ob) (b : ThB), lt[i]? = some x → bs[i]? = some b → Blk w b.p (thingV x b) 34 ∧ Blk w b.g (Go.Proofs.YtoemfehlnnbjdaaDoor.row x.k x.F) 31
  low : (∀ k, vo.ownBlock = some k → B ≤ k) ∧ ∀ b ∈ bs, B ≤ b.p ∧ B ≤ b.g
  sep : ∀ (i j : Nat) (b c : ThB), i ≠ j → bs[i]? = some b → bs[j]? = some c → b.p ≠ c.p ∧ b.g ≠ c.g
theorem ArIn.turnedM {B : Nat} {X : ArB} {s : ArS} {wb wr w' : World} {M : Nat → Prop} (h : ArIn B X s wb wr) (hT : Turn M wr w') (hX : ∀ k, X.has k → ¬ M k) (hB : ∀ k, k < B → ¬ M k) : ArIn B X s wb w' :=
  ⟨h.at_.turn hT hX, h.own, h.below.trans (hT.below B h.size hB), h.base, h.tab, h.tabB⟩
section
variable {B : Nat} {X : ArB} {s s' : ArS} {l l' lt : List Ob} {bs : List ThB} {vo : Value} {wb w w' : World}
theorem MkR.hit (h : MkR B X s l lt bs vo wb w) {i : Nat} {x : Ob} (hx : lt[i]? = some x) : ∃ b, bs[i]? = some b := by
  have := (List.getElem?_eq_some_iff.1 hx).1
  exact ⟨_, List.getElem?_eq_getElem (by rw [h.len]; exact this)⟩
theorem MkR.hitB (h : MkR B X s l lt bs vo wb w) {i : Nat} {b : ThB} (hb : bs[i]? = some b) : ∃ x, lt[i]? = some x := by
  have := (List.getElem?_eq_some_iff.1 hb).1
  exact ⟨_, List.getElem?_eq_getElem (by rw [← h.len]; exact this)⟩
/-- Nothing of the things' is the arena's. -/
theorem MkR.far (h : MkR B X s l lt bs vo wb w) : (∀ k, vo.ownBlock = some k → ¬ X.has k) ∧ ∀ (i : Nat) (x : Ob) (b : ThB), lt[i]? = some x → bs[i]? = some b → ¬ X.has b.p ∧ ¬ X.has b.g :=
  ⟨fun k hk => by obtain ⟨_, hb⟩ := h.row.own hk; exact h.ar.at_.far hb (by decide) (by decide) (by decide) (by decide), fun i x b hx hb => ⟨h.ar.at_.far (h.th i x b hx hb).1 (by decide) (by decide) (by decide) (by decide), h.ar.at_.far (h.th i x b hx hb).2 (by decide) (by decide) (by decide) (by decide)⟩⟩
/-- The arena is another one, or has another state; the objects too. -/
theorem MkR.step {lo : Option Nat} (h : MkR B X s l lt bs vo wb w) (hA : ArIn B (X.with lo) s' wb w') (hS : ArStep X w (X.with lo) w') (ho : Objs s' l') : MkR B (X.with lo) s' l' lt bs vo wb w' := by
  refine ⟨hA, ho, h.row.turn hS.turn h.far.1, h.len, fun i x b hx hb => ?_, h.low, h.sep⟩
  have hf := h.far.2 i x b hx hb
  exact ⟨(h.th i x b hx hb).1.turn hS.turn hf.1, (h.th i x b hx hb).2.turn hS.turn hf.2⟩
theorem MkR.ask (h : MkR B X s l lt bs vo wb w) (hB : Below w.heap.size w w') : MkR B X s l lt bs vo wb w' := by
  refine ⟨h.ar.ask hB, h.ob, h.row.turn (Turn.ofBelow hB) (fun k e e2 => by obtain ⟨_, hb⟩ := h.row.own e; have := hb.lt; omega), h.len, fun i x b hx hb => ?_, h.low, h.sep⟩
  obtain ⟨h1, h2⟩ := h.th i x b hx hb
  exact ⟨h1.turn (Turn.ofBelow hB) (by have := h1.lt; omega), h2.turn (Turn.ofBelow hB) (by have := h2.lt; omega)⟩
theorem ptr_slice {g n cap k : Nat} (h : (Value.slice (some ⟨g, 0, none⟩) n cap).ownBlock = some k) : g = k := by simpa [Value.ownBlock] using h
/-- One more thing. -/
theorem MkR.push {g n cap : Nat} {x : Ob} {b : ThB} (h : MkR B X s l lt bs vo wb w) (hR : PtrRow w' (.slice (some ⟨g, 0, none⟩) n cap) (bs ++ [b])) (hT : Turn (fun k => vo.ownBlock = some k) w w') (hg : vo.ownBlock = some g ∨ w.heap.size ≤ g)
    (h1 : Blk w b.p (thingV x b) 34) (h2 : Blk w b.g (Go.Proofs.YtoemfehlnnbjdaaDoor.row x.k x.F) 31) (hB : B ≤ b.p ∧ B ≤ b.g) (hn : ∀ c ∈ bs, b.p ≠ c.p ∧ b.g ≠ c.g) : MkR B X s l (lt ++ [x]) (bs ++ [b]) (.slice (some ⟨g, 0, none⟩) n cap) wb w' := by
  have hsz := h.ar.below.size
  have hba := h.ar.base
  have keep : ∀ {k cs T}, Blk w k cs T → T ≠ 29 → Blk w' k cs T := fun {k cs T} hb ht => hb.turn hT (fun e => by
    obtain ⟨_, hb2⟩ := h.row.own e
    exact blk_types hb hb2 ht)
  have cut : ∀ {α : Type} (q : List α) (y : α) (i : Nat) (z : α), (q ++ [y])[i]? = some z → q[i]? = some z ∨ (i = q.length ∧ z = y) := fun q y i z hz => by
    by_cases hi : i < q.length
    · rw [List.getElem?_append_left hi] at hz; exact .inl hz
    · rw [List.getElem?_append_right (by omega)] at hz
      by_cases e : i = q.length
      · subst e; simp at hz; exact .inr ⟨rfl, hz.symm⟩
      · rw [List.getElem?_eq_none (by simp; omega)] at hz; cases hz
  refine ⟨?_, h.ob, hR, by simp [h.len], fun i y c hy hc => ?_, ⟨fun k e => ?_, fun c hc => ?_⟩, fun i j c d hij hc hd => ?_⟩
  · exact h.ar.turnedM hT (fun k hk e => h.far.1 k e hk) (fun k hk e => by have := h.low.1 k e; omega)
  · rcases cut lt x i y hy with e1 | ⟨e1, rfl⟩ <;> rcases cut bs b i c hc with e2 | ⟨e2, rfl⟩
    · obtain ⟨a1, a2⟩ := h.th i y c e1 e2
      exact ⟨keep a1 (by decide), keep a2 (by decide)⟩
    · have := (List.getElem?_eq_some_iff.1 e1).1
      rw [h.len] at e2; omega
    · have := (List.getElem?_eq_some_iff.1 e2).1
      rw [h.len] at this; omega
    · exact ⟨keep h1 (by decide), keep h2 (by decide)⟩
  · have e2 := ptr_slice e
    subst e2
    rcases hg with e3 | e3
    · exact h.low.1 _ e3
    · omega
  · rcases List.mem_append.1 hc with hc | hc
    · exact h.low.2 c hc
    · rw [List.mem_singleton.1 hc]; exact hB
  · rcases cut bs b i c hc with e1 | ⟨e1, ec⟩
    · rcases cut bs b j d hd with e2 | ⟨e2, ed⟩
      · exact h.sep i j c d hij e1 e2
      · have := hn c (List.mem_of_getElem? e1)
        rw [ed]
        exact ⟨fun e => this.1 e.symm, fun e => this.2 e.symm⟩
    · rcases cut bs b j d hd with e2 | ⟨e2, ed⟩
      · rw [ec]
        exact hn d (List.mem_of_getElem? e2)
      · omega
theorem MkR.stored {i : Nat} {x y : Ob} {b : ThB} {M : Nat → Prop} (h : MkR B X s l lt bs vo wb w) (hx : lt[i]? = some x) (hb : bs[i]? = some b) (hT : Turn M w w') (hM : ∀ k, M k → k = b.p ∨ k = b.g) (hrow : ∀ k, vo.ownBlock = some k → ¬ M k)
    (hoth : ∀ (j : Nat) (z : Ob) (c : ThB), j ≠ i → lt[j]? = some z → bs[j]? = some c → ¬ M c.p ∧ ¬ M c.g) (h1 : Blk w' b.p (thingV y b) 34) (h2 : Blk w' b.g (Go.Proofs.YtoemfehlnnbjdaaDoor.row y.k y.F) 31) : MkR B X s l (lt.set i y) bs vo wb w' := by
  have hlo := h.low.2 b (List.mem_of_getElem? hb)
  have hf := h.far.2 i x b hx hb
  refine ⟨h.ar.turnedM hT (fun k hk e => ?_) (fun k hk e => ?_), h.ob, h.row.turn hT hrow, by rw [List.length_set]; exact h.len, fun j z c hz hc => ?_, h.low, h.sep⟩
  · rcases hM k e with e2 | e2
    · rw [e2] at hk; exact hf.1 hk
    · rw [e2] at hk; exact hf.2 hk
  · rcases hM k e with e2 | e2 <;> omega
  · by_cases e : i = j
    · subst e
      rw [set_same hx] at hz; cases hz
      rw [hb] at hc; cases hc
      exact ⟨h1, h2⟩
    · rw [set_other e] at hz
      obtain ⟨a1, a2⟩ := h.th j z c hz hc
      have a3 := hoth j z c (fun e2 => e e2.symm) hz hc
      exact ⟨a1.turn hT a3.1, a2.turn hT a3.2⟩
/-- A thing's number is another one. -/
theorem MkR.storeV {i : Nat} {x : Ob} {b : ThB} (h : MkR B X s l lt bs vo wb w) (hx : lt[i]? = some x) (hb : bs[i]? = some b) (v : Int) : MkR B X s l (lt.set i { x with v := v }) bs vo wb (w.setCell ⟨b.p, 2, none⟩ (.int .i64 v)) := by
  have hT : Turn (fun k => k = b.p) w (w.setCell ⟨b.p, 2, none⟩ (.int .i64 v)) := (Turn.refl _ w).set _ _ (.inr rfl)
  obtain ⟨a1, a2⟩ := h.th i x b hx hb
  refine h.stored hx hb hT (fun k e => .inl e) (fun k e e2 => ?_) (fun j z c hj hz hc => ⟨fun e => (h.sep j i c b hj hc hb).1 e, fun e => ?_⟩) ((a1.setAt 2 _).is rfl) (a2.setOther _ _ (fun e => ?_))
  · obtain ⟨_, hr⟩ := h.row.own e
    have e3 : k = b.p := e2
    rw [e3] at hr; exact blk_types hr a1 (by decide)
  · have e3 : c.g = b.p := e
    have h3 := (h.th j z c hz hc).2
    rw [e3] at h3; exact blk_types h3 a1 (by decide)
  · have e3 : b.g = b.p := e
    rw [e3] at a2; exact blk_types a2 a1 (by decide)
/-- One of its fields. -/
theorem MkR.storeF {i j : Nat} {x : Ob} {b : ThB} (h : MkR B X s l lt bs vo wb w) (hx : lt[i]? = some x) (hb : bs[i]? = some b) (hj : j < x.k) (v : Int) : MkR B X s l (lt.set i { x with F := Go.Proofs.YtoemfehlnnbjdaaDoor.upd x.F j v }) bs vo wb (w.setCell ⟨b.g, j, none⟩ (.int .i64 v)) := by
  have hT : Turn (fun k => k = b.g) w (w.setCell ⟨b.g, j, none⟩ (.int .i64 v)) := (Turn.refl _ w).set _ _ (.inr rfl)
  obtain ⟨a1, a2⟩ := h.th i x b hx hb
  refine h.stored hx hb hT (fun k e => .inr e) (fun k e e2 => ?_) (fun j' z c hj' hz hc => ⟨fun e => ?_, fun e => (h.sep j' i c b hj' hc hb).2 e⟩) (a1.setOther _ _ (fun e => ?_)) ((a2.setAt j _).is (row_set _ _ hj))
  · obtain ⟨_, hr⟩ := h.row.own e
    have e3 : k = b.g := e2
    rw [e3] at hr; exact blk_types hr a2 (by decide)
  · have e3 : c.p = b.g := e
    have h3 := (h.th j' z c hz hc).1
    rw [e3] at h3; exact blk_types h3 a2 (by decide)
  · have e3 : b.p = b.g := e
    rw [e3] at a1; exact blk_types a1 a2 (by decide)
end
end Go.Proofs.YtoemfehlnnbjdaaDoor
