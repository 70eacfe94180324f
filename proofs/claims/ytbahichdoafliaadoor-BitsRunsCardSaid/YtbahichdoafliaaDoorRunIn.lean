/- What stands in memory between the steps of a run: the set, the box, the map; at this seat's numbers. -/
import Derived.Test.YtbahichdoafliaaDoorRunMap
namespace Go.Proofs.YtbahichdoafliaaDoor
open Go.RowKit Go.Shelf Go.MuLone Go.RwLone Go.Maps

structure RunIn (B a : Nat) (la : Option Nat) (m ib mb cnt : Nat) (wb wr : World) (S1 S2 : Nat → Bool) : Prop where
  one : SetAt wr a la m S1
  own : OwnSet B a la
  box : Blk wr ib #[.map (some mb)] 28
  map : MapOf wr mb cnt S2
  nei : ib ≠ a
  nli : la ≠ some ib
  bi : B ≤ ib
  nem : mb ≠ a
  nlm : la ≠ some mb
  bm : B ≤ mb
  below : Below B wb wr
  base : B ≤ wb.heap.size

variable {B a m ib mb cnt : Nat} {la : Option Nat} {wb wr w' : World} {S1 S2 S' : Nat → Bool} {e : Ending}

theorem RunIn.mlt (h : RunIn B a la m ib mb cnt wb wr S1 S2) : mb < wr.heap.size := by
  obtain ⟨o, ho, _⟩ := h.map.block
  exact (Array.getElem?_eq_some_iff.1 ho).1
theorem RunIn.mne (h : RunIn B a la m ib mb cnt wb wr S1 S2) : ib ≠ mb := by
  intro e
  obtain ⟨o, ho, hc⟩ := h.map.block
  have hb := h.box
  unfold Blk at hb
  rw [← e, hb] at ho
  cases ho; cases hc

theorem RunIn.drew (h : RunIn B a la m ib mb cnt wb wr S1 S2) : RunIn B a la m ib mb cnt wb wr.drew S1 S2 :=
  ⟨h.one, h.own, h.box, h.map.turn ((Turn.refl (fun _ => False) wr).drew) (fun h => h), h.nei, h.nli, h.bi, h.nem, h.nlm, h.bm, h.below.drew, h.base⟩

theorem RunIn.after (h : RunIn B a la m ib mb cnt wb wr S1 S2) {lo' : Option Nat} (hA' : SetAt w' a lo' m S') (hlo : lo' = la ∨ la = none ∧ ∃ l, lo' = some l ∧ wr.heap.size ≤ l) (hT : Turn (fun k => k = a ∨ la = some k) wr w') :
    RunIn B a lo' m ib mb cnt wb w' S' S2 := by
  obtain ⟨h1, h2, _, h4⟩ := turn_opens hlo hT h.own (Nat.le_trans h.base h.below.size)
  obtain ⟨h7, h8⟩ := h4 _ _ _ h.box h.nei h.nli
  have hmlt := h.mlt
  refine ⟨hA', h1, h7, h.map.turn hT ?_, h.nei, h8, h.bi, h.nem, ?_, h.bm, h.below.trans h2, h.base⟩
  · rintro (e | e)
    · exact h.nem e
    · exact h.nlm e
  · rcases hlo with e | ⟨_, l', e, hle⟩
    · rw [e]; exact h.nlm
    · rw [e]; intro hh; cases hh; omega

theorem RunIn.turn {r : Bool} (h : RunIn B a la m ib mb cnt wb wr S1 S2) (hP : TurnPost a la m r S' wr e w') :
    e = .returned (.bool r) ∧ ∃ la', RunIn B a la' m ib mb cnt wb w' S' S2 := by
  obtain ⟨lo', he, hA', hlo, hT⟩ := hP
  exact ⟨he, lo', h.after hA' hlo hT⟩
theorem RunIn.put (h : RunIn B a la m ib mb cnt wb wr S1 S2) (x : Int) : Calls Tryd.prog 12 #[.pointer (some ⟨a, 0, none⟩), .int .i64 x] wr fun e w' =>
    e = .returned (.bool (may m x && !S1 x.toNat)) ∧ ∃ la', RunIn B a la' m ib mb cnt wb w' (putS m S1 x) S2 :=
  (put_x a la m S1 x wr h.one).mono fun _ _ hP => h.turn hP
theorem RunIn.drop (h : RunIn B a la m ib mb cnt wb wr S1 S2) (x : Int) : Calls Tryd.prog 11 #[.pointer (some ⟨a, 0, none⟩), .int .i64 x] wr fun e w' =>
    e = .returned (.bool (may m x && S1 x.toNat)) ∧ ∃ la', RunIn B a la' m ib mb cnt wb w' (dropS S1 x) S2 :=
  (drop_x a la m S1 x wr h.one).mono fun _ _ hP => h.turn hP
theorem RunIn.has (h : RunIn B a la m ib mb cnt wb wr S1 S2) (x : Int) : Calls Tryd.prog 14 #[.pointer (some ⟨a, 0, none⟩), .int .i64 x] wr fun e w' =>
    e = .returned (.bool (may m x && S1 x.toNat)) ∧ ∃ la', RunIn B a la' m ib mb cnt wb w' S1 S2 :=
  (has_x a la m S1 x wr h.one).mono fun _ _ hP => h.turn hP
theorem RunIn.count (h : RunIn B a la m ib mb cnt wb wr S1 S2) : Calls Tryd.prog 13 #[.pointer (some ⟨a, 0, none⟩)] wr fun e w' =>
    e = .returned (.int .i64 (card S1)) ∧ RunIn B a la m ib mb cnt wb w' S1 S2 :=
  (count_any a la m S1 wr h.one).mono fun _ _ ⟨he, hA', hT⟩ => ⟨he, h.after hA' (.inl rfl) (hT.mono fun _ _ hk => .inl hk)⟩
theorem RunIn.reset (h : RunIn B a la m ib mb cnt wb wr S1 S2) : Calls Tryd.prog 10 #[.pointer (some ⟨a, 0, none⟩)] wr fun e w' =>
    e = .returned (.tuple #[]) ∧ RunIn B a la m ib mb cnt wb w' (fun _ => false) S2 :=
  (reset_any a la m S1 wr h.one).mono fun _ _ ⟨he, hA', hT⟩ => ⟨he, h.after hA' (.inl rfl) hT⟩

theorem RunIn.grown {cnt' : Nat} (h : RunIn B a la m ib mb cnt wb wr S1 S2) (hg : wr.grownBy w' (some mb)) (hM : MapOf w' mb cnt' S') : RunIn B a la m ib mb cnt' wb w' S1 S' :=
  have hr : ∀ r, some mb = some r → ∃ o : Obj, wr.heap[r]? = some o ∧ o.isCells = false := fun r e => by cases e; exact h.map.block
  ⟨h.one.kept hg hr, h.own, h.box.kept hg hr, hM, h.nei, h.nli, h.bi, h.nem, h.nlm, h.bm, h.below.grown hg (Nat.le_trans h.base h.below.size) (fun _ e => by cases e; exact h.bm), h.base⟩

theorem RunIn.store (h : RunIn B a la m ib mb cnt wb wr S1 S2) (hn : cnt < 9223372036854775807) (x : Int) (hx : (Lit.int .i64 x).wf = true) (hmay : may m x = true) :
    ∃ w', (Instr.mapUpdate 28 (.map (some mb)) (.int .i64 x) (.int .i64 1)).run Tryd.prog wr = .ok () w' ∧ RunIn B a la m ib mb (cnt + 1) wb w' S1 (putS m S2 x) := by
  obtain ⟨w', h1, h2, h3⟩ := h.map.store h.one.1 hn x hx hmay
  exact ⟨w', h1, h.grown h3 h2⟩
theorem RunIn.delete (h : RunIn B a la m ib mb cnt wb wr S1 S2) (hlt : ∀ j, S2 j = true → j < m) (x : Int) (hx : (Lit.int .i64 x).wf = true) (ty : TypeId) :
    ∃ w', (Builtin.delete_ #[28, 3] ty #[.map (some mb), .int .i64 x]).run Tryd.prog wr = .ok (.tuple #[]) w' ∧ RunIn B a la m ib mb cnt wb w' S1 (dropS S2 x) := by
  obtain ⟨w', h1, h2, h3⟩ := h.map.drop h.one.1 hlt x hx ty
  exact ⟨w', h1, h.grown h3 h2⟩

/-- The map is made anew. -/
theorem RunIn.remade (h : RunIn B a la m ib mb cnt wb wr S1 S2) : RunIn B a la m ib wr.heap.size 0 wb ((wr.alloc (.map #[] 0)).setCell ⟨ib, 0, none⟩ (.map (some wr.heap.size))) S1 (fun _ => false) := by
  have hs := h.below.size
  have hlt := h.one.lt
  have hib := h.box.lt
  have hbase := h.base
  have hT : Turn (fun k => k = ib) wr ((wr.alloc (.map #[] 0)).setCell ⟨ib, 0, none⟩ (.map (some wr.heap.size))) := ((Turn.refl (fun k => k = ib) wr).alloc _).set _ _ (.inr rfl)
  refine ⟨h.one.turn hT (fun e => h.nei e.symm) (fun l hl e => h.nli (by rw [hl, e])), h.own, ?_, ?_, h.nei, h.nli, h.bi, by omega, fun e => by have := hlt.2 _ e; omega, by omega, h.below.trans (hT.below B (by omega) (fun k hk e => by have := h.bi; omega)), h.base⟩
  · exact ((h.box.alloc (.map #[] 0)).setAt 0 _).is (by simp)
  · exact (MapOf.made wr).turn ((Turn.refl (fun k => k = ib) _).set _ _ (.inr rfl)) (by omega)

/-- New blocks, and others beyond n0 that hold no cells, turn nothing. -/
theorem RunIn.far {row : Option Nat} {n0 : Nat} (h : RunIn B a la m ib mb cnt wb wr S1 S2) (hg : wr.grownBy w' row) (hB : B ≤ n0) (hm : mb < n0) (hrow : ∀ r, row = some r → n0 ≤ r ∧ ∃ o : Obj, wr.heap[r]? = some o ∧ o.isCells = false) : RunIn B a la m ib mb cnt wb w' S1 S2 := by
  have hr : ∀ r, row = some r → ∃ o : Obj, wr.heap[r]? = some o ∧ o.isCells = false := fun r e => (hrow r e).2
  refine ⟨h.one.kept hg hr, h.own, h.box.kept hg hr, ?_, h.nei, h.nli, h.bi, h.nem, h.nlm, h.bm, h.below.grown hg (Nat.le_trans h.base h.below.size) (fun k e => Nat.le_trans hB (hrow k e).1), h.base⟩
  obtain ⟨D, ⟨es, clock, hb, r⟩, hf⟩ := h.map
  exact ⟨D, ⟨es, clock, (hg.block mb (Array.getElem?_eq_some_iff.1 hb).1 (fun e => by have := (hrow mb e.symm).1; omega)).trans hb, r⟩, hf⟩
/-- A store beside them. -/
theorem RunIn.beside (h : RunIn B a la m ib mb cnt wb wr S1 S2) (p : Nat) (v : Value) (hp : B ≤ p) (ha : p ≠ a) (hl : la ≠ some p) (hi : p ≠ ib) (hm : p ≠ mb) : RunIn B a la m ib mb cnt wb (wr.setCell ⟨p, 0, none⟩ v) S1 S2 := by
  have hs := h.below.size
  have hbase := h.base
  have hT : Turn (fun k => k = p) wr (wr.setCell ⟨p, 0, none⟩ v) := (Turn.refl (fun k => k = p) wr).set _ _ (.inr rfl)
  exact ⟨h.one.turn hT (fun e => ha e.symm) (fun l hl2 e => hl (by rw [hl2, e])), h.own, h.box.turn hT (fun e => hi e.symm), h.map.turn hT (fun e => hm e.symm), h.nei, h.nli, h.bi, h.nem, h.nlm, h.bm, h.below.trans (hT.below B (by omega) (fun k hk e => by omega)), h.base⟩

theorem KpSet.cellFar {b : Nat} {lo : Option Nat} {X : Nat} (W : World) (p : Nat) (v : Value) (h1 : p ≠ b) (h2 : lo ≠ some p) (h3 : p ≠ X) (h4 : p ≠ 0) : KpSet b lo X W (W.setCell ⟨p, 0, none⟩ v) :=
  ⟨Below.heap_setCell _ _ _ _ (fun e => h1 e.symm), fun l hl => Below.heap_setCell _ _ _ _ (fun e => h2 (by rw [hl, e])), Below.heap_setCell _ _ _ _ (fun e => h3 e.symm), Below.heap_setCell _ _ _ _ (fun e => h4 e.symm)⟩

/-- The newest number that was told; -1: none was. -/
def lastI (pre : List Nat) : Int := (pre.getLast?.map fun j => (j : Int)).getD (-1)
theorem lastI_nil : lastI [] = -1 := rfl
theorem lastI_snoc (pre : List Nat) (x : Nat) : lastI (pre ++ [x]) = (x : Int) := by simp [lastI]
theorem lastI_elems (S : Nat → Bool) (i : Nat) : lastI (elems S i) < (i : Int) := by
  unfold lastI
  cases h : (elems S i).getLast? with
  | none => simp; omega
  | some j =>
    have hm := List.mem_of_getLast? h
    simp [elems] at hm
    simp; omega
theorem set_lt {w : World} {b : Nat} {lo : Option Nat} {n : Nat} {S : Nat → Bool} (h : SetAt w b lo n S) : ∀ j, S j = true → j < n := h.2.1
theorem one_gt {S : Nat → Bool} {x : Int} : decide (0 < oneAt S x) = inS S x := by
  cases h : inS S x with
  | true => rw [oneAt_yes h]; rfl
  | false => rw [oneAt_no h]; rfl
theorem one_nil {S : Nat → Bool} {x : Int} : (oneAt S x == 0) = !inS S x := by
  cases h : inS S x with
  | true => rw [oneAt_yes h]; rfl
  | false => rw [oneAt_no h]; rfl
theorem has_in {S : Nat → Bool} {m : Nat} {x : Int} (hlt : ∀ j, S j = true → j < m) : (may m x && S x.toNat) = inS S x := by
  unfold may inS
  by_cases h0 : 0 ≤ x
  · cases hS : S x.toNat with
    | true => have := hlt _ hS; simp [h0]; omega
    | false => simp
  · simp [h0]
end Go.Proofs.YtbahichdoafliaaDoor
