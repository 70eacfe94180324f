/- Loops that make pages dirty; boxes of a range over Take; at this seat's numbers. -/
import Derived.Test.YtfipflghnhfcjaaDoorCdB
import Derived.Test.YtfipflghnhfcjaaDoorCdF
import Derived.Test.YtfipflghnhfcjaaDoorArgsJ
import Derived.Test.YtfipflghnhfcjaaDoorGrow
import Derived.WalkMore
namespace Go.Proofs.YtfipflghnhfcjaaDoor
open Go Go.RowKit Go.Shelf Go.MuLone Go.RwLone
set_option linter.unusedSimpArgs false
set_option linter.unusedVariables false

theorem CardIn.far {B : Nat} {X : ArB} {C : CdB} {s : ArS} {S : Nat → Bool} {wb wr : World} (h : CardIn B X C s S wb wr) {b : Nat} {cs : Array Value} {T : TypeId} (hb : Blk wr b cs T) (h1 : T ≠ 69) (h2 : T ≠ 115) (h3 : T ≠ 158) : ¬ C.has b := by
  rintro (e | e | e)
  · have h4 := h.cd.head
    rw [← e] at h4
    exact blk_types hb h4 h1
  · obtain ⟨_, _, h4⟩ := SetIn.blk h.cd.set.2.2
    rw [← e] at h4
    exact blk_types hb h4 h2
  · have h4 := h.cd.set.2.2
    rw [e] at h4
    obtain ⟨_, _, ws, h5, _⟩ := h4
    exact blk_types hb h5 h3
theorem CardIn.grow {B : Nat} {X : ArB} {C : CdB} {s : ArS} {S : Nat → Bool} {wb wr w' : World} {row : Option Nat} (h : CardIn B X C s S wb wr) (n0 : Nat) (hX : ∀ k, X.has k → k < n0) (hC : ∀ k, C.has k → k < n0) (hB : B ≤ n0) (hg : wr.grownBy w' row) (hr : ∀ r, row = some r → n0 ≤ r) : CardIn B X C s S wb w' :=
  h.turn (M := fun k => row = some k) ⟨hg.os, hg.tape, hg.output, hg.size, fun k hk hn => hg.block k hk (fun e => hn e.symm)⟩ (fun k hk e => by have := hX k hk; have := hr k e; omega) (fun k hk e => by have := hC k hk; have := hr k e; omega) (fun k hk e => by have := hr k e; omega)
/-- The pages left when those of pre are told. -/
def leftS (S : Nat → Bool) (pre : List (Fin 4096)) : Nat → Bool := fun i => S i && !decide (i ∈ pre.map Fin.val)
theorem leftS_nil (S : Nat → Bool) : leftS S [] = S := by funext i; simp [leftS]
theorem leftS_next (S : Nat → Bool) (pre : List (Fin 4096)) (x : Fin 4096) : leftS S (pre ++ [x]) = dropN1 (leftS S pre) x.val := by
  funext i
  unfold leftS dropN1
  rw [List.map_append]
  by_cases h1 : S i = true <;> by_cases h2 : i ∈ pre.map Fin.val <;> by_cases h3 : i = x.val <;> simp_all
theorem left_done {S : Nat → Bool} {m : Nat} (hS : ∀ i, S i = true → i < m) {xs : List (Fin 4096)} (h : xs.map Fin.val = elems S m) : leftS S xs = fun _ => false := by
  funext i
  unfold leftS
  rw [h]
  cases e : S i with
  | false => rfl
  | true =>
    have : i ∈ elems S m := by unfold elems; simp [e, hS i e]
    simp [this]
theorem left_stop {S : Nat → Bool} {j : Nat} {pre : List (Fin 4096)} (h : pre.map Fin.val = elems S (j + 1)) (i : Nat) (hi : leftS S pre i = true) : j < i := by
  unfold leftS at hi
  rw [h] at hi
  by_cases e : j < i
  · exact e
  · have h2 : S i = true ∧ ¬ i ∈ elems S (j + 1) := by simpa using hi
    exact absurd (by unfold elems; simp [h2.1]; omega) h2.2
/-- The last one told; lv: none yet. -/
def lastW (lv : Int) (pre : List (Fin 4096)) : Int := (pre.getLast?.map fun x => ((x.val : Nat) : Int)).getD lv
theorem lastW_nil (lv : Int) : lastW lv [] = lv := rfl
theorem lastW_next (lv : Int) (pre : List (Fin 4096)) (x : Fin 4096) : lastW lv (pre ++ [x]) = ((x.val : Nat) : Int) := by simp [lastW]
theorem lastW_ok {S : Nat → Bool} {n : Nat} {lv : Int} (hS : ∀ i, S i = true → lv < (i : Int)) {q : List (Fin 4096)} {x : Fin 4096} (h : (q ++ [x]).map Fin.val = elems S n) : lastW lv q < ((x.val : Nat) : Int) := by
  have hx : S x.val = true := by
    have : x.val ∈ elems S n := by rw [← h]; simp
    unfold elems at this
    simp at this
    exact this.2
  rcases List.eq_nil_or_concat q with rfl | ⟨r, y, rfl⟩
  · exact hS _ hx
  · rw [List.concat_eq_append, lastW_next]
    have hp : (elems S n).Pairwise (· < ·) := List.Pairwise.filter _ List.pairwise_lt_range
    rw [← h] at hp
    simp [List.pairwise_append] at hp
    have := hp.2 
    omega
/-- A table in a box, with a count and the last page told. -/
structure TkAt (B : Nat) (X : ArB) (C : CdB) (s : ArS) (S : Nat → Bool) (wb : World) (bt bk bl : Nat) (kk : Nat) (lv : Int) (V : World) : Prop where
  card : CardIn B X C s S wb V
  tb : Blk V bt #[.pointer (some ⟨C.t, 0, none⟩)] 65
  kb : Blk V bk #[.int .i64 (kk : Int)] 3
  lb : Blk V bl #[.int .i64 lv] 3
section
variable {B : Nat} {X : ArB} {C : CdB} {s : ArS} {S S' : Nat → Bool} {wb V V' : World} {bt bk bl kk : Nat} {lv : Int}
theorem TkAt.grow {row : Option Nat} (h : TkAt B X C s S wb bt bk bl kk lv V) (n0 : Nat) (hX : ∀ k, X.has k → k < n0) (hC : ∀ k, C.has k → k < n0) (hB : B ≤ n0) (hg : V.grownBy V' row) (hr : ∀ r, row = some r → n0 ≤ r ∧ ∃ o : Obj, V.heap[r]? = some o ∧ o.isCells = false) : TkAt B X C s S wb bt bk bl kk lv V' :=
  ⟨h.card.grow n0 hX hC hB hg (fun r e => (hr r e).1), h.tb.kept hg (fun r e => (hr r e).2), h.kb.kept hg (fun r e => (hr r e).2), h.lb.kept hg (fun r e => (hr r e).2)⟩
theorem TkAt.ask (h : TkAt B X C s S wb bt bk bl kk lv V) (hB : Below V.heap.size V V') : TkAt B X C s S wb bt bk bl kk lv V' := ⟨h.card.ask hB, h.tb.below hB, h.kb.below hB, h.lb.below hB⟩
theorem TkAt.drop (h : TkAt B X C s S wb bt bk bl kk lv V) (hS : SetAt V' C.b C.lo s.P S') (hT : Turn (fun k => k = C.b ∨ C.lo = some k) V V') : TkAt B X C s S' wb bt bk bl kk lv V' := by
  obtain ⟨h1, hT2⟩ := h.card.step hS (.inl rfl) hT
  exact ⟨h1, h.tb.turn hT2 (h.card.far h.tb (by decide) (by decide) (by decide)), h.kb.turn hT2 (h.card.far h.kb (by decide) (by decide) (by decide)), h.lb.turn hT2 (h.card.far h.lb (by decide) (by decide) (by decide))⟩
theorem TkAt.setL (h : TkAt B X C s S wb bt bk bl kk lv V) (hX : ¬ X.has bl) (hB : B ≤ bl) (hk : bk ≠ bl) (y : Int) : TkAt B X C s S wb bt bk bl kk y (V.setCell ⟨bl, 0, none⟩ (.int .i64 y)) := by
  have hT : Turn (fun k => k = bl) V (V.setCell ⟨bl, 0, none⟩ (.int .i64 y)) := (Turn.refl _ V).set _ _ (.inr rfl)
  refine ⟨h.card.turn hT (fun k hk e => hX ((show k = bl from e) ▸ hk)) (fun k hk e => h.card.far h.lb (by decide) (by decide) (by decide) ((show k = bl from e) ▸ hk)) (fun k hk e => by have e2 : k = bl := e; omega), h.tb.turn hT (fun e => ?_), h.kb.turn hT hk, (h.lb.setAt 0 _).is (by simp)⟩
  have e2 : bt = bl := e
  subst e2
  exact blk_types h.tb h.lb (by decide)
theorem TkAt.setK (h : TkAt B X C s S wb bt bk bl kk lv V) (hX : ¬ X.has bk) (hB : B ≤ bk) (hk : bl ≠ bk) (y : Nat) : TkAt B X C s S wb bt bk bl y lv (V.setCell ⟨bk, 0, none⟩ (.int .i64 (y : Int))) := by
  have hT : Turn (fun k => k = bk) V (V.setCell ⟨bk, 0, none⟩ (.int .i64 (y : Int))) := (Turn.refl _ V).set _ _ (.inr rfl)
  refine ⟨h.card.turn hT (fun k hk e => hX ((show k = bk from e) ▸ hk)) (fun k hk e => h.card.far h.kb (by decide) (by decide) (by decide) ((show k = bk from e) ▸ hk)) (fun k hk e => by have e2 : k = bk := e; omega), h.tb.turn hT (fun e => ?_), (h.kb.setAt 0 _).is (by simp), h.lb.turn hT hk⟩
  have e2 : bt = bk := e
  subst e2
  exact blk_types h.tb h.kb (by decide)
end
theorem u8_natC {a : Int} (h : (Lit.int .u8 a).wf = true) : ∃ n : Nat, a = (n : Int) ∧ n < 256 := by
  have h2 : 0 ≤ a ∧ a ≤ 255 := by
    simp [Lit.wf, IntKind.min, IntKind.max, IntKind.signed, IntKind.bits] at h
    omega
  exact ⟨a.toNat, by omega, by omega⟩
end Go.Proofs.YtfipflghnhfcjaaDoor
