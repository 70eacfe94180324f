/- A map[int]int that has 1 at the numbers of a set, in layers above arena; at this seat's numbers. -/
import Derived.Test.YtgfofilknejmnaaGreatDoorCdA
import Derived.Maps.Own
import Derived.Maps.OwnOps
import Derived.Maps.Keyed
import Derived.Maps.Views
import Derived.Maps.OwnSet
namespace Go.Proofs.YtgfofilknejmnaaGreatDoor
open Go.RowKit Go.Shelf Go.MuLone Go.RwLone Go.Maps

theorem keyInt : Keyed Tryz.prog 3 := int_keyed Tryz.underlying3
theorem zeroInt (w : World) : (zeroValue 3).run Tryz.prog w = .ok (.int .i64 0) w := by kernel_rfl

def oneAt (S : Nat → Bool) (x : Int) : Int := if inS S x then 1 else 0
theorem oneAt_yes {S : Nat → Bool} {x : Int} (h : inS S x = true) : oneAt S x = 1 := by unfold oneAt; rw [if_pos h]
theorem oneAt_no {S : Nat → Bool} {x : Int} (h : inS S x = false) : oneAt S x = 0 := by unfold oneAt; rw [if_neg (by rw [h]; decide)]
theorem card_cnt_elems (S : Nat → Bool) : ∀ m, (elems S m).length = cnt S 0 m
  | 0 => rfl
  | m + 1 => by
    have e := cnt_add S m 0 1
    rw [e, ← card_cnt_elems S m]
    unfold elems
    rw [List.range_succ, List.filter_append, List.length_append]
    congr 1
    cases h : S m <;> simp [cnt, h]
theorem elems_card (S : Nat → Bool) (m : Nat) (hm : m ≤ 4096) (h : ∀ j, S j = true → j < m) : (elems S m).length = card S := by
  rw [card_cnt_elems]
  unfold card
  have e := cnt_add S m 0 (4096 - m)
  rw [show m + (4096 - m) = 4096 by omega] at e
  rw [e, cnt_none S (4096 - m) (0 + m) (fun j _ => by
    cases hj : S (0 + m + j) with
    | false => rfl
    | true => have := h _ hj; omega)]
  rfl

/-- Block B is a map that has 1 at the numbers of S, and no others. -/
def MapOf (w : World) (B n : Nat) (S : Nat → Bool) : Prop :=
  ∃ D : DataW Unit, w.ownsMap Tryz.prog 3 (plainElem Tryz.prog 3) B n D ∧ (∀ x, (Lit.int .i64 x).wf = true → D.atKey (.int .i64 x) (.lit (.int .i64 0)) = .lit (.int .i64 (oneAt S x))) ∧
    (∀ x, (Lit.int .i64 x).wf = true → has D (.int .i64 x) = inS S x) ∧ size D = card S

theorem MapOf.look {w : World} {B n : Nat} {S : Nat → Bool} (h : MapOf w B n S) (x : Int) (hx : (Lit.int .i64 x).wf = true) :
    (Instr.lookup 39 (.map (some B)) (.int .i64 x) false).run Tryz.prog w = .ok (.int .i64 (oneAt S x)) w := by
  obtain ⟨D, hD, hf, _⟩ := h
  obtain ⟨c, hrun, hat, _⟩ := hD.lookup_int keyInt Tryz.underlying39 Tryz.underlying3 (zeroInt _) (keyOf_int_mk Tryz.underlying3 hx)
  have e := (hf x hx).symm.trans hat
  cases e
  exact hrun
theorem MapOf.len {w : World} {B n : Nat} {S : Nat → Bool} (h : MapOf w B n S) (ty : TypeId) : (Builtin.len_ #[39] ty #[.map (some B)]).run Tryz.prog w = .ok (.int .i64 (card S)) w := by
  obtain ⟨D, hD, _, _, hs⟩ := h
  rw [← hs]; exact hD.len Tryz.underlying39 ty
theorem MapOf.turn {M : Nat → Prop} {w w' : World} {B n : Nat} {S : Nat → Bool} (h : MapOf w B n S) (hT : Turn M w w') (hM : ¬ M B) : MapOf w' B n S := by
  obtain ⟨D, ⟨es, clock, hb, r⟩, hf⟩ := h
  exact ⟨D, ⟨es, clock, (hT.block B (Array.getElem?_eq_some_iff.1 hb).1 hM).trans hb, r⟩, hf⟩
theorem MapOf.made (w : World) : MapOf (w.alloc (.map #[] 0)) w.heap.size 0 (fun _ => false) :=
  ⟨_, World.ownsMap_made _ _ _ _, fun x _ => by rw [oneAt_no (by simp [inS])]; rfl, fun x _ => by simp [inS]; rfl, by rw [card_none _ (fun _ => rfl)]; rfl⟩
theorem MapOf.block {w : World} {B n : Nat} {S : Nat → Bool} (h : MapOf w B n S) : ∃ o : Obj, w.heap[B]? = some o ∧ o.isCells = false := by
  obtain ⟨D, ⟨es, clock, hb, r⟩, hf⟩ := h
  exact ⟨_, hb, rfl⟩
theorem lit_ne {x y : Int} (h : y ≠ x) : Lit.int .i64 y ≠ Lit.int .i64 x := fun e => h (by injection e)
theorem inS_put_other (m : Nat) (S : Nat → Bool) (x y : Int) (h : y ≠ x) : inS (putS m S x) y = inS S y := by
  unfold inS putS
  by_cases h0 : 0 ≤ y
  · by_cases hx : 0 ≤ x
    · have e : decide (y.toNat = x.toNat) = false := by simp; omega
      rw [e]; simp
    · have e : may m x = false := by simp [may]; omega
      rw [e]; simp
  · simp [h0]
theorem inS_put_same (m : Nat) (S : Nat → Bool) (x : Int) (h : may m x = true) : inS (putS m S x) x = true := by
  have h0 : 0 ≤ x := by simp [may] at h; omega
  simp [inS, putS, h, h0]
theorem inS_drop_other (S : Nat → Bool) (x y : Int) (h : y ≠ x) : inS (dropS S x) y = inS S y := by
  unfold inS dropS
  by_cases h0 : 0 ≤ y
  · have e : decide (((y.toNat : Nat) : Int) = x) = false := by simp; omega
    rw [e]; simp
  · simp [h0]
theorem inS_drop_same (S : Nat → Bool) (x : Int) : inS (dropS S x) x = false := by
  unfold inS dropS
  by_cases h0 : 0 ≤ x
  · have e : decide (((x.toNat : Nat) : Int) = x) = true := by simp; omega
    rw [e]; simp
  · simp [h0]
theorem card_putS (m : Nat) (hm : m ≤ 4096) (S : Nat → Bool) (x : Int) (h : may m x = true) : card (putS m S x) = if inS S x then card S else card S + 1 := by
  have h0 : 0 ≤ x ∧ x < m := by simpa [may] using h
  have e : putS m S x = fun j => S j || decide (j = x.toNat) := by funext j; simp [putS, h]
  rw [e]
  cases hS : S x.toNat with
  | true =>
    rw [if_pos (by simp [inS, h0.1, hS])]
    congr 1
    funext j
    by_cases hj : j = x.toNat
    · subst hj; simp [hS]
    · simp [hj]
  | false =>
    rw [if_neg (by simp [inS, hS])]
    exact card_put S x.toNat (by omega) hS
theorem add_yes {a b : Nat} (h : a = b + 1) : b + (if true = true then 1 else 0) = a := by rw [h]; rfl
theorem add_no (a : Nat) : a + (if false = true then 1 else 0) = a := rfl
theorem card_dropS (S : Nat → Bool) (m : Nat) (hm : m ≤ 4096) (hlt : ∀ j, S j = true → j < m) (x : Int) : card (dropS S x) + (if inS S x then 1 else 0) = card S := by
  cases hI : inS S x with
  | true =>
    have h0 : 0 ≤ x ∧ S x.toNat = true := by simpa [inS] using hI
    have hl := hlt _ h0.2
    have e : dropS S x = fun j => S j && !decide (j = x.toNat) := by
      funext j
      have e2 : ((j : Int) = x) ↔ (j = x.toNat) := by omega
      simp [dropS, e2]
    rw [e]
    exact add_yes (card_drop S x.toNat (by omega) h0.2)
  | false =>
    have e : dropS S x = S := by
      funext j
      by_cases hj : (j : Int) = x
      · subst hj; rw [inS_nat] at hI; simp [dropS, hI]
      · simp [dropS, hj]
    rw [e]
    exact add_no _

theorem MapOf.store {w : World} {B n m : Nat} {S : Nat → Bool} (h : MapOf w B n S) (hm : m ≤ 4096) (hn : n < 9223372036854775807) (x : Int) (hx : (Lit.int .i64 x).wf = true) (hmay : may m x = true) :
    ∃ w', (Instr.mapUpdate 39 (.map (some B)) (.int .i64 x) (.int .i64 1)).run Tryz.prog w = .ok () w' ∧ MapOf w' B (n + 1) (putS m S x) ∧ w.grownBy w' (some B) := by
  obtain ⟨D, hD, hf, hh, hs⟩ := h
  have hM : IsMap D := hD.isMap
  have hTi : Tidy D := hD.tidy keyInt
  have hk : WideAt.IsKeyLit (Lit.int .i64 x) := by simp [WideAt.IsKeyLit]
  obtain ⟨w', hrun, h1, h2⟩ := hD.update keyInt Tryz.underlying39 hn (keyOf_int_mk Tryz.underlying3 hx) (plainElem_int (a := 1) Tryz.underlying3 (by decide))
  refine ⟨w', hrun, ⟨_, h1, fun y hy => ?_, fun y hy => ?_, ?_⟩, h2⟩
  · by_cases e : y = x
    · subst e
      rw [Maps.atKey_put_same hM hk, oneAt_yes (inS_put_same m S _ hmay)]
    · rw [Maps.atKey_put_other (lit_ne e), hf y hy]
      unfold oneAt
      rw [inS_put_other m S x y e]
  · by_cases e : y = x
    · subst e
      rw [has_put_same hM hk, inS_put_same m S _ hmay]
    · rw [has_put_other (lit_ne e), hh y hy, inS_put_other m S x y e]
  · rw [size_put hTi, hh x hx, hs, card_putS m hm S x hmay]

theorem MapOf.drop {w : World} {B n m : Nat} {S : Nat → Bool} (h : MapOf w B n S) (hm : m ≤ 4096) (hlt : ∀ j, S j = true → j < m) (x : Int) (hx : (Lit.int .i64 x).wf = true) (ty : TypeId) :
    ∃ w', (Builtin.delete_ #[39, 3] ty #[.map (some B), .int .i64 x]).run Tryz.prog w = .ok (.tuple #[]) w' ∧ MapOf w' B n (dropS S x) ∧ w.grownBy w' (some B) := by
  obtain ⟨D, hD, hf, hh, hs⟩ := h
  have hTi : Tidy D := hD.tidy keyInt
  obtain ⟨w', hrun, h1, h2⟩ := hD.drop keyInt Tryz.underlying39 (keyOf_int_mk Tryz.underlying3 hx) ty
  refine ⟨w', hrun, ⟨_, h1, fun y hy => ?_, fun y hy => ?_, ?_⟩, h2.grown⟩
  · by_cases e : y = x
    · subst e
      rw [Maps.atKey_del_same, oneAt_no (inS_drop_same S _)]
    · rw [Maps.atKey_del_other (lit_ne e), hf y hy]
      unfold oneAt
      rw [inS_drop_other S x y e]
  · by_cases e : y = x
    · subst e
      rw [has_del_same, inS_drop_same]
    · rw [has_del_other (lit_ne e), hh y hy, inS_drop_other S x y e]
  · have e1 := size_del (k := Lit.int .i64 x) hTi
    have e2 := card_dropS S m hm hlt x
    rw [hh x hx] at e1
    omega
/-- A map's block is none of cells. -/
theorem MapOf.farBlk {w : World} {B n : Nat} {S : Nat → Bool} (h : MapOf w B n S) {b : Nat} {cs : Array Value} {T : TypeId} (hb : Blk w b cs T) : b ≠ B := fun e => by
  obtain ⟨o, h1, h2⟩ := h.block
  subst e
  unfold Blk at hb
  rw [hb] at h1
  cases h1
  cases h2
theorem CardIn.farMap {B : Nat} {X : ArB} {C : CdB} {s : ArS} {S T : Nat → Bool} {wb wr : World} {mb n : Nat} (h : CardIn B X C s S wb wr) (hm : MapOf wr mb n T) : ¬ C.has mb := by
  rintro (e | e | e)
  · exact hm.farBlk h.cd.head e.symm
  · obtain ⟨_, _, h4⟩ := SetIn.blk h.cd.set.2.2
    exact hm.farBlk h4 e.symm
  · have h4 := h.cd.set.2.2
    rw [e] at h4
    obtain ⟨_, _, ws, h5, _⟩ := h4
    exact hm.farBlk h5 rfl
theorem MapOf.lt {w : World} {B n : Nat} {S : Nat → Bool} (h : MapOf w B n S) : B < w.heap.size := by
  obtain ⟨o, h1, _⟩ := h.block
  exact (Array.getElem?_eq_some_iff.1 h1).1
/-- Dirtying a page, as the map has it. -/
theorem dirtyS_put {P : Nat} {S : Nat → Bool} {r : Int} (h : 1 ≤ r ∧ r ≤ 32 * P) : dirtyS P S r = putS P S ((((r.toNat - 1) / 32 : Nat)) : Int) ∧ may P ((((r.toNat - 1) / 32 : Nat)) : Int) = true := by
  have hm : may P ((((r.toNat - 1) / 32 : Nat)) : Int) = true := by
    unfold may
    rw [decide_eq_true (by omega), decide_eq_true (by omega)]
    rfl
  refine ⟨?_, hm⟩
  unfold dirtyS
  rw [if_pos h]
  funext j
  unfold putS
  rw [hm, Int.toNat_natCast]
  simp
theorem dirtyS_none {P : Nat} {S : Nat → Bool} {r : Int} (h : ¬ (1 ≤ r ∧ r ≤ 32 * P)) : dirtyS P S r = S := by unfold dirtyS; rw [if_neg h]
end Go.Proofs.YtgfofilknejmnaaGreatDoor
