/- Plain: counts of what black objects were made to point to; at this seat's names alone. The counting barrier beside a marker: what stands in memory; at this seat's numbers. (A marker, counts by Ref, a log, its room as it was given, whether it ran over.) The counting barrier between the steps of a write: what stands in memory, and what must hold of it in the end; at this seat's numbers. vyb's calls over what landed: small ones, New; at this seat's numbers. vyb's calls over what landed: what one write does; at this seat's numbers. vyb's calls over what landed: Reset, and the remark; at this seat's numbers. vyb's calls over what landed, together: New, Pre, Post, Remark, Reset, Rescans, Count, Over; at this seat's numbers. -/
import Derived.Test.YtooddbhlanjfbaaGreatDoorUn
import Derived.Test.YtooddbhlanjfbaaGreatDoorUm
import Derived.Test.YtooddbhlanjfbaaGreatDoorUc
import Derived.Deep.RegionHeld3
import Derived.Deep.DeepCutAuto
import Derived.Test.YtooddbhlanjfbaaGreatDoorUk
namespace Go.Proofs.YtooddbhlanjfbaaGreatDoor
open Go Go.RowKit
def updC (f : Int → Nat) (x : Int) (v : Nat) : Int → Nat := fun y => if y = x then v else f y
theorem updC_at (f : Int → Nat) (x : Int) (v : Nat) : updC f x v x = v := if_pos rfl
theorem updC_ne {f : Int → Nat} {x y : Int} {v : Nat} (h : y ≠ x) : updC f x v y = f y := if_neg h
/-- One more, at most three; one less, if it is one or two. -/
def vyUp (cnt : Int → Nat) (x : Int) : Int → Nat := if x = 0 then cnt else updC cnt x (min 3 (cnt x + 1))
def vyDown (cnt : Int → Nat) (x : Int) : Int → Nat := if x = 0 then cnt else if cnt x = 1 ∨ cnt x = 2 then updC cnt x (cnt x - 1) else cnt
/-- Behind a write of a new one over an old one. -/
def vyPost (cnt : Int → Nat) (black : Bool) (new old : Int) : Int → Nat := if black then vyDown (vyUp cnt new) old else cnt
def vyLg (lg : Nat) (black : Bool) (new : Int) : Nat := if black then (if new = 0 then lg else lg + 1) else lg
/-- What counts is shaded. -/
def vyCol (c : Col) (cnt : Int → Nat) : Col := ⟨fun y => c.ma y || decide (0 < cnt y), c.sc⟩
theorem vyPost_white (cnt : Int → Nat) (x y : Int) : vyPost cnt false x y = cnt := if_neg (by decide)
theorem vyLg_white (lg : Nat) (x : Int) : vyLg lg false x = lg := if_neg (by decide)
theorem vyUp_most (cnt : Int → Nat) (h : ∀ y, cnt y ≤ 3) (x : Int) : ∀ y, vyUp cnt x y ≤ 3 := fun y => by
  unfold vyUp; split
  · exact h y
  · unfold updC; split <;> first | omega | exact h y
theorem vyDown_most (cnt : Int → Nat) (h : ∀ y, cnt y ≤ 3) (x : Int) : ∀ y, vyDown cnt x y ≤ 3 := fun y => by
  unfold vyDown; split
  · exact h y
  · split
    · unfold updC; split
      · have := h x; omega
      · exact h y
    · exact h y
theorem vyPost_most (cnt : Int → Nat) (h : ∀ y, cnt y ≤ 3) (p : Bool) (x y : Int) : ∀ z, vyPost cnt p x y z ≤ 3 := by
  unfold vyPost; split
  · exact vyDown_most _ (vyUp_most _ h x) y
  · exact h
theorem vyUp_ne {cnt : Int → Nat} {x y : Int} (h : y ≠ x) : vyUp cnt x y = cnt y := by unfold vyUp; split <;> simp [updC_ne h]
theorem vyDown_ne {cnt : Int → Nat} {x y : Int} (h : y ≠ x) : vyDown cnt x y = cnt y := by
  unfold vyDown; split
  · rfl
  · split <;> simp [updC_ne h]
theorem vyUp_at {cnt : Int → Nat} {x : Int} (h : x ≠ 0) : vyUp cnt x x = min 3 (cnt x + 1) := by unfold vyUp; rw [if_neg h, updC_at]
theorem vyDown_at {cnt : Int → Nat} {x : Int} (h : x ≠ 0) : vyDown cnt x x = if cnt x = 1 ∨ cnt x = 2 then cnt x - 1 else cnt x := by
  unfold vyDown; rw [if_neg h]; split
  · rw [updC_at]
  · rfl
theorem vyUp_zero (cnt : Int → Nat) : vyUp cnt 0 = cnt := if_pos rfl
theorem vyDown_zero (cnt : Int → Nat) : vyDown cnt 0 = cnt := if_pos rfl
/-- More that point to it than that were turned elsewhere: it counts. -/
def Enough (cnt : Int → Nat) (net : Int → Int) : Prop := ∀ r, r ≠ 0 → cnt r = 3 ∨ net r ≤ (cnt r : Int)
theorem Enough.post {cnt : Int → Nat} {net : Int → Int} (h : Enough cnt net) (h3 : ∀ y, cnt y ≤ 3) (x y : Int) : Enough (vyDown (vyUp cnt x) y) (updI (updI net x (net x + 1)) y (updI net x (net x + 1) y - 1)) := by
  intro r hr
  have hh := h r hr
  have h4 := h3 r
  by_cases e1 : r = x
  · subst e1
    by_cases e2 : r = y
    · subst e2
      rw [updI_at, updI_at, vyDown_at hr, vyUp_at hr]
      split <;> omega
    · rw [updI_ne e2, updI_at, vyDown_ne e2, vyUp_at hr]
      omega
  · by_cases e2 : r = y
    · subst e2
      rw [updI_at, updI_ne e1, vyDown_at hr, vyUp_ne e1]
      split <;> omega
    · rw [updI_ne e2, updI_ne e1, vyDown_ne e2, vyUp_ne e1]; exact hh
theorem Enough.counts {cnt : Int → Nat} {net : Int → Int} (h : Enough cnt net) {r : Int} (hr : r ≠ 0) (hp : 0 < net r) : 0 < cnt r := by
  rcases h r hr with e | e <;> omega
end Go.Proofs.YtooddbhlanjfbaaGreatDoor

namespace Go.Proofs.YtooddbhlanjfbaaGreatDoor
open Go Go.RowKit Go.Shelf
set_option linter.unusedSimpArgs false
set_option linter.unusedVariables false
attribute [local go_sem] Oper.semAt_some

/-- A barrier's blocks: itself, its counts, its log. -/
structure VyB where
  t : Nat
  k : Nat
  v : Value
  rv : Int
def VyB.has (Z : VyB) (j : Nat) : Prop := j = Z.t ∨ j = Z.k ∨ Z.v.ownBlock = some j
def VyB.cells (Z : VyB) (tm n lg room : Nat) : Array Value := #[.pointer (some ⟨tm, 0, none⟩), .slice (some ⟨Z.k, 0, none⟩) n n, Z.v, .int .i64 Z.rv, .bool (decide (room < lg))]
structure VyAt (w : World) (Z : VyB) (tm n : Nat) (R : List Int) (cnt : Int → Nat) (lg room : Nat) : Prop where
  head : Blk w Z.t (Z.cells tm n lg room) 106
  cts : ∃ cur, Blk w Z.k cur 5 ∧ cur.size = n ∧ ∀ i < n, cur[i]? = some (.int .u8 ((cnt (i : Int) : Nat) : Int))
  log : ∃ ll, RefRow w Z.v ll ∧ ll.length = min lg room ∧ (lg ≤ room → ∀ y, 0 < cnt y → y ∈ ll) ∧ ∀ y ∈ ll, y ∈ R
  most : ∀ y, cnt y ≤ 3
  inn : ∀ y, 0 < cnt y → y ∈ R ∧ 1 ≤ y ∧ y < n
  tk : Z.t ≠ Z.k
  tv : Z.v.ownBlock ≠ some Z.t
  kv : Z.v.ownBlock ≠ some Z.k
  rm : (room : Int) = max Z.rv 0
section
variable {w w' : World} {Z Z' : VyB} {tm n lg room : Nat} {R : List Int} {cnt : Int → Nat}
theorem VyAt.lt (h : VyAt w Z tm n R cnt lg room) : ∀ k, Z.has k → k < w.heap.size := by
  obtain ⟨cur, hc, _⟩ := h.cts
  obtain ⟨ll, hl, _⟩ := h.log
  rintro k (e | e | e)
  · rw [e]; exact h.head.lt
  · rw [e]; exact hc.lt
  · exact hl.lt e
theorem VyAt.keep (h : VyAt w Z tm n R cnt lg room) (hk : ∀ k, Z.has k → w'.heap[k]? = w.heap[k]?) : VyAt w' Z tm n R cnt lg room := by
  obtain ⟨cur, hc, hc2⟩ := h.cts
  obtain ⟨ll, hl, hl2⟩ := h.log
  exact ⟨by have h1 := h.head; unfold Blk at *; rw [hk _ (.inl rfl)]; exact h1, ⟨cur, by unfold Blk at *; rw [hk _ (.inr (.inl rfl))]; exact hc, hc2⟩, ⟨ll, hl.keepG fun k e => hk k (.inr (.inr e)), hl2⟩, h.most, h.inn, h.tk, h.tv, h.kv, h.rm⟩
theorem VyAt.turn {M : Nat → Prop} (h : VyAt w Z tm n R cnt lg room) (hT : Turn M w w') (hn : ∀ k, Z.has k → ¬ M k) : VyAt w' Z tm n R cnt lg room := h.keep fun k e => hT.block k (h.lt k e) (hn k e)
end
/-- What a call on a barrier has turned of itself. -/
structure VyStep (Z : VyB) (w : World) (Z' : VyB) (w' : World) : Prop where
  t : Z'.t = Z.t
  new : ∀ k, Z'.has k → Z.has k ∨ w.heap.size ≤ k
  turn : Turn Z.has w w'
/-- A graph, a marker, a barrier; other blocks E that their calls keep. -/
structure VyIz (B mb n : Nat) (X : ArB) (s : ArS) (obs : List Ob) (vl : Value) (f : Int → Value) (adj : Int → List Int) (E : Nat → Prop) (T : MkB) (c : Col) (Z : VyB) (cnt : Int → Nat) (lg room : Nat) (wb wr : World) : Prop where
  gm : GmIn B mb n X s obs vl f adj (fun k => E k ∨ Z.has k) T c wb wr
  vy : VyAt wr Z T.m (32 * s.P + 1) (refsI obs) cnt lg room
  own : ∀ k, Z.has k → B ≤ k ∧ ¬ GoHas X mb vl f k ∧ ¬ E k
section
variable {B mb n lg lg' room : Nat} {X : ArB} {s : ArS} {obs : List Ob} {vl : Value} {f : Int → Value} {adj : Int → List Int} {E E' : Nat → Prop} {T T' : MkB} {c c' : Col} {Z Z' : VyB} {cnt cnt' : Int → Nat} {wb wr w' : World}
theorem VyIz.ask (h : VyIz B mb n X s obs vl f adj E T c Z cnt lg room wb wr) (hB : Below wr.heap.size wr w') : VyIz B mb n X s obs vl f adj E T c Z cnt lg room wb w' :=
  ⟨h.gm.ask hB, h.vy.keep (fun k e => hB.block k (h.vy.lt k e)), h.own⟩
/-- A marker's call beside the barrier. -/
theorem VyIz.went (h : VyIz B mb n X s obs vl f adj E T c Z cnt lg room wb wr) (hm : T'.m = T.m) (hG : GmIn B mb n X s obs vl f adj (fun k => E k ∨ Z.has k) T' c' wb w') (hk : ∀ k, (E k ∨ Z.has k) → w'.heap[k]? = wr.heap[k]?) :
    VyIz B mb n X s obs vl f adj E T' c' Z cnt lg room wb w' ∧ ∀ k, E k → w'.heap[k]? = wr.heap[k]? :=
  ⟨⟨hG, by rw [hm]; exact h.vy.keep (fun k e => hk k (.inr e)), h.own⟩, fun k e => hk k (.inl e)⟩
theorem VyIz.watch (h : VyIz B mb n X s obs vl f adj E T c Z cnt lg room wb wr) (hB : Below wr.heap.size wr w') (hE : ∀ k, E' k → E k ∨ (wr.heap.size ≤ k ∧ k < w'.heap.size)) : VyIz B mb n X s obs vl f adj E' T c Z cnt lg room wb w' :=
  ⟨h.gm.watch hB fun k e => by
    rcases e with e | e
    · rcases hE k e with e2 | e2
      · exact .inl (.inl e2)
      · exact .inr e2
    · exact .inl (.inr e), h.vy.keep (fun k e => hB.block k (h.vy.lt k e)), fun k e => ⟨(h.own k e).1, (h.own k e).2.1, fun e2 => by
    rcases hE k e2 with e3 | e3
    · exact (h.own k e).2.2 e3
    · have := h.vy.lt k e; omega⟩⟩
/-- The barrier's own call. -/
theorem VyIz.step (h : VyIz B mb n X s obs vl f adj E T c Z cnt lg room wb wr) (hA : VyAt w' Z' T.m (32 * s.P + 1) (refsI obs) cnt' lg' room) (hS : VyStep Z wr Z' w') : VyIz B mb n X s obs vl f adj E T c Z' cnt' lg' room wb w' ∧ ∀ k, E k → w'.heap[k]? = wr.heap[k]? := by
  have hs := h.gm.size
  have hnT : ∀ k, T.has k → ¬ Z.has k := fun k e e2 => (h.gm.own k e).2.2 (.inr e2)
  refine ⟨⟨⟨h.gm.go.turned hS.turn (fun k e e2 => (h.own k e2).2.1 e) (fun k hk e => by have := (h.own k e).1; omega), h.gm.mt.turn hS.turn hnT, fun k e => ⟨(h.gm.own k e).1, (h.gm.own k e).2.1, fun e2 => ?_⟩, fun k e => ?_, h.gm.inn, h.gm.ex⟩, hA, fun k e => ?_⟩, fun k e => hS.turn.block k (h.gm.ext k (.inl e)) (fun e2 => (h.own k e2).2.2 e)⟩
  · rcases e2 with e2 | e2
    · exact (h.gm.own k e).2.2 (.inl e2)
    · rcases hS.new k e2 with e3 | e3
      · exact hnT k e e3
      · have := h.gm.mt.lt k e; omega
  · rcases e with e | e
    · exact Nat.lt_of_lt_of_le (h.gm.ext k (.inl e)) hS.turn.size
    · exact hA.lt k e
  · rcases hS.new k e with e2 | e2
    · exact h.own k e2
    · exact ⟨by omega, fun e3 => by have := h.gm.go.lt k e3; omega, fun e3 => by have := h.gm.ext k (.inl e3); omega⟩
theorem VyIz.turnE {M : Nat → Prop} (h : VyIz B mb n X s obs vl f adj E T c Z cnt lg room wb wr) (hT : Turn M wr w') (hM : ∀ k, M k → E k ∧ B ≤ k ∧ ¬ GoHas X mb vl f k) : VyIz B mb n X s obs vl f adj E T c Z cnt lg room wb w' :=
  ⟨h.gm.turnE hT (fun k e => ⟨.inl (hM k e).1, (hM k e).2⟩), h.vy.turn hT (fun k e e2 => (h.own k e).2.2 (hM k e2).1), h.own⟩
theorem VyIz.reE (h : VyIz B mb n X s obs vl f adj E T c Z cnt lg room wb wr) (hE : ∀ k, E' k → ¬ T.has k ∧ ¬ Z.has k ∧ k < wr.heap.size) : VyIz B mb n X s obs vl f adj E' T c Z cnt lg room wb wr :=
  ⟨h.gm.reE (fun k e => by
    rcases e with e | e
    · exact ⟨(hE k e).1, (hE k e).2.2⟩
    · exact ⟨fun e2 => (h.gm.own k e2).2.2 (.inr e), h.gm.ext k (.inr e)⟩), h.vy, fun k e => ⟨(h.own k e).1, (h.own k e).2.1, fun e2 => (hE k e2).2.1 e⟩⟩
theorem VyIz.less (h : VyIz B mb n X s obs vl f adj E T c Z cnt lg room wb wr) (hE : ∀ k, E' k → E k) : VyIz B mb n X s obs vl f adj E' T c Z cnt lg room wb wr :=
  h.reE fun k e => ⟨fun e2 => (h.gm.own k e2).2.2 (.inl (hE k e)), fun e2 => (h.own k e2).2.2 (hE k e), h.gm.ext k (.inl (hE k e))⟩
end
/-- The same, by its address alone. -/
def VyIn (B mb n : Nat) (X : ArB) (s : ArS) (obs : List Ob) (vl : Value) (f : Int → Value) (adj : Int → List Int) (E : Nat → Prop) (T : MkB) (c : Col) (bt tm : Nat) (cnt : Int → Nat) (lg room : Nat) (wb wr : World) : Prop :=
  ∃ Z : VyB, Z.t = bt ∧ T.m = tm ∧ VyIz B mb n X s obs vl f adj E T c Z cnt lg room wb wr
section
variable {B mb n lg room bt tm : Nat} {X : ArB} {s : ArS} {obs : List Ob} {vl : Value} {f : Int → Value} {adj : Int → List Int} {E E' : Nat → Prop} {T T' : MkB} {c c' : Col} {cnt : Int → Nat} {wb wr w' : World}
theorem VyIn.ask (h : VyIn B mb n X s obs vl f adj E T c bt tm cnt lg room wb wr) (hB : Below wr.heap.size wr w') : VyIn B mb n X s obs vl f adj E T c bt tm cnt lg room wb w' := by
  obtain ⟨Z, h1, h2, h3⟩ := h; exact ⟨Z, h1, h2, h3.ask hB⟩
theorem VyIn.watch (h : VyIn B mb n X s obs vl f adj E T c bt tm cnt lg room wb wr) (hB : Below wr.heap.size wr w') (hE : ∀ k, E' k → E k ∨ (wr.heap.size ≤ k ∧ k < w'.heap.size)) : VyIn B mb n X s obs vl f adj E' T c bt tm cnt lg room wb w' := by
  obtain ⟨Z, h1, h2, h3⟩ := h; exact ⟨Z, h1, h2, h3.watch hB hE⟩
theorem VyIn.less (h : VyIn B mb n X s obs vl f adj E T c bt tm cnt lg room wb wr) (hE : ∀ k, E' k → E k) : VyIn B mb n X s obs vl f adj E' T c bt tm cnt lg room wb wr := by
  obtain ⟨Z, h1, h2, h3⟩ := h; exact ⟨Z, h1, h2, h3.less hE⟩
theorem VyIn.turnE {M : Nat → Prop} (h : VyIn B mb n X s obs vl f adj E T c bt tm cnt lg room wb wr) (hT : Turn M wr w') (hM : ∀ k, M k → E k ∧ B ≤ k ∧ ¬ GoHas X mb vl f k) : VyIn B mb n X s obs vl f adj E T c bt tm cnt lg room wb w' := by
  obtain ⟨Z, h1, h2, h3⟩ := h; exact ⟨Z, h1, h2, h3.turnE hT hM⟩
theorem VyIn.tmE (h : VyIn B mb n X s obs vl f adj E T c bt tm cnt lg room wb wr) : T.m = tm := h.choose_spec.2.1
theorem VyIn.gm (h : VyIn B mb n X s obs vl f adj E T c bt tm cnt lg room wb wr) : GmIn B mb n X s obs vl f adj E T c wb wr := by
  obtain ⟨Z, h1, h2, h3⟩ := h
  exact h3.gm.reE fun k e => ⟨fun e2 => (h3.gm.own k e2).2.2 (.inl e), h3.gm.ext k (.inl e)⟩
theorem VyIn.by_ (h : VyIn B mb n X s obs vl f adj E T c bt tm cnt lg room wb wr) : MkBy B X s obs T c wb wr := h.gm.at_
theorem VyIn.go (h : VyIn B mb n X s obs vl f adj E T c bt tm cnt lg room wb wr) : GoIn B mb n X s obs vl f adj wb wr := h.gm.go
theorem VyIn.most (h : VyIn B mb n X s obs vl f adj E T c bt tm cnt lg room wb wr) : ∀ y, cnt y ≤ 3 := by
  obtain ⟨Z, h1, h2, h3⟩ := h; exact h3.vy.most
theorem VyIn.zero (h : VyIn B mb n X s obs vl f adj E T c bt tm cnt lg room wb wr) (r : Int) (hr : ¬ (1 ≤ r ∧ r ≤ 32 * s.P)) : cnt r = 0 := by
  obtain ⟨Z, h1, h2, h3⟩ := h
  by_cases e : 0 < cnt r
  · have := h3.vy.inn r e; omega
  · omega
end
end Go.Proofs.YtooddbhlanjfbaaGreatDoor

namespace Go.Proofs.YtooddbhlanjfbaaGreatDoor
open Go Go.RowKit Go.Shelf
set_option linter.unusedSimpArgs false
set_option linter.unusedVariables false

/-- Memory alone: counts, what is logged, whether it ran over. -/
structure VyMid (w : World) (Z : VyB) (tm n : Nat) (cnt : Int → Nat) (ll : List Int) (room : Nat) (ov : Bool) : Prop where
  head : Blk w Z.t #[.pointer (some ⟨tm, 0, none⟩), .slice (some ⟨Z.k, 0, none⟩) n n, Z.v, .int .i64 Z.rv, .bool ov] 106
  cts : ∃ cur, Blk w Z.k cur 5 ∧ cur.size = n ∧ ∀ i < n, cur[i]? = some (.int .u8 ((cnt (i : Int) : Nat) : Int))
  log : RefRow w Z.v ll
  tk : Z.t ≠ Z.k
  tv : Z.v.ownBlock ≠ some Z.t
  kv : Z.v.ownBlock ≠ some Z.k
  rm : (room : Int) = max Z.rv 0
/-- What must hold of it. -/
structure VyInv (n : Nat) (R : List Int) (cnt : Int → Nat) (lg room : Nat) (ll : List Int) : Prop where
  len : ll.length = min lg room
  all : lg ≤ room → ∀ y, 0 < cnt y → y ∈ ll
  sub : ∀ y ∈ ll, y ∈ R
  most : ∀ y, cnt y ≤ 3
  inn : ∀ y, 0 < cnt y → y ∈ R ∧ 1 ≤ y ∧ y < n
section
variable {w w' : World} {Z : VyB} {tm n lg room : Nat} {R ll : List Int} {cnt : Int → Nat} {ov : Bool}
theorem VyAt.mid (h : VyAt w Z tm n R cnt lg room) : ∃ ll, VyMid w Z tm n cnt ll room (decide (room < lg)) ∧ VyInv n R cnt lg room ll := by
  obtain ⟨ll, h1, h2, h3, h4⟩ := h.log
  exact ⟨ll, ⟨h.head, h.cts, h1, h.tk, h.tv, h.kv, h.rm⟩, ⟨h2, h3, h4, h.most, h.inn⟩⟩
theorem VyMid.at_ (h : VyMid w Z tm n cnt ll room (decide (room < lg))) (k : VyInv n R cnt lg room ll) : VyAt w Z tm n R cnt lg room :=
  ⟨h.head, h.cts, ⟨ll, h.log, k.len, k.all, k.sub⟩, k.most, k.inn, h.tk, h.tv, h.kv, h.rm⟩
/-- A count is set. -/
theorem VyMid.put (h : VyMid w Z tm n cnt ll room ov) {i : Nat} (hi : i < n) (v : Nat) : VyMid (w.setCell ⟨Z.k, i, none⟩ (.int .u8 (v : Int))) Z tm n (updC cnt (i : Int) v) ll room ov ∧ Turn Z.has w (w.setCell ⟨Z.k, i, none⟩ (.int .u8 (v : Int))) := by
  obtain ⟨cur, h1, h2, h3⟩ := h.cts
  have hT : Turn (fun k => k = Z.k) w (w.setCell ⟨Z.k, i, none⟩ (.int .u8 (v : Int))) := (Turn.refl (fun k => k = Z.k) w).set ⟨Z.k, i, none⟩ _ (.inr rfl)
  refine ⟨⟨h.head.turn hT h.tk, ⟨_, h1.setAt i _, by simp [h2], fun j hj => ?_⟩, h.log.turn hT (fun k e e2 => h.kv ((show k = Z.k from e2) ▸ e)), h.tk, h.tv, h.kv, h.rm⟩, hT.mono fun k _ e => .inr (.inl e)⟩
  by_cases e : j = i
  · subst e
    rw [updC_at]; simp [h2, hj]
  · rw [updC_ne (by omega)]
    rw [Array.getElem?_setIfInBounds_ne (fun e2 => e e2.symm)]
    exact h3 j hj
/-- It is told whether it ran over. -/
theorem VyMid.over (h : VyMid w Z tm n cnt ll room ov) (b : Bool) : VyMid (w.setCell ⟨Z.t, 4, none⟩ (.bool b)) Z tm n cnt ll room b ∧ Turn Z.has w (w.setCell ⟨Z.t, 4, none⟩ (.bool b)) := by
  obtain ⟨cur, h1, h2, h3⟩ := h.cts
  have hT : Turn (fun k => k = Z.t) w (w.setCell ⟨Z.t, 4, none⟩ (.bool b)) := (Turn.refl (fun k => k = Z.t) w).set ⟨Z.t, 4, none⟩ _ (.inr rfl)
  exact ⟨⟨(h.head.setAt 4 (.bool b)).is rfl, ⟨cur, h1.turn hT (fun e => h.tk (show Z.k = Z.t from e).symm), h2, h3⟩, h.log.turn hT (fun k e e2 => h.tv ((show k = Z.t from e2) ▸ e)), h.tk, h.tv, h.kv, h.rm⟩, hT.mono fun k _ e => .inl e⟩
/-- The log is another row. -/
theorem VyMid.row {w1 : World} {v : Value} {l : List Int} (h : VyMid w Z tm n cnt ll room ov) (hR : RefRow w1 v l) (hT : Turn (fun k => Z.v.ownBlock = some k) w w1) (hN : ∀ k, v.ownBlock = some k → Z.v.ownBlock = some k ∨ w.heap.size ≤ k) :
    VyMid (w1.setCell ⟨Z.t, 2, none⟩ v) { Z with v := v } tm n cnt l room ov ∧ VyStep Z w { Z with v := v } (w1.setCell ⟨Z.t, 2, none⟩ v) := by
  obtain ⟨cur, h1, h2, h3⟩ := h.cts
  have hvt : v.ownBlock ≠ some Z.t := fun e => by
    rcases hN _ e with e2 | e2
    · exact h.tv e2
    · have := h.head.lt; omega
  have hvk : v.ownBlock ≠ some Z.k := fun e => by
    rcases hN _ e with e2 | e2
    · exact h.kv e2
    · have := h1.lt; omega
  have hT2 : Turn (fun k => k = Z.t) w1 (w1.setCell ⟨Z.t, 2, none⟩ v) := (Turn.refl (fun k => k = Z.t) w1).set ⟨Z.t, 2, none⟩ _ (.inr rfl)
  have hd1 := h.head.turn hT (fun e => h.tv e)
  have hTT : Turn Z.has w (w1.setCell ⟨Z.t, 2, none⟩ v) := (hT.mono (fun k _ e => (.inr (.inr e) : Z.has k))).trans hT2 (fun k _ e => .inl e)
  refine ⟨⟨(hd1.setAt 2 v).is rfl, ⟨cur, (h1.turn hT (fun e => h.kv e)).turn hT2 (fun e => h.tk (show Z.k = Z.t from e).symm), h2, h3⟩, hR.turn hT2 (fun k e e2 => hvt ((show k = Z.t from e2) ▸ e)), h.tk, hvt, hvk, h.rm⟩, ⟨rfl, fun k e => ?_, hTT⟩⟩
  rcases e with e | e | e
  · exact .inl (.inl e)
  · exact .inl (.inr (.inl e))
  · rcases hN k e with e2 | e2
    · exact .inl (.inr (.inr e2))
    · exact .inr e2
/-- What is logged behind a write. -/
def vyLl (ll : List Int) (room : Nat) (y : Int) : List Int := if y = 0 then ll else if ll.length < room then ll ++ [y] else ll
theorem VyInv.post (h : VyInv n R cnt lg room ll) {y o : Int} (hy : y ∈ R ∨ y = 0) (hb : ∀ z ∈ R, 1 ≤ z ∧ z < n) : VyInv n R (vyPost cnt true y o) (vyLg lg true y) room (vyLl ll room y) := by
  have hc : vyPost cnt true y o = vyDown (vyUp cnt y) o := if_pos rfl
  have hpos : ∀ z, 0 < vyPost cnt true y o z → 0 < cnt z ∨ (z = y ∧ y ≠ 0) := fun z hz => by
    rw [hc] at hz
    have h2 : 0 < vyUp cnt y z := by
      by_cases e : z = o
      · rw [← e] at hz
        by_cases e0 : z = 0
        · rw [e0, vyDown_zero] at hz; rw [e0]; exact hz
        · rw [vyDown_at e0] at hz
          split at hz <;> omega
      · rw [vyDown_ne e] at hz; exact hz
    by_cases e : z = y
    · by_cases e0 : y = 0
      · rw [e0, vyUp_zero] at h2; exact .inl h2
      · exact .inr ⟨e, e0⟩
    · rw [vyUp_ne e] at h2; exact .inl h2
  have hlg : vyLg lg true y = if y = 0 then lg else lg + 1 := if_pos rfl
  rw [hlg]
  unfold vyLl
  by_cases e0 : y = 0
  · rw [if_pos e0, if_pos e0]
    refine ⟨h.len, fun hl z hz => ?_, h.sub, vyPost_most cnt h.most true y o, fun z hz => ?_⟩
    · rcases hpos z hz with e | e
      · exact h.all hl z e
      · exact absurd e0 e.2
    · rcases hpos z hz with e | e
      · exact h.inn z e
      · exact absurd e0 e.2
  · rw [if_neg e0, if_neg e0]
    have hyR := hy.resolve_right e0
    have hl := h.len
    by_cases hr : ll.length < room
    · rw [if_pos hr]
      refine ⟨by rw [List.length_append, List.length_cons, List.length_nil]; omega, fun hl2 z hz => ?_, fun z hz => ?_, vyPost_most cnt h.most true y o, fun z hz => ?_⟩
      · rcases hpos z hz with e | e
        · exact List.mem_append_left _ (h.all (by omega) z e)
        · exact List.mem_append_right _ (by rw [e.1]; exact List.mem_singleton.2 rfl)
      · rcases List.mem_append.1 hz with e | e
        · exact h.sub z e
        · rw [List.mem_singleton.1 e]; exact hyR
      · rcases hpos z hz with e | e
        · exact h.inn z e
        · rw [e.1]; exact ⟨hyR, hb y hyR⟩
    · rw [if_neg hr]
      refine ⟨by omega, fun hl2 z hz => ?_, h.sub, vyPost_most cnt h.most true y o, fun z hz => ?_⟩
      · omega
      · rcases hpos z hz with e | e
        · exact h.inn z e
        · rw [e.1]; exact ⟨hyR, hb y hyR⟩
/-- Whether it ran over, then. -/
theorem VyInv.ran (h : VyInv n R cnt lg room ll) (y : Int) : decide (room < vyLg lg true y) = (decide (room < lg) || (!decide (y = 0) && !decide (ll.length < room))) := by
  have hlg : vyLg lg true y = if y = 0 then lg else lg + 1 := if_pos rfl
  have hl := h.len
  rw [hlg]
  by_cases e0 : y = 0
  · simp [e0]
  · rw [if_neg e0]
    by_cases hr : ll.length < room
    · have h1 : ¬ room < lg + 1 := by omega
      have h2 : ¬ room < lg := by omega
      simp [e0, hr, h1, h2]
    · have h1 : room < lg + 1 := by omega
      simp [e0, hr, h1]
/-- Nothing is known: as new. -/
theorem VyInv.none (n : Nat) (R : List Int) (room : Nat) : VyInv n R (fun _ => 0) 0 room [] := ⟨by simp, fun _ y h => absurd h (Nat.lt_irrefl _), fun y h => (by cases h), fun _ => Nat.zero_le _, fun y h => absurd h (Nat.lt_irrefl _)⟩
end
end Go.Proofs.YtooddbhlanjfbaaGreatDoor

namespace Go.Proofs.YtooddbhlanjfbaaGreatDoor
open Go Go.RowKit Go.Shelf Go.MuLone Go.RwLone
set_option linter.unusedSimpArgs false
set_option linter.unusedVariables false
attribute [local go_sem] Oper.semAt_some

section
variable {B mb n lg lg' room : Nat} {X : ArB} {s : ArS} {obs : List Ob} {vl : Value} {f : Int → Value} {adj : Int → List Int} {E E' : Nat → Prop} {T T' : MkB} {c c' : Col} {Z Z' : VyB} {cnt cnt' : Int → Nat} {bt tm : Nat} {wb wr w' : World}
theorem vy_pre (bt : Nat) (x y : Int) (w : World) : Calls Tryz.prog 191 #[.pointer (some ⟨bt, 0, none⟩), .int .i64 x, .int .i64 y] w fun e w' => e = .returned (.tuple #[]) ∧ w = w' := by
  go_enter Tryz.func191, Tryz.ntmps191
  go_wp2_with fail
  refine bodyPost_end (results_none rfl _ _ _) rfl ?_
  exact ⟨rfl, rfl⟩
theorem vy_rescans (bt : Nat) (w : World) : Calls Tryz.prog 193 #[.pointer (some ⟨bt, 0, none⟩)] w fun e w' => e = .returned (.bool true) ∧ w = w' := by
  go_enter Tryz.func193, Tryz.ntmps193
  go_wp2_with fail
  go_ret
  exact ⟨rfl, rfl⟩
/-- Is it a Ref of the arena? -/
theorem vyk_knows {w : World} {t k N : Nat} (c1 : w.cell? ⟨t, 1, none⟩ = some (.slice (some ⟨k, 0, none⟩) N N)) (r : Int) (q : Bool) (hq : decide (0 ≤ r ∧ r < (N : Int)) = q) :
    Calls Tryz.prog 199 #[.pointer (some ⟨t, 0, none⟩), .int .i64 r] w fun e w' => e = .returned (.bool q) ∧ w = w' := by
  go_enter Tryz.func199, Tryz.ntmps199
  by_cases h0 : 0 ≤ r
  · by_cases h1 : r < (N : Int)
    · obtain rfl : true = q := by rw [← hq]; exact (decide_eq_true ⟨h0, h1⟩).symm
      go_wp2_with fail
      go_ret
      exact ⟨rfl, rfl⟩
    · obtain rfl : false = q := by rw [← hq]; exact (decide_eq_false fun e => h1 e.2).symm
      go_wp2_with fail
      go_ret
      exact ⟨rfl, rfl⟩
  · obtain rfl : false = q := by rw [← hq]; exact (decide_eq_false fun e => h0 e.1).symm
    go_wp2_with fail
    go_ret
    exact ⟨rfl, rfl⟩
theorem VyIz.c1 (h : VyIz B mb n X s obs vl f adj E T c Z cnt lg room wb wr) : wr.cell? ⟨Z.t, 1, none⟩ = some (.slice (some ⟨Z.k, 0, none⟩) (32 * s.P + 1) (32 * s.P + 1)) := h.vy.head.cell 1
theorem VyIz.ck (h : VyIz B mb n X s obs vl f adj E T c Z cnt lg room wb wr) {i : Nat} (hi : i < 32 * s.P + 1) : wr.cell? ⟨Z.k, i, none⟩ = some (.int .u8 ((cnt (i : Int) : Nat) : Int)) := by
  obtain ⟨cur, hc, hs, hi2⟩ := h.vy.cts
  rw [hc.cell i]; exact hi2 i hi
theorem vy_count (h : VyIn B mb n X s obs vl f adj E T c bt tm cnt lg room wb wr) (r : Int) (k : Int) (hk : ((cnt r : Nat) : Int) = k) :
    Calls Tryz.prog 200 #[.pointer (some ⟨bt, 0, none⟩), .int .i64 r] wr fun e w' => e = .returned (.int .i64 k) ∧ Below wr.heap.size wr w' := by
  obtain ⟨Z, rfl, _, h⟩ := h
  obtain ⟨q, hq⟩ : ∃ q, decide (0 ≤ r ∧ r < ((32 * s.P + 1 : Nat) : Int)) = q := ⟨_, rfl⟩
  have cH := vyk_knows h.c1 r q hq
  have c1 := h.c1
  go_enter Tryz.func200, Tryz.ntmps200
  cases q with
  | false =>
    have hk0 : k = 0 := by
      have h9 := of_decide_eq_false hq
      by_cases e : 0 < cnt r
      · have := h.vy.inn r e; omega
      · omega
    subst hk0
    clear hq hk c1
    go_wp2_with fail
    refine cH.mono ?_
    rintro e w1 ⟨rfl, rfl⟩
    go_wp2_with fail
    go_ret
    exact ⟨rfl, Below.refl _ _⟩
  | true =>
    obtain ⟨h1, h2⟩ := of_decide_eq_true hq
    obtain ⟨i, rfl⟩ : ∃ i : Nat, r = (i : Int) := ⟨r.toNat, by omega⟩
    have hci := h.ck (i := i) (by omega)
    have hm3 := h.vy.most (i : Int)
    rw [hk] at hci
    have hkw : IntKind.i64.wrap k = k := by simp [IntKind.wrap, IntKind.bits, IntKind.signed]; omega
    have hi0 : (0 : Int) ≤ (i : Int) := by omega
    obtain ⟨m, hm⟩ : ∃ m, 32 * s.P + 1 = m := ⟨_, rfl⟩
    rw [hm] at c1 h2
    clear hq hk hm3 hm
    go_wp2_with fail
    refine cH.mono ?_
    rintro e w1 ⟨rfl, rfl⟩
    clear cH
    go_wp2_with fail
    go_ret
    exact ⟨rfl, Below.refl _ _⟩
end
theorem infoU8y : (Tryz.prog.info? 5).map (fun i => (i.zero, i.size, i.bytes)) = some (some (.int .u8 0), 1, 1) := by kernel_rfl
theorem make_bytesy (n : Nat) (hn : n ≤ 4096) (w : World) : (Instr.makeSlice 23 (.int .i64 (n : Int)) (.int .i64 (n : Int))).run Tryz.prog w = .ok (.slice (some ⟨w.heap.size, 0, none⟩) n n) (w.alloc (.cells (Array.replicate n (.int .u8 0)) 5)) := by
  obtain ⟨i0, hi, hz0, hz1, hz2⟩ := info_parts infoU8y
  have h := run_make (P := Tryz.prog) w 23 5 i0 (.int .u8 0) Tryz.underlying23 hi hz0 .i64 .i64 (n : Int) (n : Int) (by omega) (Int.le_refl _) (by rw [hz2]; omega) (by omega)
  simp only [Int.toNat_natCast, hz1] at h
  rw [h]
  have e : madeCells (Value.int .u8 0).cells (n * 1) = (Array.replicate n (.int .u8 0)) := by
    apply Array.ext'
    rw [Nat.mul_one]
    exact (toList_madeCells_one (Value.int .u8 0) n).trans (by simp)
  rw [e]
section
variable {B mb n lg lg' room : Nat} {X : ArB} {s : ArS} {obs : List Ob} {vl : Value} {f : Int → Value} {adj : Int → List Int} {E E' : Nat → Prop} {T T' : MkB} {c c' : Col} {Z Z' : VyB} {cnt cnt' : Int → Nat} {bt tm : Nat} {wb wr w' : World}
set_option maxRecDepth 100000 in
set_option maxHeartbeats 4000000 in
theorem vy_new (h : GmIn B mb n X s obs vl f adj E T c wb wr) (hm : T.m = tm) (r : Int) (hr : (room : Int) = max r 0) (h9 : r ≤ 4096) : Calls Tryz.prog 27 #[.pointer (some ⟨tm, 0, none⟩), .int .i64 r] wr fun e w' =>
    ∃ bt, e = .returned (.pointer (some ⟨bt, 0, none⟩)) ∧ VyIn B mb n X s obs vl f adj E T c bt tm (fun _ => 0) 0 room wb w' ∧ Below wr.heap.size wr w' := by
  have hP := h.go.ar.at_.fits.p64
  have cA := mkArena h.mt
  rw [hm] at cA
  have cS := size_any h.go.ar.at_.toArMem
  obtain ⟨m, hmm⟩ : ∃ m, 32 * s.P + 1 = m := ⟨_, rfl⟩
  rw [hmm] at cS
  have hmk := make_bytesy m (by omega)
  have hB1 := (Below.refl wr.heap.size wr).alloc (Nat.le_refl _) (.cells (Array.replicate m (.int .u8 0)) 5)
  have hB2 := hB1.alloc (by simp) (.cells #[.pointer (some ⟨tm, 0, none⟩), .slice (some ⟨wr.heap.size, 0, none⟩) m m, .slice none 0 0, .int .i64 r, .bool false] 106)
  have hb1 := (Blk.new wr (Array.replicate m (.int .u8 0)) 5).alloc (.cells #[.pointer (some ⟨tm, 0, none⟩), .slice (some ⟨wr.heap.size, 0, none⟩) m m, .slice none 0 0, .int .i64 r, .bool false] 106)
  have hb2 := Blk.new (wr.alloc (.cells (Array.replicate m (.int .u8 0)) 5)) #[.pointer (some ⟨tm, 0, none⟩), .slice (some ⟨wr.heap.size, 0, none⟩) m m, .slice none 0 0, .int .i64 r, .bool false] 106
  rw [World.size_alloc] at hb2
  have hsz : ((wr.alloc (.cells (Array.replicate m (.int .u8 0)) 5)).alloc (.cells #[.pointer (some ⟨tm, 0, none⟩), .slice (some ⟨wr.heap.size, 0, none⟩) m m, .slice none 0 0, .int .i64 r, .bool false] 106)).heap.size = wr.heap.size + 2 := by simp
  have HB := Lib.hid (And.intro hB2 (And.intro hb1 (And.intro hb2 (And.intro hsz (And.intro h (And.intro hm (And.intro hmm hr)))))))
  clear hB1 hB2 hb1 hb2 hsz h hm hmm hr h9 hP
  go_enter Tryz.func27, Tryz.ntmps27
  go_wp2_with fail
  refine cA.mono ?_
  rintro e w1 ⟨rfl, rfl⟩
  clear cA
  go_wp2_with fail
  refine cS.mono ?_
  rintro e w1 ⟨rfl, rfl⟩
  clear cS
  go_wp2_with fail
  go_ret
  obtain ⟨hB2, hb1, hb2, hsz, h, hm, hmm, hr⟩ := HB.out
  refine ⟨wr.heap.size + 1, rfl, ⟨⟨wr.heap.size + 1, wr.heap.size, .slice none 0 0, r⟩, rfl, hm, ?_, ?_, ?_⟩, hB2⟩
  · refine h.watch hB2 fun k e => ?_
    rcases e with e | e | e | e
    · exact .inl e
    · have e2 : k = wr.heap.size + 1 := e
      exact .inr ⟨by omega, by omega⟩
    · have e2 : k = wr.heap.size := e
      exact .inr ⟨by omega, by omega⟩
    · cases e
  · refine ⟨?_, ⟨_, hb1, by rw [hmm]; simp, fun i hi => ?_⟩, ⟨[], World.ownsRow_nil _ _ _ _, by simp, fun _ y hy => absurd hy (Nat.lt_irrefl _), fun y hy => by cases hy⟩, fun _ => Nat.zero_le _, fun y hy => absurd hy (Nat.lt_irrefl _), (by simp), (by intro e; cases e), (by intro e; cases e), hr⟩
    · rw [hm, hmm]
      show Blk _ _ (#[.pointer (some ⟨tm, 0, none⟩), .slice (some ⟨wr.heap.size, 0, none⟩) m m, .slice none 0 0, .int .i64 r, .bool (decide (room < 0))]) _
      rw [show decide (room < 0) = false from decide_eq_false (Nat.not_lt_zero _)]
      exact hb2
    · rw [Array.getElem?_replicate, if_pos (by omega)]; rfl
  · intro k e
    have hs := h.size
    have hk : wr.heap.size ≤ k := by
      rcases e with e | e | e
      · have e2 : k = wr.heap.size + 1 := e; omega
      · have e2 : k = wr.heap.size := e; omega
      · cases e
    exact ⟨by omega, fun e2 => by have := h.go.lt k e2; omega, fun e2 => by have := h.ext k e2; omega⟩
end
end Go.Proofs.YtooddbhlanjfbaaGreatDoor

namespace Go.Proofs.YtooddbhlanjfbaaGreatDoor
open Go Go.RowKit Go.Shelf Go.MuLone Go.RwLone
set_option linter.unusedSimpArgs false
set_option linter.unusedVariables false
attribute [local go_sem] Oper.semAt_some

section
variable {w w' w1 w2 : World} {Z Z' Z'' : VyB} {tm n lg room : Nat} {R ll : List Int} {cnt cnt' : Int → Nat} {ov : Bool}
theorem VyMid.ask (h : VyMid w Z tm n cnt ll room ov) (hB : Below w.heap.size w w') : VyMid w' Z tm n cnt ll room ov := by
  obtain ⟨cur, h1, h2⟩ := h.cts
  exact ⟨h.head.turn (Turn.ofBelow hB) (fun e => Nat.lt_irrefl _ (Nat.lt_of_lt_of_le h.head.lt e)), ⟨cur, h1.turn (Turn.ofBelow hB) (fun e => Nat.lt_irrefl _ (Nat.lt_of_lt_of_le h1.lt e)), h2⟩, h.log.keepG fun k e => hB.block k (h.log.lt e), h.tk, h.tv, h.kv, h.rm⟩
theorem VyMid.c1 (h : VyMid w Z tm n cnt ll room ov) : w.cell? ⟨Z.t, 1, none⟩ = some (.slice (some ⟨Z.k, 0, none⟩) n n) := h.head.cell 1
theorem VyMid.c2 (h : VyMid w Z tm n cnt ll room ov) : w.cell? ⟨Z.t, 2, none⟩ = some Z.v := h.head.cell 2
theorem VyMid.c3 (h : VyMid w Z tm n cnt ll room ov) : w.cell? ⟨Z.t, 3, none⟩ = some (.int .i64 Z.rv) := h.head.cell 3
theorem VyMid.ck (h : VyMid w Z tm n cnt ll room ov) {i : Nat} (hi : i < n) : w.cell? ⟨Z.k, i, none⟩ = some (.int .u8 ((cnt (i : Int) : Nat) : Int)) := by
  obtain ⟨cur, hc, hs, hi2⟩ := h.cts
  rw [hc.cell i]; exact hi2 i hi
theorem VyMid.kf (h : VyMid w Z tm n cnt ll room ov) (i : Nat) : w.frozen? ⟨Z.k, i, none⟩ = false := by
  obtain ⟨cur, hc, hs, hi2⟩ := h.cts
  exact hc.free i
theorem updC_same {f : Int → Nat} {x : Int} {v : Nat} (h : f x = v) : updC f x v = f := by
  funext y; unfold updC; split
  · rename_i e; rw [e, h]
  · rfl
theorem vyUp_three {cnt : Int → Nat} {x : Int} (h : cnt x = 3) : vyUp cnt x = cnt := by
  unfold vyUp; split
  · rfl
  · exact updC_same (by omega)
theorem vyUp_less {cnt : Int → Nat} {x : Int} (h0 : x ≠ 0) (h : cnt x < 3) : vyUp cnt x = updC cnt x (cnt x + 1) := by
  unfold vyUp; rw [if_neg h0, show min 3 (cnt x + 1) = cnt x + 1 by omega]
theorem vyDown_stay {cnt : Int → Nat} {x : Int} (h : cnt x = 0 ∨ cnt x = 3) : vyDown cnt x = cnt := by
  unfold vyDown; split
  · rfl
  · rw [if_neg (by omega)]
theorem vyDown_less {cnt : Int → Nat} {x : Int} (h0 : x ≠ 0) (h : cnt x = 1 ∨ cnt x = 2) : vyDown cnt x = updC cnt x (cnt x - 1) := by
  unfold vyDown; rw [if_neg h0, if_pos h]
theorem VyStep.refl (Z : VyB) (w : World) : VyStep Z w Z w := ⟨rfl, fun k e => .inl e, Turn.refl _ w⟩
theorem VyStep.ofTurn (hT : Turn Z.has w w') : VyStep Z w Z w' := ⟨rfl, fun k e => .inl e, hT⟩
theorem VyStep.trans (h1 : VyStep Z w Z' w1) (h2 : VyStep Z' w1 Z'' w2) : VyStep Z w Z'' w2 :=
  ⟨h2.t.trans h1.t, fun k e => by
    rcases h2.new k e with e2 | e2
    · exact h1.new k e2
    · exact .inr (Nat.le_trans h1.turn.size e2), h1.turn.trans h2.turn fun k hk e => by
    rcases h1.new k e with e2 | e2
    · exact e2
    · omega⟩
/-- One more. -/
theorem vyk_more (h : VyMid w Z tm n cnt ll room ov) (hm : ∀ y, cnt y ≤ 3) (hn : n ≤ 4096) {i : Nat} (hi : i < n) (h0 : (i : Int) ≠ 0) :
    Calls Tryz.prog 195 #[.pointer (some ⟨Z.t, 0, none⟩), .int .i64 (i : Int)] w fun e w' => e = .returned (.tuple #[]) ∧ VyMid w' Z tm n (vyUp cnt (i : Int)) ll room ov ∧ Turn Z.has w w' := by
  have c1 := h.c1
  have cH := vyk_knows c1 (i : Int) true (decide_eq_true ⟨by omega, by omega⟩)
  obtain ⟨ct, hct⟩ : ∃ ct, cnt (i : Int) = ct := ⟨_, rfl⟩
  have ck := h.ck hi
  have kf := h.kf i
  have hm3 := hm (i : Int)
  rw [hct] at ck hm3
  have hi0 : (0 : Int) ≤ (i : Int) := by omega
  have hiN : (i : Int) < (n : Int) := by omega
  have H := Lib.hid (And.intro h (And.intro hct (And.intro h0 hi)))
  clear h h0 hm hct
  go_enter Tryz.func195, Tryz.ntmps195
  by_cases h3 : ct = 3
  · subst h3
    clear hm3
    go_wp2_with fail
    refine cH.mono ?_
    rintro e w1 ⟨rfl, rfl⟩
    clear cH
    go_wp2_with fail
    refine bodyPost_end (results_none rfl _ _ _) rfl ?_
    obtain ⟨h, hct, h0, hi⟩ := H.out
    rw [vyUp_three hct]
    exact ⟨rfl, h, Turn.refl _ _⟩
  · have h3I : ¬ (ct : Int) = 3 := by omega
    have hw : IntKind.u8.wrap ((ct : Int) + 1) = ((ct + 1 : Nat) : Int) := by simp [IntKind.wrap, IntKind.bits, IntKind.signed]; omega
    have H3 := Lib.hid (show ct < 3 by omega)
    clear hm3 h3
    go_wp2_with fail
    refine cH.mono ?_
    rintro e w1 ⟨rfl, rfl⟩
    clear cH
    go_wp2_with fail
    refine bodyPost_end (results_none rfl _ _ _) rfl ?_
    obtain ⟨h, hct, h0, hi⟩ := H.out
    obtain ⟨hM, hT⟩ := h.put hi (ct + 1)
    rw [vyUp_less h0 (by rw [hct]; exact H3.out), hct]
    refine ⟨rfl, ?_, ?_⟩
    · first | exact hM | simpa using hM
    · first | exact hT | simpa using hT
/-- One less. -/
theorem vyk_less (h : VyMid w Z tm n cnt ll room ov) (hm : ∀ y, cnt y ≤ 3) (hz : cnt 0 = 0) (hn : n ≤ 4096) {i : Nat} (hi : i < n) :
    Calls Tryz.prog 197 #[.pointer (some ⟨Z.t, 0, none⟩), .int .i64 (i : Int)] w fun e w' => e = .returned (.tuple #[]) ∧ VyMid w' Z tm n (vyDown cnt (i : Int)) ll room ov ∧ Turn Z.has w w' := by
  have c1 := h.c1
  have cH := vyk_knows c1 (i : Int) true (decide_eq_true ⟨by omega, by omega⟩)
  obtain ⟨ct, hct⟩ : ∃ ct, cnt (i : Int) = ct := ⟨_, rfl⟩
  have ck := h.ck hi
  have kf := h.kf i
  have hm3 := hm (i : Int)
  rw [hct] at ck hm3
  have hi0 : (0 : Int) ≤ (i : Int) := by omega
  have hiN : (i : Int) < (n : Int) := by omega
  have H := Lib.hid (And.intro h (And.intro hct (And.intro hz hi)))
  clear h hm hct hz
  go_enter Tryz.func197, Tryz.ntmps197
  by_cases h0 : ct = 0
  · subst h0
    clear hm3
    go_wp2_with fail
    refine cH.mono ?_
    rintro e w1 ⟨rfl, rfl⟩
    clear cH
    go_wp2_with fail
    refine bodyPost_end (results_none rfl _ _ _) rfl ?_
    obtain ⟨h, hct, _, hi⟩ := H.out
    rw [vyDown_stay (.inl hct)]
    exact ⟨rfl, h, Turn.refl _ _⟩
  · by_cases h3 : ct = 3
    · subst h3
      clear hm3 h0
      go_wp2_with fail
      refine cH.mono ?_
      rintro e w1 ⟨rfl, rfl⟩
      clear cH
      go_wp2_with fail
      refine bodyPost_end (results_none rfl _ _ _) rfl ?_
      obtain ⟨h, hct, _, hi⟩ := H.out
      rw [vyDown_stay (.inr hct)]
      exact ⟨rfl, h, Turn.refl _ _⟩
    · have h3I : ¬ (ct : Int) = 3 := by omega
      have h0I : ¬ (ct : Int) = 0 := by omega
      have hb0 : ((ct : Int) != 0) = true := by simp; omega
      have hb3 : ((ct : Int) != 3) = true := by simp; omega
      have hw : IntKind.u8.wrap ((ct : Int) - 1) = ((ct - 1 : Nat) : Int) := by simp [IntKind.wrap, IntKind.bits, IntKind.signed]; omega
      have H3 := Lib.hid (show ct = 1 ∨ ct = 2 by omega)
      clear hm3 h3 h0
      go_wp2_with fail
      refine cH.mono ?_
      rintro e w1 ⟨rfl, rfl⟩
      clear cH
      go_wp2_with fail
      refine bodyPost_end (results_none rfl _ _ _) rfl ?_
      obtain ⟨h, hct, hz, hi⟩ := H.out
      have h00 : (i : Int) ≠ 0 := fun e => by
        rw [e, hz] at hct
        have := H3.out
        omega
      obtain ⟨hM, hT⟩ := h.put hi (ct - 1)
      rw [vyDown_less h00 (by rw [hct]; exact H3.out), hct]
      refine ⟨rfl, ?_, ?_⟩
      · first | exact hM | simpa using hM
      · first | exact hT | simpa using hT
/-- It comes to the log, if there is a place. -/
theorem vyk_note (h : VyMid w Z tm n cnt ll room ov) (hl : ll.length ≤ 100000) (r : Int) (h0 : r ≠ 0) :
    Calls Tryz.prog 196 #[.pointer (some ⟨Z.t, 0, none⟩), .int .i64 r] w fun e w' => e = .returned (.tuple #[]) ∧ ∃ Z', VyMid w' Z' tm n cnt (vyLl ll room r) room (ov || !decide (ll.length < room)) ∧ VyStep Z w Z' w' := by
  have hd := h.ask (Below.refl _ w).drew
  have hTd : Turn Z.has w w.drew := (Turn.refl Z.has w).drew
  have c2 := h.c2
  have c3 := h.c3
  have hlen := h.log.lenRun 3
  have hrm := h.rm
  go_enter Tryz.func196, Tryz.ntmps196
  by_cases hr : ll.length < room
  · have hr1 : ¬ Z.rv ≤ (ll.length : Int) := by omega
    have hr2 : (ll.length : Int) < Z.rv := by omega
    have h1 := hd.ask ((Below.refl _ w.drew).alloc (Nat.le_refl _) (.cells #[.int .i64 r] 44))
    have hnew := (Blk.new w.drew #[.int .i64 r] 44)
    have c2d := hd.c2
    have H := Lib.hid (And.intro h (And.intro hTd (And.intro hr h0)))
    clear h hTd hr h0 hrm
    go_wp2_with fail
    go_region_held3 (fun w' => w'.cell? ⟨Z.t, 2, none⟩ = some Z.v ∧ w'.cell? ⟨Z.t, 3, none⟩ = some (.int .i64 Z.rv)) (first | exact ⟨c2, c3⟩) (fail)
    go_wp2_with (at_builtin; refine wpList_pushT rfl _ _ rfl h1.log hl w.heap.size 1 r (hnew.cell 0) rfl rfl ?_; intro g k cap w2 hR hT hN; have hh := h1.head.turn hT (fun e => h1.tv e); have d3 := hh.cell 2; have z3 := hh.free 2; simp only [List.getElem?_toArray, List.getElem?_cons_zero, List.getElem?_cons_succ] at d3)
    refine bodyPost_end (results_none rfl _ _ _) rfl ?_
    obtain ⟨h, hTd, hr, h0⟩ := H.out
    have hN2 : ∀ j, (Value.slice (some ⟨g, 0, none⟩) k cap).ownBlock = some j → Z.v.ownBlock = some j ∨ (w.drew.alloc (.cells #[.int .i64 r] 44)).heap.size ≤ j := fun j e => by
      rw [own_slice e] at hN; exact hN
    obtain ⟨hM, hS⟩ := h1.row hR hT hN2
    have hTA : Turn Z.has w (w.drew.alloc (.cells #[.int .i64 r] 44)) := hTd.alloc _
    refine ⟨rfl, _, ?_, (VyStep.ofTurn hTA).trans hS⟩
    have e1 : vyLl ll room r = ll ++ [r] := by unfold vyLl; rw [if_neg h0, if_pos hr]
    have e2 : (ov || !decide (ll.length < room)) = ov := by simp [hr]
    rw [e1, e2]
    exact hM
  · have hr1 : Z.rv ≤ (ll.length : Int) := by omega
    have z4 := hd.head.free 4
    have d4 := hd.head.cell 4
    simp only [List.getElem?_toArray, List.getElem?_cons_zero, List.getElem?_cons_succ] at d4
    have H := Lib.hid (And.intro hd (And.intro hTd (And.intro hr h0)))
    clear h hTd hr h0 hrm hd
    go_wp2_with fail
    go_region_held3 (fun w' => w'.cell? ⟨Z.t, 2, none⟩ = some Z.v ∧ w'.cell? ⟨Z.t, 3, none⟩ = some (.int .i64 Z.rv)) (first | exact ⟨c2, c3⟩) (fail)
    go_wp2_with fail
    refine bodyPost_ret (results_none rfl _ _ _) rfl ?_
    obtain ⟨hd, hTd, hr, h0⟩ := H.out
    obtain ⟨hM, hT⟩ := hd.over true
    refine ⟨rfl, Z, ?_, VyStep.ofTurn (hTd.trans hT fun _ _ e => e)⟩
    have e1 : vyLl ll room r = ll := by unfold vyLl; rw [if_neg h0, if_neg hr]
    have e2 : (ov || !decide (ll.length < room)) = true := by simp [hr]
    rw [e1, e2]
    exact hM
end
section
variable {B mb n lg lg' room : Nat} {X : ArB} {s : ArS} {obs : List Ob} {vl : Value} {f : Int → Value} {adj : Int → List Int} {E E' : Nat → Prop} {T T' : MkB} {c c' : Col} {Z Z' : VyB} {cnt cnt' : Int → Nat} {bt tm : Nat} {wb wr w' : World}
set_option maxRecDepth 100000 in
set_option maxHeartbeats 4000000 in
theorem vy_post (h : VyIn B mb n X s obs vl f adj E T c bt tm cnt lg room wb wr) (x o y : Int) (p q : Bool) (ho : o ∈ refsI obs ∨ o = 0) (hy : y ∈ refsI obs ∨ y = 0) (hb : ∀ y ∈ refsI obs, 1 ≤ y ∧ y ≤ 2048) (hl : lg ≤ 4096) :
    Calls Tryz.prog 190 #[.pointer (some ⟨bt, 0, none⟩), .agg #[.int .i64 x, .int .i64 o, .int .i64 y, .bool p, .bool q]] wr fun e w' =>
    e = .returned (.tuple #[]) ∧ VyIn B mb n X s obs vl f adj E T c bt tm (vyPost cnt p y o) (vyLg lg p y) room wb w' ∧ ∀ k, E k → w'.heap[k]? = wr.heap[k]? := by
  obtain ⟨Z, rfl, hm, h⟩ := h
  have hB1 := (Below.refl wr.heap.size wr).alloc (Nat.le_refl _) (.cells #[.int .i64 x, .int .i64 o, .int .i64 y, .bool p, .bool q] 67)
  have hbx := Blk.new wr #[.int .i64 x, .int .i64 o, .int .i64 y, .bool p, .bool q] 67
  have hP := h.gm.go.ar.at_.fits.p64
  have hbN : ∀ z ∈ refsI obs, 1 ≤ z ∧ z < ((32 * s.P + 1 : Nat) : Int) := fun z hz => by
    obtain ⟨u, hu, rfl⟩ := List.mem_map.1 hz
    obtain ⟨i, hi⟩ := List.mem_iff_getElem?.1 hu
    have h9 := (h.gm.go.ob.at_ i u hi).pos h.gm.go.ar.at_.fits
    exact ⟨(hb _ hz).1, by omega⟩
  have hz0 : cnt 0 = 0 := by
    by_cases e : 0 < cnt 0
    · have := h.vy.inn 0 e; omega
    · omega
  obtain ⟨N, hN⟩ : ∃ N, 32 * s.P + 1 = N := ⟨_, rfl⟩
  have hN4 : N ≤ 4096 := by omega
  have h1 := h.ask hB1
  have hk1 : ∀ k, E k → (wr.alloc (.cells #[.int .i64 x, .int .i64 o, .int .i64 y, .bool p, .bool q] 67)).heap[k]? = wr.heap[k]? := fun k e => hB1.block k (h.gm.ext k (.inl e))
  have hsz : (wr.alloc (.cells #[.int .i64 x, .int .i64 o, .int .i64 y, .bool p, .bool q] 67)).heap.size = wr.heap.size + 1 := by simp
  have hZw : ∀ k, Z.has k → k < wr.heap.size := h.vy.lt
  clear h hB1
  go_enter Tryz.func190, Tryz.ntmps190
  go_upto_region 1 with fail
  generalize hW1 : wr.alloc (.cells #[.int .i64 x, .int .i64 o, .int .i64 y, .bool p, .bool q] 67) = w1 at *
  have a1 := hbx.cell 1
  have a2 := hbx.cell 2
  have a3 := hbx.cell 3
  simp only [List.getElem?_toArray, List.getElem?_cons_zero, List.getElem?_cons_succ] at a1 a2 a3
  cases p with
  | false =>
    have HO := Lib.hid (And.intro h1 (And.intro hk1 hm))
    clear h1 hk1 hm hbN hsz hZw ho hy hb hbx hN hN4 hz0 hP
    go_wp2_with (fail)
    refine bodyPost_ret (results_none rfl _ _ _) rfl ?_
    rw [vyPost_white, vyLg_white]
    exact ⟨rfl, ⟨Z, rfl, HO.out.2.2, HO.out.1⟩, HO.out.2.1⟩
  | true =>
    obtain ⟨ll, hM, hI⟩ := h1.vy.mid
    rw [hN] at hM hI hbN
    have hI2 := hI.post hy hbN (o := o)
    have hran := hI.ran y
    have hpc : vyPost cnt true y o = vyDown (vyUp cnt y) o := if_pos rfl
    have hll : ll.length ≤ 100000 := by have := hI.len; omega
    obtain ⟨j, rfl, hjN⟩ : ∃ j : Nat, o = (j : Int) ∧ j < N := by
      rcases ho with e | e
      · have := hbN o e; exact ⟨o.toNat, by omega, by omega⟩
      · exact ⟨0, by omega, by omega⟩
    have hm3 := hI.most
    -- what is to be shown in the end
    have hfin : ∀ (Z2 : VyB) (w2 : World), VyMid w2 Z2 T.m N (vyPost cnt true y (j : Int)) (vyLl ll room y) room (decide (room < vyLg lg true y)) → VyStep Z w1 Z2 w2 →
        VyIn B mb n X s obs vl f adj E T c Z.t tm (vyPost cnt true y (j : Int)) (vyLg lg true y) room wb w2 ∧ ∀ k, E k → w2.heap[k]? = wr.heap[k]? := fun Z2 w2 h2 hS => by
      have hat := h2.at_ hI2
      rw [← hN] at hat
      obtain ⟨h9, hk⟩ := h1.step hat hS
      exact ⟨⟨Z2, hS.t, hm, h9⟩, fun k e => (hk k e).trans (hk1 k e)⟩
    by_cases e0 : y = 0
    · subst e0
      have cL := vyk_less hM hm3 hz0 hN4 hjN
      have e1 : vyLl ll room 0 = ll := if_pos rfl
      rw [hran, e1, hpc, vyUp_zero] at hfin
      have hpz : vyPost cnt true 0 (j : Int) = vyDown cnt (j : Int) := by rw [hpc, vyUp_zero]
      have HF := Lib.hid (And.intro hfin hpz)
      clear hfin hpz hI2 hran hpc hM hI h1 hk1 hm hbN ho hy hb hN hN4 hz0 hP hm3 hll
      go_wp2_with fail
      refine cL.mono ?_
      rintro e w2 ⟨rfl, hM2, hT2⟩
      clear cL
      go_wp2_with fail
      refine bodyPost_end (results_none rfl _ _ _) rfl ?_
      rw [HF.out.2]
      exact ⟨rfl, HF.out.1 Z _ (by simpa using hM2) (VyStep.ofTurn hT2)⟩
    · obtain ⟨i, rfl, hiN⟩ : ∃ i : Nat, y = (i : Int) ∧ i < N := by
        have := hbN y (hy.resolve_right e0); exact ⟨y.toNat, by omega, by omega⟩
      have cM := vyk_more hM hm3 hN4 hiN e0
      have hz1 : vyUp cnt (i : Int) 0 = 0 := by rw [vyUp_ne (fun e => e0 e.symm)]; exact hz0
      have hm31 := vyUp_most cnt hm3 (i : Int)
      rw [hran, hpc] at hfin
      have hne0 : ((i : Int) != 0) = true := by simp; omega
      have hi0 : (0 : Int) ≤ (i : Int) := by omega
      have HF := Lib.hid (And.intro hfin hpc)
      have HX := Lib.hid (And.intro hll (And.intro hz1 (And.intro hm31 (And.intro hN4 (And.intro hjN (And.intro hbx (And.intro hZw hsz)))))))
      have H0 := Lib.hid e0
      clear hfin hI2 hran hpc hM hI h1 hk1 hm hbN ho hy hb hN hN4 hz0 hP hm3 hll hz1 hm31 hbx hsz hZw
      go_wp2_with fail
      refine cM.mono ?_
      rintro e w2 ⟨rfl, hM2, hT2⟩
      have hbx2 := HX.out.2.2.2.2.2.1.turn hT2 (fun e => by have := HX.out.2.2.2.2.2.2.1 _ e; omega)
      have cN := vyk_note hM2 HX.out.1 (i : Int) H0.out
      have b1 := hbx2.cell 1
      have b2 := hbx2.cell 2
      simp only [List.getElem?_toArray, List.getElem?_cons_zero, List.getElem?_cons_succ] at b1 b2
      have H2 := Lib.hid (And.intro hT2 hbx2)
      clear cM a1 a2 a3 hM2 hT2 hbx2
      go_wp2_with fail
      refine cN.mono ?_
      rintro e w3 ⟨rfl, Z3, hM3, hS3⟩
      have hbx3 := H2.out.2.turn hS3.turn (fun e => by have := HX.out.2.2.2.2.2.2.1 _ e; omega)
      have cL := vyk_less hM3 HX.out.2.2.1 HX.out.2.1 HX.out.2.2.2.1 HX.out.2.2.2.2.1
      rw [hS3.t] at cL
      have b3 := hbx3.cell 1
      simp only [List.getElem?_toArray, List.getElem?_cons_zero, List.getElem?_cons_succ] at b3
      have H3 := Lib.hid hS3
      clear cN b1 b2 hM3 hS3 hbx3
      go_wp2_with fail
      refine cL.mono ?_
      rintro e w4 ⟨rfl, hM4, hT4⟩
      clear cL
      go_wp2_with fail
      refine bodyPost_end (results_none rfl _ _ _) rfl ?_
      have hnz : decide ((i : Int) = 0) = false := decide_eq_false H0.out
      rw [HF.out.2]
      exact ⟨rfl, HF.out.1 Z3 _ (by rw [hnz]; exact hM4) (((VyStep.ofTurn H2.out.1).trans H3.out).trans (VyStep.ofTurn hT4))⟩
end
end Go.Proofs.YtooddbhlanjfbaaGreatDoor

namespace Go.Proofs.YtooddbhlanjfbaaGreatDoor
open Go Go.RowKit Go.Shelf Go.MuLone Go.RwLone
set_option linter.unusedSimpArgs false
set_option linter.unusedVariables false
attribute [local go_sem] Oper.semAt_some

/-- Cells that become noughts, each in turn. -/
theorem Blk.noughts {b : Nat} {T : TypeId} : ∀ (m o : Nat) (cs : Array Value) (w : World), Blk w b cs T → o + m ≤ cs.size → ∃ cs', Blk (w.setCells b o (List.replicate m (.int .u8 0))) b cs' T ∧ cs'.size = cs.size ∧ ∀ j, cs'[j]? = if o ≤ j ∧ j < o + m then some (.int .u8 0) else cs[j]?
  | 0, o, cs, w, h, _ => ⟨cs, h, rfl, fun j => by rw [if_neg (by omega)]⟩
  | m + 1, o, cs, w, h, hm => by
    obtain ⟨cs', h1, h2, h3⟩ := Blk.noughts m (o + 1) (cs.setIfInBounds o (.int .u8 0)) (w.setCell ⟨b, o, none⟩ (.int .u8 0)) (h.setAt o _) (by simp; omega)
    refine ⟨cs', h1, by rw [h2]; simp, fun j => ?_⟩
    rw [h3]
    by_cases e : j = o
    · subst e
      rw [if_neg (by omega), if_pos (by omega)]; simp [show j < cs.size by omega]
    · rw [Array.getElem?_setIfInBounds_ne (fun e2 => e e2.symm)]
      by_cases e2 : o + 1 ≤ j ∧ j < o + 1 + m
      · rw [if_pos e2, if_pos (by omega)]
      · rw [if_neg e2, if_neg (by omega)]
theorem wpList_clear_runV {P : Program} (w : World) {ops : Array Oper} {rest : List Oper} {o : Oper} {a : Act} {Q : Exit → Act → World → Prop} (hgd : o.guard = none) (d : Operand) (t : TypeId)
    (ho : o.op = .call { callee := .builtin .clear, args := #[d], argTypes := #[t] }) (v : Value) (hd : a.eval d = v) {v' : Value} {w' : World}
    (hr : (Builtin.clear_ #[t] o.type #[v]).run P w = .ok v' w') (h : wpList P ops Q rest (a.put o.dst v') w') : wpList P ops Q (o :: rest) a w :=
  wpList_plain hgd fun _ hK => by
    unfold Oper.wp execOp
    simp only [ho, resolve, invoke, builtin, Sem.run_bind, Sem.run_pure, Result.andThen_ok, List.map_toArray, List.map_cons, List.map_nil, hd, hr]
    exact hK _ _ h
theorem zero_u8V (w : World) : (zeroValue 5).run Tryz.prog w = .ok (.int .u8 0) w := by kernel_rfl
/-- Those of a list that count are shaded. -/
def vyPart (c : Col) (cnt : Int → Nat) (l : List Int) : Col := ⟨fun y => c.ma y || (decide (0 < cnt y) && decide (y ∈ l)), c.sc⟩
theorem vyPart_nil (c : Col) (cnt : Int → Nat) : vyPart c cnt [] = c := by unfold vyPart; simp
theorem vyPart_snoc (c : Col) (cnt : Int → Nat) (l : List Int) (r : Int) : (if 0 < cnt r then (vyPart c cnt l).shade r else vyPart c cnt l) = vyPart c cnt (l ++ [r]) := by
  split
  · rename_i hp
    unfold vyPart Col.shade
    congr 1
    funext y
    by_cases e : y = r
    · subst e; simp [updI_at, hp]
    · simp [updI_ne e, e]
  · rename_i hp
    unfold vyPart
    congr 1
    funext y
    by_cases e : y = r
    · subst e; simp [hp]
    · simp [e]
theorem vyPart_all (c : Col) (cnt : Int → Nat) (l : List Int) (h : ∀ y, 0 < cnt y → y ∈ l) : vyPart c cnt l = vyCol c cnt := by
  unfold vyPart vyCol
  congr 1
  funext y
  by_cases e : 0 < cnt y
  · simp [e, h y e]
  · simp [e]
section
variable {B mb n lg lg' room : Nat} {X : ArB} {s : ArS} {obs : List Ob} {vl : Value} {f : Int → Value} {adj : Int → List Int} {E E' : Nat → Prop} {T T' : MkB} {c c' : Col} {Z Z' : VyB} {cnt cnt' : Int → Nat} {bt tm : Nat} {wb wr w' : World}
set_option maxRecDepth 100000 in
set_option maxHeartbeats 4000000 in
theorem vy_reset (h : VyIn B mb n X s obs vl f adj E T c bt tm cnt lg room wb wr) :
    Calls Tryz.prog 194 #[.pointer (some ⟨bt, 0, none⟩)] wr fun e w' =>
    e = .returned (.tuple #[]) ∧ VyIn B mb n X s obs vl f adj E T c bt tm (fun _ => 0) 0 room wb w' ∧ ∀ k, E k → w'.heap[k]? = wr.heap[k]? := by
  obtain ⟨Z, rfl, hm, h⟩ := h
  obtain ⟨ll, hM, hI⟩ := h.vy.mid
  obtain ⟨N, hN⟩ : ∃ N, 32 * s.P + 1 = N := ⟨_, rfl⟩
  rw [hN] at hM
  obtain ⟨cur, k1, k2, k3⟩ := hM.cts
  have hcl : ∀ ty, (Builtin.clear_ #[23] ty #[.slice (some ⟨Z.k, 0, none⟩) N N]).run Tryz.prog wr = .ok (.tuple #[]) (wr.setCells Z.k 0 (List.replicate N (.int .u8 0))) :=
    fun ty => Lib.run_clear_slice wr _ _ ty _ Tryz.underlying23 zero_u8V rfl rfl Z.k 0 N _ (by omega) (fun j hj => by
      rw [Nat.zero_add, k1.cell j, k3 j hj]; rfl) (fun j hj => k1.free _)
  have hT1 : Turn (fun k => k = Z.k) wr (wr.setCells Z.k 0 (List.replicate N (.int .u8 0))) := Turn.setCells _ _ _ _ (Turn.refl _ wr) rfl
  obtain ⟨cs', c1, c2, c3⟩ := Blk.noughts N 0 cur wr k1 (by omega)
  have hM1 : VyMid (wr.setCells Z.k 0 (List.replicate N (.int .u8 0))) Z T.m N (fun _ => 0) ll room (decide (room < lg)) :=
    ⟨hM.head.turn hT1 hM.tk, ⟨cs', c1, by omega, fun i hi => by rw [c3, if_pos (by omega)]; rfl⟩, hM.log.turn hT1 (fun k e e2 => hM.kv ((show k = Z.k from e2) ▸ e)), hM.tk, hM.tv, hM.kv, hM.rm⟩
  have a1 := hM.head.cell 1
  have b2 := hM1.head.cell 2
  have f2 := hM1.head.free 2
  generalize hw1 : wr.setCells Z.k 0 (List.replicate N (.int .u8 0)) = w1 at *
  obtain ⟨v0, ⟨pp, cp, hsl⟩, hv0, hR0, hO0⟩ : ∃ v0, (∃ p cp, v0 = .slice p 0 cp) ∧ (∀ W, (Instr.slice 33 Z.v none (some (.int .i64 0)) none).run Tryz.prog W = .ok v0 W) ∧ RefRow w1 v0 [] ∧ ∀ k, v0.ownBlock = some k → Z.v.ownBlock = some k := by
    rcases hM1.log.is with ⟨e, _⟩ | ⟨g, cap, cur, e, hg, hlc, hcm, hcs, _⟩
    · exact ⟨.slice none 0 0, ⟨_, _, rfl⟩, by rw [e]; intro W; kernel_rfl, World.ownsRow_nil _ _ _ _, fun k e2 => by cases e2⟩
    · refine ⟨.slice (some ⟨g, 0, none⟩) 0 cap, ⟨_, _, rfl⟩, ?_, ⟨by simp, .inr ⟨g, cap, cur, rfl, Nat.zero_le _, hg, Nat.zero_le _, by unfold maxLen; omega, by simp; omega, by simp⟩⟩, fun k e2 => by rw [e]; exact e2⟩
      rw [e]; intro W
      simp [go_sem]
  subst hsl
  obtain ⟨hM2, hS2⟩ := hM1.row (w1 := w1) (v := .slice pp 0 cp) (l := []) hR0 (Turn.refl _ w1) (fun k e => .inl (hO0 k e))
  have b4 := hM2.head.cell 4
  have f4 := hM2.head.free 4
  obtain ⟨hM3, hT3⟩ := hM2.over false
  have hnew : ∀ k, ({ Z with v := .slice pp 0 cp } : VyB).has k → Z.has k ∨ wr.heap.size ≤ k := fun k e => by
    rcases e with e | e | e
    · exact .inl (.inl e)
    · exact .inl (.inr (.inl e))
    · exact .inl (.inr (.inr (hO0 k e)))
  have hold : ∀ k, ({ Z with v := .slice pp 0 cp } : VyB).has k → Z.has k := fun k e => by
    rcases e with e | e | e
    · exact .inl e
    · exact .inr (.inl e)
    · exact .inr (.inr (hO0 k e))
  have hst : VyStep Z wr { Z with v := .slice pp 0 cp } ((w1.setCell ⟨Z.t, 2, none⟩ (.slice pp 0 cp)).setCell ⟨Z.t, 4, none⟩ (.bool false)) :=
    ⟨rfl, hnew, ((hT1.mono (fun k _ e => (.inr (.inl e) : Z.has k))).trans hS2.turn (fun k _ e => e)).trans (hT3.mono (fun k _ e => hold k e)) (fun k _ e => e)⟩
  have hat := hM3.at_ (lg := 0) (R := refsI obs) (by
    have := VyInv.none N (refsI obs) room
    exact this)
  have HF := Lib.hid (And.intro h (And.intro hat (And.intro hst (And.intro hm hN))))
  simp only [List.getElem?_toArray, List.getElem?_cons_zero, List.getElem?_cons_succ] at a1 b2 b4
  have b2b : w1.cell? ⟨Z.t, 2, none⟩ = some Z.v := b2
  clear h hM hI hM1 hM2 hM3 hT1 hT3 hS2 hst hat hm hN k1 k2 k3 c1 c2 c3 hR0 hO0 hnew hold
  go_enter Tryz.func194, Tryz.ntmps194
  go_wp2_with (at_builtin; refine wpList_clear_runV _ rfl _ 23 rfl _ rfl (hcl _) ?_; rw [hw1])
  refine bodyPost_end (results_none rfl _ _ _) rfl ?_
  obtain ⟨h, hat, hst, hm, hN⟩ := HF.out
  subst hN
  obtain ⟨h9, hk⟩ := h.step hat hst
  exact ⟨rfl, ⟨{ Z with v := .slice pp 0 cp }, rfl, hm, h9⟩, hk⟩
set_option maxRecDepth 100000 in
set_option maxHeartbeats 4000000 in
theorem vy_shade (h : VyIz B mb n X s obs vl f adj E T c Z cnt lg room wb wr) (hb : ∀ y ∈ refsI obs, 1 ≤ y ∧ y ≤ 2048) (r : Int) :
    Calls Tryz.prog 198 #[.pointer (some ⟨Z.t, 0, none⟩), .int .i64 r] wr fun e w' =>
    e = .returned (.tuple #[]) ∧ ∃ T', T'.m = T.m ∧ VyIz B mb n X s obs vl f adj E T' (if 0 < cnt r then c.shade r else c) Z cnt lg room wb w' ∧ ∀ k, (E k ∨ Z.has k) → w'.heap[k]? = wr.heap[k]? := by
  obtain ⟨q, hq⟩ : ∃ q : Nat, cnt r = q := ⟨_, rfl⟩
  have cC := vy_count ⟨Z, rfl, rfl, h⟩ r (q : Int) (by rw [hq])
  have H := Lib.hid (And.intro h (And.intro hb hq))
  rw [hq]
  clear h hb hq
  go_enter Tryz.func198, Tryz.ntmps198
  go_wp2_with fail
  refine cC.mono ?_
  rintro e w1 ⟨rfl, hB⟩
  have h1 := H.out.1.ask hB
  have a0 := h1.vy.head.cell 0
  simp only [VyB.cells, List.getElem?_toArray, List.getElem?_cons_zero] at a0
  by_cases hp : 0 < q
  · have hpI : ¬ (q : Int) = 0 := by omega
    have hR := (H.out.1.vy.inn r (by rw [H.out.2.2]; exact hp)).1
    have hxb := H.out.2.1 r hR
    have cS := h1.gm.shade r hR hxb.1 hxb.2
    have H1 := Lib.hid (And.intro h1 (fun k (e : E k ∨ Z.has k) => hB.block k (H.out.1.gm.ext k e)))
    clear cC hB h1 hR hxb
    go_wp2_with fail
    refine cS.mono ?_
    rintro e w2 ⟨rfl, T', hm, hG, hk⟩
    obtain ⟨h2, hE2⟩ := H1.out.1.went hm hG hk
    have H2 := Lib.hid (And.intro hm (And.intro h2 (fun k (e : E k ∨ Z.has k) => (hk k e).trans (H1.out.2 k e))))
    clear cS hm hG hk h2 hE2 a0
    go_wp2_with fail
    refine bodyPost_end (results_none rfl _ _ _) rfl ?_
    exact ⟨rfl, T', H2.out⟩
  · have hpI : ¬ (0 : Int) < (q : Int) := by omega
    have H1 := Lib.hid (And.intro h1 (fun k (e : E k ∨ Z.has k) => hB.block k (H.out.1.gm.ext k e)))
    clear cC hB h1 a0
    go_wp2_with fail
    refine bodyPost_end (results_none rfl _ _ _) rfl ?_
    exact ⟨rfl, T, rfl, H1.out⟩

def natI (j : Nat) : List Int := (List.range j).map fun (i : Nat) => (i : Int)
theorem natI_snoc (j : Nat) : natI (j + 1) = natI j ++ [(j : Int)] := by unfold natI; rw [List.range_succ, List.map_append]; rfl
theorem natI_mem {j : Nat} {y : Int} (h0 : 0 ≤ y) (h : y < (j : Int)) : y ∈ natI j := List.mem_map.2 ⟨y.toNat, List.mem_range.2 (by omega), by omega⟩
set_option maxRecDepth 100000 in
set_option maxHeartbeats 4000000 in
theorem vy_remark {w0 : World} (h : VyIn B mb n X s obs vl f adj E T c bt tm cnt lg room wb w0) :
    Calls Tryz.prog 192 #[.pointer (some ⟨bt, 0, none⟩)] w0 fun e w' =>
    e = .returned (.tuple #[]) ∧ ∃ T', VyIn B mb n X s obs vl f adj E T' (vyCol c cnt) bt tm cnt lg room wb w' ∧ ∀ k, E k → w'.heap[k]? = w0.heap[k]? := by
  obtain ⟨Z, rfl, hm, h⟩ := h
  have hbd := refs_bound h.gm.go.ob h.gm.go.ar.at_.fits
  have hP := h.gm.go.ar.at_.fits.p64
  have c2 := h.vy.head.cell 2
  simp only [VyB.cells, List.getElem?_toArray, List.getElem?_cons_zero, List.getElem?_cons_succ] at c2
  obtain ⟨ll, hll, hlen, hpos, hsub⟩ := h.vy.log
  have hl6 := hll.lenRun 3
  obtain ⟨Ln, hLn⟩ : ∃ Ln, ll.length = Ln := ⟨_, rfl⟩
  rw [hLn] at hl6
  obtain ⟨N, hN⟩ : ∃ N, 32 * s.P + 1 = N := ⟨_, rfl⟩
  have hLm : Ln ≤ 9223372036854775807 := by
    rcases hll.is with ⟨_, e⟩ | ⟨g, cap, cur, hv, hg, hlc, hcm, _⟩
    · rw [← hLn, e]; simp
    · omega
  have hinn := h.vy.inn
  rw [hN] at hinn
  have HB := Lib.hid (And.intro h (And.intro hbd (And.intro hll (And.intro hLn (And.intro hpos (And.intro hN (And.intro hm hinn)))))))
  have hN4 : N ≤ 4096 := by omega
  obtain ⟨q, hq⟩ : ∃ q, decide (room < lg) = q := ⟨_, rfl⟩
  have HQ := Lib.hid hq
  clear hll hlen hpos hsub hLn hbd hN hP hinn hq hm h
  go_enter Tryz.func192, Tryz.ntmps192
  go_wp2_with fail
  clear hl6 c2
  go_loopw [10] (fun v10 V => ∃ (j : Nat) (T1 : MkB), j ≤ Ln ∧ v10 = .int .i64 (j : Int) ∧ T1.m = tm ∧ VyIz B mb n X s obs vl f adj E T1 (vyPart c cnt (ll.take j)) Z cnt lg room wb V ∧ ∀ k, (E k ∨ Z.has k) → V.heap[k]? = w0.heap[k]?) (fun v10 _ => Ln - (intOf v10).toNat)
  case atStart => exact ⟨0, T, Nat.zero_le _, rfl, HB.out.2.2.2.2.2.2.1, by
      rw [List.take_zero, vyPart_nil]
      exact HB.out.1, fun _ _ => rfl⟩
  case round =>
  obtain ⟨j, T1, hj, rfl, hm1, h1, hk1⟩ := hrel
  have hj0 : (0 : Int) ≤ (j : Int) := by omega
  by_cases hlt : j < Ln
  · have hj1 : (j : Int) < (Ln : Int) := by omega
    have hRl : RefRow wr Z.v ll := HB.out.2.2.1.keepG fun k e => hk1 k (.inr (.inr (.inr e)))
    obtain ⟨y, hy⟩ : ∃ y, ll[j]? = some y := ⟨_, List.getElem?_eq_getElem (by have := HB.out.2.2.2.1; omega)⟩
    rcases hRl.is with ⟨_, e⟩ | ⟨g, cap, cur, hv, hg, hlc, hcm, hcs, hcell⟩
    · rw [e] at hy; simp at hy
    have hca : wr.cell? ⟨g, j, none⟩ = some (.int .i64 y) := by
      rw [hv] at hRl; exact row_cellB hRl hy
    rw [HB.out.2.2.2.1] at hv
    have cL := vy_shade h1 HB.out.2.1 y
    rw [vyPart_snoc, ← take_nextR hy] at cL
    have H1 := Lib.hid (And.intro hm1 (And.intro hk1 hv))
    clear hRl hg hlc hcm hcs hcell hm1 h1 hk1 hy
    rw [hv]
    go_wp2_with fail
    refine cL.mono ?_
    rintro e V2 ⟨rfl, T2, hm2, h2, hk2⟩
    have H2 := Lib.hid (And.intro (hm2.trans H1.out.1) (And.intro h2 (fun k e => (hk2 k e).trans (H1.out.2.1 k e))))
    clear cL hm2 h2 hk2 hca
    go_wp2_with fail
    go_roundw
    case rel => exact ⟨j + 1, T2, hlt, by go_num, H2.out.1, H2.out.2.1, H2.out.2.2⟩
    case measure => simp [intOf]; omega
  · have hj1 : ¬ (j : Int) < (Ln : Int) := by omega
    obtain rfl : j = Ln := by omega
    have c4 := h1.vy.head.cell 4
    have c1 := h1.c1
    simp only [VyB.cells, List.getElem?_toArray, List.getElem?_cons_zero, List.getElem?_cons_succ] at c4
    rw [HQ.out] at c4
    rw [HB.out.2.2.2.2.2.1] at c1
    rw [List.take_of_length_le (by have := HB.out.2.2.2.1; omega)] at h1
    cases q with
    | false =>
      have hall : ∀ y, 0 < cnt y → y ∈ ll := HB.out.2.2.2.2.1 (by have := of_decide_eq_false HQ.out; omega)
      rw [vyPart_all c cnt ll hall] at h1
      have H1 := Lib.hid (And.intro hm1 (And.intro h1 hk1))
      clear hm1 h1 hk1 hlt hj hj1 c1 hall
      go_wp2_with fail
      refine bodyPost_ret (results_none rfl _ _ _) rfl ?_
      exact ⟨rfl, T1, ⟨Z, rfl, H1.out.1, H1.out.2.1⟩, fun k e => H1.out.2.2 k (.inl e)⟩
    | true =>
      have H1 := Lib.hid (And.intro hm1 (And.intro h1 hk1))
      clear hm1 h1 hk1 hlt hj hj1
      go_wp2_with fail
      clear c4 c1
      go_loopw [28] (fun v28 V => ∃ (i : Nat) (T1 : MkB), i ≤ N ∧ v28 = .int .i64 (i : Int) ∧ T1.m = tm ∧ VyIz B mb n X s obs vl f adj E T1 (vyPart c cnt (ll ++ natI i)) Z cnt lg room wb V ∧ ∀ k, (E k ∨ Z.has k) → V.heap[k]? = w0.heap[k]?) (fun v28 _ => N - (intOf v28).toNat)
      case atStart => exact ⟨0, T1, Nat.zero_le _, rfl, H1.out.1, by
          rw [show natI 0 = [] from rfl, List.append_nil]
          exact H1.out.2.1, H1.out.2.2⟩
      case round =>
      obtain ⟨i, T2, hi, rfl, hm2, h2, hk2⟩ := hrel
      have hi0 : (0 : Int) ≤ (i : Int) := by omega
      by_cases hlt : i < N
      · have hi1 : (i : Int) < (N : Int) := by omega
        have cL := vy_shade h2 HB.out.2.1 (i : Int)
        rw [vyPart_snoc, List.append_assoc, ← natI_snoc] at cL
        have H2 := Lib.hid (And.intro hm2 hk2)
        clear hm2 h2 hk2
        go_wp2_with fail
        refine cL.mono ?_
        rintro e V3 ⟨rfl, T3, hm3, h3, hk3⟩
        have H3 := Lib.hid (And.intro (hm3.trans H2.out.1) (And.intro h3 (fun k e => (hk3 k e).trans (H2.out.2 k e))))
        clear cL hm3 h3 hk3
        go_wp2_with fail
        go_roundw
        case rel => exact ⟨i + 1, T3, hlt, by go_num, H3.out.1, H3.out.2.1, H3.out.2.2⟩
        case measure => simp [intOf]; omega
      · have hi1 : ¬ (i : Int) < (N : Int) := by omega
        obtain rfl : i = N := by omega
        have hall : ∀ y, 0 < cnt y → y ∈ ll ++ natI i := fun y hy => by
          have h9 := HB.out.2.2.2.2.2.2.2 y hy
          exact List.mem_append_right _ (natI_mem (by omega) (by omega))
        rw [vyPart_all c cnt _ hall] at h2
        have H2 := Lib.hid (And.intro hm2 (And.intro h2 hk2))
        clear hm2 h2 hk2 hlt hi hi1 hall
        go_wp2_with fail
        refine bodyPost_end (results_none rfl _ _ _) rfl ?_
        exact ⟨rfl, T2, ⟨Z, rfl, H2.out.1, H2.out.2.1⟩, fun k e => H2.out.2.2 k (.inl e)⟩
end
end Go.Proofs.YtooddbhlanjfbaaGreatDoor

namespace Go.Proofs.YtooddbhlanjfbaaGreatDoor
end Go.Proofs.YtooddbhlanjfbaaGreatDoor
