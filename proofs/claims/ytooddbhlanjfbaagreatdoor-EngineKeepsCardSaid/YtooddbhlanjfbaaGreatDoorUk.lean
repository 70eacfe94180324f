/- A marker's Count, Drained and refill; at this seat's numbers. A marker beside its arena; refill; at this seat's numbers. Points: its iterator, where each element is known to be one of the fields that aren't 0; at this seat's numbers. A marker scans an object; at this seat's numbers. A marker's Trace; at this seat's numbers. New; the law's fit; at this seat's numbers. -/
import Derived.Test.YtooddbhlanjfbaaGreatDoorGmI
import Derived.Test.YtooddbhlanjfbaaGreatDoorGoB
import Derived.Test.YtooddbhlanjfbaaGreatDoorUh
import Derived.Deep.LoopGhost
namespace Go.Proofs.YtooddbhlanjfbaaGreatDoor
open Go Go.RowKit Go.Shelf Go.MuLone Go.RwLone
set_option linter.unusedSimpArgs false
set_option linter.unusedVariables false
attribute [local go_sem] Oper.semAt_some

theorem elems_nodup (S : Nat → Bool) (n : Nat) : (elems S n).Nodup := by unfold elems; exact List.nodup_range.filter _
theorem soL_mem {f : Int → Bool} {S : Nat → Bool} (hS : ∀ k : Nat, f (k : Int) = true → S k = true) {N : Nat} (hn : ∀ i, S i = true → i < N) (k : Nat) : k ∈ soL f (elems S N) ↔ f (k : Int) = true := by
  unfold soL elems
  rw [List.mem_filter, List.mem_filter, List.mem_range]
  exact ⟨fun h => h.2, fun h => ⟨⟨hn k (hS k h), hS k h⟩, h⟩⟩
theorem soL_nodup (f : Int → Bool) (S : Nat → Bool) (n : Nat) : (soL f (elems S n)).Nodup := by unfold soL; exact (elems_nodup S n).filter _
section
variable {w wr w' : World} {T : MkB} {X : ArB} {s : ArS} {S S2 : Nat → Bool} {c : Col}
theorem MkSees.maS (h : MkSees w T X s S S2 c) : ∀ k : Nat, c.ma (k : Int) = true → S k = true := fun k hk => by rw [h.ma, inS_nat] at hk; exact hk
theorem MkSees.greyS (h : MkSees w T X s S S2 c) : ∀ k : Nat, greyC c (k : Int) = true → S k = true := fun k hk => h.maS k (by unfold greyC at hk; cases hm : c.ma (k : Int) with | true => rfl | false => rw [hm] at hk; cases hk)
theorem MkSees.nonneg (h : MkSees w T X s S S2 c) {x : Int} (hx : c.ma x = true) : ∃ k : Nat, x = (k : Int) := by
  rw [h.ma] at hx
  have : 0 ≤ x := by have : 0 ≤ x ∧ S x.toNat = true := by simpa [inS] using hx
                     exact this.1
  exact ⟨x.toNat, by omega⟩
theorem toldW_facts (m f : Nat) (w : World) : (toldWorld m f w).cell? ⟨w.heap.size, 0, none⟩ = some (.pointer (some ⟨m, 0, none⟩)) ∧ (toldWorld m f w).cell? ⟨w.heap.size + 1, 0, none⟩ = some (.func (.func f) #[] #[]) ∧ Below w.heap.size w (toldWorld m f w) ∧ (toldWorld m f w).heap.size = w.heap.size + 2 := by
  have hB1 := (Below.refl w.heap.size w).alloc (Nat.le_refl _) (.cells #[.pointer (some ⟨m, 0, none⟩)] 37)
  have hB2 := hB1.alloc (by simp) (.cells #[.func (.func f) #[] #[]] 108)
  have h1 := (Blk.new w #[.pointer (some ⟨m, 0, none⟩)] 37).alloc (.cells #[.func (.func f) #[] #[]] 108)
  have h2 := Blk.new (w.alloc (.cells #[.pointer (some ⟨m, 0, none⟩)] 37)) #[.func (.func f) #[] #[]] 108
  rw [World.size_alloc] at h2
  exact ⟨h1.cell 0, h2.cell 0, hB2, by unfold toldWorld; simp⟩

set_option maxRecDepth 100000 in
set_option maxHeartbeats 4000000 in
theorem mkCount (h : MkSees wr T X s S S2 c) (hT : TabAt wr) (n : Nat) (hn : (soL c.ma (elems S T.n)).length = n) : Calls Tryz.prog 32 #[.pointer (some ⟨T.m, 0, none⟩)] wr fun e w' =>
    e = .returned (.int .i64 (n : Int)) ∧ Below wr.heap.size wr w' := by
  obtain ⟨M, hM⟩ : ∃ M : Nat, 10 ≤ M := ⟨10, Nat.le_refl _⟩
  have HC := Lib.hid hn
  clear hn
  have hB1 := (Below.refl wr.heap.size wr).alloc (Nat.le_refl _) (.cells #[.int .i64 0] 3)
  have h1 := h.below hB1
  have hT1 : TabAt (wr.alloc (.cells #[.int .i64 0] 3)) := fun j hj => cell_allocKeep (hT j hj) _
  have hk := Blk.new wr #[.int .i64 0] 3
  have hs1 : (wr.alloc (.cells #[.int .i64 0] 3)).heap.size = wr.heap.size + 1 := by simp
  have HS1 := Lib.hid hs1
  refine calls_of_wp_marks Tryz.func32 rfl M ?_
  simp only [Tryz.ntmps32, List.size_toArray, List.length_cons, List.length_nil, Nat.reduceAdd, Nat.reduceSub, Array.replicate_succ, Array.replicate_zero, List.push_toArray, List.append_toArray, List.nil_append, List.cons_append]
  clear hs1
  gi_wp2_with fail
  refine ⟨trivial, fun h => (by cases h), ?_⟩
  generalize wr.alloc (.cells #[.int .i64 0] 3) = W1 at *
  refine (callsIn_wide.2 (allm_any T.m W1)).mono ?_
  rintro e w' ⟨rfl, rfl⟩
  obtain ⟨e0, e1, hB2, hs2⟩ := toldW_facts T.m 23 W1
  have hs1 := HS1.out
  have h7 := h1.below hB2
  have hT7 : TabAt (toldWorld T.m 23 W1) := fun j hj => (hB2.cell (p := ⟨1, j, none⟩) hT1.lt).trans (hT1 j hj)
  have hk7 := hk.turn (Turn.ofBelow hB2) (fun e => by omega)
  have hb7 := hB1.trans (hB2.mono (by omega))
  have hX := Lib.hid (And.intro e0 e1)
  have HS2 := Lib.hid (And.intro hs1 hs2)
  clear e0 e1 hs1 hs2 hB2 h1 hT1
  gi_wp2_with fail
  obtain ⟨hs1, hs2⟩ := HS2.out
  obtain ⟨e0, e1⟩ := hX.out
  generalize toldWorld T.m 23 W1 = V7 at *
  have hlt7 := h7.lt
  have hXlt7 := h7.ar.lt
  have hTlt7 := hT7.lt
  have hlt := h.lt
  have hXlt := h.ar.lt
  have hTlt := hT.lt
  refine wpIn_rangeO rfl (by omega) (gf := 86) (lb := #[.pointer (some ⟨W1.heap.size, 0, none⟩), .pointer (some ⟨W1.heap.size + 1, 0, none⟩)]) rfl trivial (enters_of Tryz.func86 (by kernel_rfl) rfl)
    (told_seq (M - 1) (by omega) 23 c.ma asks_marked (enters_of Tryz.func23 (by kernel_rfl) rfl) h7.maS W1.heap.size V7 h7 hT7 e0 e1) KpMk.trans
    (fun V l o hl => KpMk.putObj (n0 := V7.heap.size) hlt7 hXlt7 (by omega) (by omega) V l o hl) (Below.refl _ _) (fun _ => rfl)
    (fun st V => Blk V wr.heap.size #[.int .i64 (st.1.length : Int)] 3 ∧ Below wr.heap.size wr V ∧ V7.heap.size ≤ V.heap.size)
    (fun c st V => False)
    (fun s V V' row hs hg hr => ⟨hs.1.kept hg (fun r e => (hr r e).2), (ownFrom_below (β := Unit) (Nat.le_refl _) (by omega)) () V V' row hs.2.1 hg hr, Nat.le_trans hs.2.2 hg.size⟩)
    (fun c s V V' row hs hg hr => hs)
    ⟨hk7, hb7, Nat.le_refl _⟩ ?a1 ?assign ?body ?done ?stop
  case assign =>
    intro l0 x W K hK
    unfold tmArgs
    gi_wp2
    exact hK
  case body =>
    rintro l0 pre O x V ⟨hk, hbl, hVs⟩ hpl
    have ck := hk.cell 0
    have zk := hk.free 0
    simp only [List.getElem?_toArray, List.getElem?_cons_zero] at ck
    have hTn : Turn (fun k => k = wr.heap.size) V (V.setCell ⟨wr.heap.size, 0, none⟩ (.int .i64 ((pre.length : Int) + 1))) := (Turn.refl _ V).set _ _ (.inr rfl)
    have hkp : KpMk T X W1.heap.size V (V.setCell ⟨wr.heap.size, 0, none⟩ (.int .i64 ((pre.length : Int) + 1))) := KpMk.ofTurn hTn (fun k hk => ⟨by have := hlt7 k hk; omega, fun e => by have := hlt k hk; omega⟩) (fun k hk => ⟨by have := hXlt7 k hk; omega, fun e => by have := hXlt k hk; omega⟩) (by omega) (by omega) (by omega) (by omega) (by omega)
    have hbl2 := hbl.setCell (p := ⟨wr.heap.size, 0, none⟩) (Nat.le_refl _) (.int .i64 ((pre.length : Int) + 1))
    have hk2 : Blk (V.setCell ⟨wr.heap.size, 0, none⟩ (.int .i64 ((pre.length : Int) + 1))) wr.heap.size #[.int .i64 ((pre ++ [x]).length : Int)] 3 := by
      refine (hk.setAt 0 _).is ?_
      have e : (((pre ++ [x]).length : Nat) : Int) = (pre.length : Int) + 1 := by simp
      rw [e]; simp
    have hO : Owned V7.heap.size O O V (V.setCell ⟨wr.heap.size, 0, none⟩ (.int .i64 ((pre.length : Int) + 1))) := Owned.ofTurn hTn (fun k e => by omega)
    have HG := Lib.hid (And.intro hk2 (And.intro hbl2 (show V7.heap.size ≤ (V.setCell ⟨wr.heap.size, 0, none⟩ (.int .i64 ((pre.length : Int) + 1))).heap.size by simpa using hVs)))
    have HKP := Lib.hid (And.intro hkp hO)
    have hpl2 : (pre.length : Int) ≤ 4096 := by have := h.s1.1; omega
    clear hTn hkp hbl2 hk2 hk hO
    gi_wp2_with fail
    exact ⟨O, HKP.out.2, HKP.out.1, HG.out⟩
  case done =>
    rintro D xs O V hD hxs ⟨hk, hbl, hVs⟩ hK
    have ck := hk.cell 0
    simp only [List.getElem?_toArray, List.getElem?_cons_zero] at ck
    have hlen : xs.length = n := by
      rw [← HC.out, ← tmVals_length xs]
      exact congrArg List.length hxs
    rw [hlen] at ck
    have hDl : D < V.heap.size := (Array.getElem?_eq_some_iff.mp hK).1
    clear hxs hlen hk HC
    gi_wp2_with fail
    refine leavesP_marks (B := wr.heap.size) (hi := D + 1) ⟨D, rfl, by omega, by omega, hK, trivial⟩ (by omega) fun w' hb _ _ => ?_
    exact ⟨_, by simp [results, Tryz.f32, go_sem], rfl, hbl.trans hb⟩
  case stop =>
    rintro D c pre O V hD _ h
    exact h.elim

set_option maxRecDepth 100000 in
set_option maxHeartbeats 4000000 in
theorem mkDrained (h : MkSees wr T X s S S2 c) (hT : TabAt wr) (q : Bool) (hq : q = true ↔ c.dry) : Calls Tryz.prog 22 #[.pointer (some ⟨T.m, 0, none⟩)] wr fun e w' =>
    e = .returned (.bool q) ∧ Below wr.heap.size wr w' := by
  obtain ⟨M, hM⟩ : ∃ M : Nat, 10 ≤ M := ⟨10, Nat.le_refl _⟩
  have HQ := Lib.hid hq
  clear hq
  have hB1 := (Below.refl wr.heap.size wr).alloc (Nat.le_refl _) (.cells #[.bool false] 4)
  have h1 := h.below hB1
  have hT1 : TabAt (wr.alloc (.cells #[.bool false] 4)) := fun j hj => cell_allocKeep (hT j hj) _
  have hk := Blk.new wr #[.bool false] 4
  have hs1 : (wr.alloc (.cells #[.bool false] 4)).heap.size = wr.heap.size + 1 := by simp
  have HS1 := Lib.hid hs1
  refine calls_of_wp_marks Tryz.func22 rfl M ?_
  simp only [Tryz.ntmps22, List.size_toArray, List.length_cons, List.length_nil, Nat.reduceAdd, Nat.reduceSub, Array.replicate_succ, Array.replicate_zero, List.push_toArray, List.append_toArray, List.nil_append, List.cons_append]
  clear hs1
  gi_wp2_with fail
  refine ⟨trivial, fun h => (by cases h), ?_⟩
  generalize wr.alloc (.cells #[.bool false] 4) = W1 at *
  refine (callsIn_wide.2 (greys_any T.m W1)).mono ?_
  rintro e w' ⟨rfl, rfl⟩
  obtain ⟨e0, e1, hB2, hs2⟩ := toldW_facts T.m 46 W1
  have hs1 := HS1.out
  have h7 := h1.below hB2
  have hT7 : TabAt (toldWorld T.m 46 W1) := fun j hj => (hB2.cell (p := ⟨1, j, none⟩) hT1.lt).trans (hT1 j hj)
  have hk7 := hk.turn (Turn.ofBelow hB2) (fun e => by omega)
  have hb7 := hB1.trans (hB2.mono (by omega))
  have hX := Lib.hid (And.intro e0 e1)
  have HS2 := Lib.hid (And.intro hs1 hs2)
  clear e0 e1 hs1 hs2 hB2 h1 hT1
  gi_wp2_with fail
  obtain ⟨hs1, hs2⟩ := HS2.out
  obtain ⟨e0, e1⟩ := hX.out
  generalize toldWorld T.m 46 W1 = V7 at *
  have hlt7 := h7.lt
  have hXlt7 := h7.ar.lt
  have hTlt7 := hT7.lt
  have hlt := h.lt
  have hXlt := h.ar.lt
  have hTlt := hT.lt
  refine wpIn_rangeO rfl (by omega) (gf := 86) (lb := #[.pointer (some ⟨W1.heap.size, 0, none⟩), .pointer (some ⟨W1.heap.size + 1, 0, none⟩)]) rfl trivial (enters_of Tryz.func86 (by kernel_rfl) rfl)
    (told_seq (M - 1) (by omega) 46 (greyC c) asks_grey (enters_of Tryz.func46 (by kernel_rfl) rfl) h7.greyS W1.heap.size V7 h7 hT7 e0 e1) KpMk.trans
    (fun V l o hl => KpMk.putObj (n0 := V7.heap.size) hlt7 hXlt7 (by omega) (by omega) V l o hl) (Below.refl _ _) (fun _ => rfl)
    (fun st V => st.1 = [] ∧ Blk V wr.heap.size #[.bool false] 4 ∧ Below wr.heap.size wr V ∧ V7.heap.size ≤ V.heap.size)
    (fun c' st V => c' = .ret ∧ ¬ c.dry ∧ Blk V wr.heap.size #[.bool false] 4 ∧ Below wr.heap.size wr V ∧ V7.heap.size ≤ V.heap.size)
    (fun s V V' row hs hg hr => ⟨hs.1, hs.2.1.kept hg (fun r e => (hr r e).2), (ownFrom_below (β := Unit) (Nat.le_refl _) (by omega)) () V V' row hs.2.2.1 hg hr, Nat.le_trans hs.2.2.2 hg.size⟩)
    (fun c s V V' row hs hg hr => ⟨hs.1, hs.2.1, hs.2.2.1.kept hg (fun r e => (hr r e).2), (ownFrom_below (β := Unit) (Nat.le_refl _) (by omega)) () V V' row hs.2.2.2.1 hg hr, Nat.le_trans hs.2.2.2.2 hg.size⟩)
    ⟨rfl, hk7, hb7, Nat.le_refl _⟩ ?a1 ?assign ?body ?done ?stop
  case assign =>
    intro l0 x W K hK
    unfold tmArgs
    gi_wp2
    exact hK
  case body =>
    rintro l0 pre O x V ⟨_, hk, hbl, hVs⟩ hpl
    have ck := hk.cell 0
    have zk := hk.free 0
    simp only [List.getElem?_toArray, List.getElem?_cons_zero] at ck
    have hTn : Turn (fun k => k = wr.heap.size) V (V.setCell ⟨wr.heap.size, 0, none⟩ (.bool false)) := (Turn.refl _ V).set _ _ (.inr rfl)
    have hbl2 := hbl.setCell (p := ⟨wr.heap.size, 0, none⟩) (Nat.le_refl _) (.bool false)
    have hk2 : Blk (V.setCell ⟨wr.heap.size, 0, none⟩ (.bool false)) wr.heap.size #[.bool false] 4 := (hk.setAt 0 _).is (by simp)
    have hO : Owned V7.heap.size O O V (V.setCell ⟨wr.heap.size, 0, none⟩ (.bool false)) := Owned.ofTurn hTn (fun k e => by omega)
    have hnd : ¬ c.dry := fun hd => by
      have hg := x.2.2
      unfold greyC at hg
      cases hm : c.ma ((x.1.val : Nat) : Int) with
      | true => rw [hm, hd _ hm] at hg; cases hg
      | false => rw [hm] at hg; cases hg
    have HG := Lib.hid (And.intro hnd (And.intro hk2 (And.intro hbl2 (show V7.heap.size ≤ (V.setCell ⟨wr.heap.size, 0, none⟩ (.bool false)).heap.size by simpa using hVs))))
    have HKP := Lib.hid hO
    clear hTn hbl2 hk2 hk hO hnd hs1 hs2
    gi_wp2_with fail
    exact ⟨O, HKP.out, rfl, HG.out⟩
  case done =>
    rintro D xs O V hD hxs ⟨hnil, hk, hbl, hVs⟩ hK
    have ck := hk.cell 0
    have zk := hk.free 0
    simp only [List.getElem?_toArray, List.getElem?_cons_zero] at ck
    have hq1 : q = true := HQ.out.2 fun x hx => by
      obtain ⟨k, rfl⟩ := h.nonneg hx
      cases hs : c.sc (k : Int) with
      | true => rfl
      | false =>
        have hm := (soL_mem (f := greyC c) h.greyS h.s1.2.1 k).2 (by unfold greyC; rw [hx, hs]; rfl)
        have e : tmVals xs = soL (greyC c) (elems S T.n) := hxs
        have hnil2 : xs = [] := hnil
        rw [← e, hnil2] at hm
        cases hm
    subst hq1
    have hDl : D < V.heap.size := (Array.getElem?_eq_some_iff.mp hK).1
    have hk2 : (V.setCell ⟨wr.heap.size, 0, none⟩ (.bool true)).cell? ⟨wr.heap.size, 0, none⟩ = some (.bool true) := (hk.setAt 0 (.bool true)).cell 0
    have hbl2 := hbl.setCell (p := ⟨wr.heap.size, 0, none⟩) (Nat.le_refl _) (.bool true)
    have hK2 : (V.setCell ⟨wr.heap.size, 0, none⟩ (.bool true)).heap[D]? = some (.deferred (some [])) := (Below.heap_setCell _ _ _ _ (fun e => by have e2 : D = wr.heap.size := e; omega)).trans hK
    have hs2 : (V.setCell ⟨wr.heap.size, 0, none⟩ (.bool true)).heap.size = V.heap.size := by simp
    have HX2 := Lib.hid hxs
    clear hxs hnil hk HQ
    gi_wp2_with fail
    generalize V.setCell ⟨wr.heap.size, 0, none⟩ (.bool true) = V9 at *
    refine leavesP_marks (B := wr.heap.size) (hi := D + 1) ⟨D, rfl, by omega, by omega, hK2, trivial⟩ (by omega) fun w' hb _ hc => ?_
    have hRF := hc ⟨wr.heap.size, 0, none⟩ _ (by show wr.heap.size < _; omega) hk2
    refine ⟨.bool true, ?_, rfl, hbl2.trans hb⟩
    simp [results, Tryz.f22, go_sem, hRF]
  case stop =>
    rintro D c' pre O V hD _ ⟨rfl, hnd, hk, hbl, hVs⟩ hK
    have ck := hk.cell 0
    simp only [List.getElem?_toArray, List.getElem?_cons_zero] at ck
    have hq1 : q = false := by
      cases hq2 : q with
      | false => rfl
      | true => exact absurd (HQ.out.1 hq2) hnd
    subst hq1
    have hDl : D < V.heap.size := (Array.getElem?_eq_some_iff.mp hK).1
    clear hnd HQ
    gi_wp2_with fail
    refine leavesP_marks (B := wr.heap.size) (hi := D + 1) ⟨D, rfl, by omega, by omega, hK, trivial⟩ (by omega) fun w' hb _ hc => ?_
    have hRF := hc ⟨wr.heap.size, 0, none⟩ _ (by show wr.heap.size < _; omega) ck
    refine ⟨.bool false, ?_, rfl, hbl.trans hb⟩
    simp [results, Tryz.f22, go_sem, hRF]
end
end Go.Proofs.YtooddbhlanjfbaaGreatDoor

namespace Go.Proofs.YtooddbhlanjfbaaGreatDoor
open Go Go.RowKit Go.Shelf Go.MuLone Go.RwLone
set_option linter.unusedSimpArgs false
set_option linter.unusedVariables false
attribute [local go_sem] Oper.semAt_some

/-- What stands beside a marker: its arena, the two tables, none of which lies in its blocks. -/
structure MkSide (w : World) (T : MkB) (X : ArB) (s : ArS) : Prop where
  ar : ArAt w X s
  P : T.n = 32 * s.P + 1
  tab : TabAt w
  tabc : TableAt w
  far : ∀ k, T.has k → ¬ X.has k
  nt : ¬ T.has 1
  nc : ¬ T.has 0
section
variable {w wr w' w1 : World} {T T' T1 : MkB} {X : ArB} {s : ArS} {S S2 : Nat → Bool} {c : Col} {room : Int} {st : List Int} {ov : Bool} {xa : Nat} {row : Option Nat}
theorem TabAt.turn {M : Nat → Prop} (h : TabAt w) (hT : Turn M w w') (hn : ¬ M 1) : TabAt w' := h.keep (hT.block _ h.lt hn)
theorem MkSide.step (h : MkSide w T X s) (hS : MkStep T w T' w') : MkSide w' T' X s := by
  refine ⟨h.ar.turn hS.turn fun k e e2 => h.far k e2 e, hS.n.trans h.P, h.tab.turn hS.turn h.nt, h.tabc.turn hS.turn h.nc, fun k e e2 => ?_, fun e => ?_, fun e => ?_⟩
  · rcases hS.new k e with e3 | e3
    · exact h.far k e3 e2
    · have := h.ar.lt k e2; omega
  · rcases hS.new _ e with e3 | e3
    · exact h.nt e3
    · have := h.tab.lt; omega
  · rcases hS.new _ e with e3 | e3
    · exact h.nc e3
    · have := h.tabc.lt; omega
theorem MkSide.below (h : MkSide w T X s) (hB : Below w.heap.size w w') : MkSide w' T X s := h.step (MkStep.ofBelow hB)
theorem MkMem.cells (h : MkMem w T xa S S2 room st ov) {k : Nat} (hk : T.has k) : ∃ o, w.heap[k]? = some o ∧ o.isCells = true := by
  have hlt := h.lt k hk
  have ho : w.heap[k]? = some w.heap[k] := Array.getElem?_eq_getElem hlt
  refine ⟨_, ho, ?_⟩
  have go : ∀ {j : Nat} {cs : Array Value} {X : TypeId}, Blk w j cs X → w.heap[j]? = some w.heap[k] → w.heap[k].isCells = true := fun hb h2 => by
    unfold Blk at hb; rw [hb] at h2; rw [← Option.some.inj h2]; rfl
  have gs : ∀ {b N : Nat} {lo : Option Nat} {S : Nat → Bool}, SetAt w b lo N S → (k = b ∨ lo = some k) → w.heap[k].isCells = true := fun hs e => by
    rcases e with e | e
    · obtain ⟨d, l, hB⟩ := hs.2.2.blk
      rw [← e] at hB; exact go hB ho
    · obtain ⟨_, _, h5⟩ := hs
      rw [e] at h5
      obtain ⟨_, _, ws, h6, _⟩ := h5
      exact go h6 ho
  rcases hk with e | e | e | e | e
  · have hb := h.head
    rw [← e] at hb; exact go hb ho
  · exact gs h.s1 e
  · exact gs h.s2 e
  · have hb := h.gr.head
    rw [← e] at hb; exact go hb ho
  · obtain ⟨_, h6⟩ := h.gr.stk.own e
    exact go h6 ho
theorem MkMem.grown (h : MkMem w T xa S S2 room st ov) (hg : w.grownBy w' row) (hr : ∀ r, row = some r → ∃ o : Obj, w.heap[r]? = some o ∧ o.isCells = false) : MkMem w' T xa S S2 room st ov :=
  h.keep fun k hk => by
    obtain ⟨o, ho, hc⟩ := h.cells hk
    exact grownBy_keeps_cells hg hr ho hc
theorem MkAt.grown (h : MkAt w T xa c) (hg : w.grownBy w' row) (hr : ∀ r, row = some r → ∃ o : Obj, w.heap[r]? = some o ∧ o.isCells = false) : MkAt w' T xa c := by
  obtain ⟨S, S2, room, st, ov, hM, hO⟩ := h.ex
  exact ⟨S, S2, room, st, ov, hM.grown hg hr, hO⟩
theorem MkStep.grown (h : MkStep T w T1 w1) (hg : w1.grownBy w' row) (hr : ∀ r, row = some r → w.heap.size ≤ r) : MkStep T w T1 w' :=
  ⟨h.m, h.n, h.new, h.turn.trans (Turn.ofGrownM hg) fun i hi e => by have := hr i e; omega⟩
theorem MkStep.thenT {M : Nat → Prop} (h : MkStep T w T1 w1) (hT : Turn M w1 w') (hM : ∀ k, M k → w.heap.size ≤ k) : MkStep T w T1 w' :=
  ⟨h.m, h.n, h.new, h.turn.trans hT fun i hi e => by have := hM i e; omega⟩
theorem MkMem.deferred {B : Nat} (h : MkMem w T xa S S2 room st ov) (hT : Turn (fun k => B ≤ k ∧ IsDef w k) w w') : MkMem w' T xa S S2 room st ov :=
  h.turn hT fun k hk e => by
    obtain ⟨o, ho, hc⟩ := h.cells hk
    obtain ⟨_, d, hd⟩ := e
    rw [hd] at ho; cases ho; cases hc
theorem MkAt.deferred {B : Nat} (h : MkAt w T xa c) (hT : Turn (fun k => B ≤ k ∧ IsDef w k) w w') : MkAt w' T xa c := by
  obtain ⟨S, S2, room, st, ov, hM, hO⟩ := h.ex
  exact ⟨S, S2, room, st, ov, hM.deferred hT, hO⟩
/-- A round's step owns what it lays. -/
theorem MkStep.owned {B : Nat} {T7 : MkB} {O : Nat → Prop} (h7 : ∀ k, T7.has k → k < B) (hO : ∀ k, T.has k → T7.has k ∨ O k) (hB : B ≤ w.heap.size) (hS : MkStep T w T' w') : ∃ O', Owned B O O' w w' ∧ (∀ k, T'.has k → T7.has k ∨ O' k) ∧ ∀ k, O' k → O k ∨ w.heap.size ≤ k := by
  refine ⟨fun k => O k ∨ (w.heap.size ≤ k ∧ T'.has k), ⟨hS.turn.size, fun k hk hkl hn => hS.turn.block k hkl fun e => ?_, fun k e => ?_⟩, fun k e => ?_, fun k e => ?_⟩
  · rcases hO k e with e2 | e2
    · have := h7 k e2; omega
    · exact hn e2
  · rcases e with e | e
    · exact .inl e
    · exact .inr e.1
  · rcases hS.new k e with e2 | e2
    · rcases hO k e2 with e3 | e3
      · exact .inl e3
      · exact .inr (.inl e3)
    · exact .inr (.inr ⟨e2, e⟩)
  · rcases e with e | e
    · exact .inl e
    · exact .inr e.1
theorem MkMem.sees (h : MkMem wr T X.a S S2 room st ov) (ma : c.ma = inS S) (sc : c.sc = inS S2) (sub : ∀ x, c.sc x = true → c.ma x = true) (hs : MkSide wr T X s) (hi : InAr s c) : MkSees wr T X s S S2 c :=
  ⟨h.head, h.s1, h.s2, hs.ar.toArMem, ma, sc, sub, hi⟩
/-- A push, exactly. -/
theorem MkMem.pushX (h : MkMem wr T xa S S2 room st ov) (hr : room ≤ 4096) (x : Int) (t : Bool) (ht : decide ((st.length : Int) < room) = t) : Calls Tryz.prog 44 #[.pointer (some ⟨T.g.s, 0, none⟩), .int .i64 x] wr fun e w' =>
    e = .returned (.bool t) ∧ ∃ G, MkMem w' { T with g := G } xa S S2 room (pushL room st x) (pushV room st ov) ∧ MkStep T wr { T with g := G } w' ∧ Turn T.g.has wr w' := by
  refine (h.gr.pushAny hr x t ht).mono ?_
  rintro e w1 ⟨rfl, G, hG, hS⟩
  have hTu := hS.turn
  have n1 := h.s1.farG h.gr
  have n2 := h.s2.farG h.gr
  have n0 := h.gr.farT h.head (by decide) (by decide)
  refine ⟨rfl, G, ⟨(h.head.turn hTu n0).is ?_, h.s1.turn hTu (fun e => n1 _ e (.inl rfl)) (fun l e e2 => n1 l e2 (.inr e)), h.s2.turn hTu (fun e => n2 _ e (.inl rfl)) (fun l e e2 => n2 l e2 (.inr e)), hG, h.sep⟩, ⟨rfl, rfl, ?_, hTu.mono fun k _ e => .inr (.inr (.inr e))⟩, hTu⟩
  · show mkArr T xa = mkArr { T with g := G } xa
    unfold mkArr
    rw [hS.s]
  · rintro k (e | e | e | e)
    · exact .inl (.inl e)
    · exact .inl (.inr (.inl e))
    · exact .inl (.inr (.inr (.inl e)))
    · rcases hS.new k e with e2 | e2
      · exact .inl (.inr (.inr (.inr e2)))
      · exact .inr e2
theorem MkMem.gfar (h : MkMem wr T xa S S2 room st ov) : ∀ k, T.sets k → ¬ T.g.has k := by
  rintro k (e | e | e) e2
  · exact h.gr.farT h.head (by decide) (by decide) (e ▸ e2)
  · exact h.s1.farG h.gr k e2 e
  · exact h.s2.farG h.gr k e2 e
end
def ints (l : List Nat) : List Int := l.map fun n : Nat => (n : Int)
/-- What holds between two pushes of refill. -/
def RefI (T7 : MkB) (V7 : World) (xa : Nat) (S S2 : Nat → Bool) (room : Int) (b : Nat) (f : Int → Bool) (st : List (InMk S f) × (Nat → Prop)) (V : World) : Prop :=
  ∃ G, MkMem V { T7 with g := G } xa S S2 room (ints (tmVals st.1)) false ∧ MkStep T7 V7 { T7 with g := G } V ∧ Blk V b #[.pointer (some ⟨T7.m, 0, none⟩)] 37 ∧ (∀ k, ({ T7 with g := G } : MkB).has k → T7.has k ∨ st.2 k) ∧ (∀ k, st.2 k → V7.heap.size ≤ k) ∧ (st.1.length : Int) ≤ room
def RefX (T7 : MkB) (V7 : World) (xa : Nat) (S S2 : Nat → Bool) (room : Int) (f : Int → Bool) (V : World) : Prop :=
  ∃ G l, MkMem V { T7 with g := G } xa S S2 room l true ∧ MkStep T7 V7 { T7 with g := G } V ∧ (∀ y ∈ l, f y = true) ∧ l ≠ [] ∧ (l.length : Int) ≤ room
theorem refI_own {T7 : MkB} {V7 : World} {xa : Nat} {S S2 : Nat → Bool} {room : Int} {b : Nat} {f : Int → Bool} : OwnFrom V7.heap.size (RefI T7 V7 xa S S2 room b f) := by
  rintro st V V' row ⟨G, hM, hS, hb, hO, hO2, hl⟩ hg hr
  exact ⟨G, hM.grown hg (fun r e => (hr r e).2), hS.grown hg (fun r e => (hr r e).1), hb.kept hg (fun r e => (hr r e).2), hO, hO2, hl⟩
theorem refX_own {T7 : MkB} {V7 : World} {xa : Nat} {S S2 : Nat → Bool} {room : Int} {f : Int → Bool} {β : Type} (q : Code → Prop) (c : Code) : OwnFrom V7.heap.size (fun (_ : β) V => q c ∧ RefX T7 V7 xa S S2 room f V) := by
  rintro st V V' row ⟨hq, G, l, hM, hS, h1, h2, h3⟩ hg hr
  exact ⟨hq, G, l, hM.grown hg (fun r e => (hr r e).2), hS.grown hg (fun r e => (hr r e).1), h1, h2, h3⟩
/-- What refill leaves of the stack. -/
structure Refilled (c : Col) (room : Int) (st : List Int) (ov : Bool) : Prop where
  is : ∀ y ∈ st, greyC c y = true
  all : ∀ y, greyC c y = true → y ∈ st ∨ ov = true
  len : (st.length : Int) ≤ room
  nil : st = [] → ov = false
def RefEnd (T : MkB) (w : World) (xa : Nat) (S S2 : Nat → Bool) (c : Col) (room : Int) (w' : World) : Prop :=
  ∃ (T' : MkB) (st' : List Int) (ov' : Bool), MkMem w' T' xa S S2 room st' ov' ∧ MkStep T w T' w' ∧ Refilled c room st' ov'
section
variable {w wr w' w1 : World} {T T' T1 : MkB} {X : ArB} {s : ArS} {S S2 : Nat → Bool} {c : Col} {room : Int} {st : List Int} {ov : Bool}
set_option maxRecDepth 100000 in
set_option maxHeartbeats 4000000 in
theorem mkRefill (hM : MkMem wr T X.a S S2 room [] ov) (ma : c.ma = inS S) (sc : c.sc = inS S2) (sub : ∀ x, c.sc x = true → c.ma x = true) (r1 : 1 ≤ room) (r2 : room ≤ 4096) (hs : MkSide wr T X s) (hi : InAr s c) :
    Calls Tryz.prog 49 #[.pointer (some ⟨T.m, 0, none⟩)] wr fun e w' =>
    e = .returned (.tuple #[]) ∧ RefEnd T wr X.a S S2 c room w' := by
  obtain ⟨M, hMM⟩ : ∃ M : Nat, 10 ≤ M := ⟨10, Nat.le_refl _⟩
  have hB1 := (Below.refl wr.heap.size wr).alloc (Nat.le_refl _) (.cells #[.pointer (some ⟨T.m, 0, none⟩)] 37)
  have hM1 := hM.below hB1
  have hs1 := hs.below hB1
  have hb1 := Blk.new wr #[.pointer (some ⟨T.m, 0, none⟩)] 37
  have hz1 : (wr.alloc (.cells #[.pointer (some ⟨T.m, 0, none⟩)] 37)).heap.size = wr.heap.size + 1 := by simp
  have hlt := hM.lt
  have c3 := hM1.c3
  have cb := hb1.cell 0
  simp only [List.getElem?_toArray, List.getElem?_cons_zero] at cb
  have cS := hM1.gr.settle
  have HZ1 := Lib.hid hz1
  have HC := Lib.hid (And.intro ma (And.intro sc (And.intro sub hi)))
  refine calls_of_wp_marks Tryz.func49 rfl M ?_
  simp only [Tryz.ntmps49, List.size_toArray, List.length_cons, List.length_nil, Nat.reduceAdd, Nat.reduceSub, Array.replicate_succ, Array.replicate_zero, List.push_toArray, List.append_toArray, List.nil_append, List.cons_append]
  clear hz1 ma sc sub hi
  gi_wp2_with fail
  refine ⟨trivial, fun h => (by cases h), ?_⟩
  generalize wr.alloc (.cells #[.pointer (some ⟨T.m, 0, none⟩)] 37) = W1 at *
  refine (callsIn_wide.2 cS).mono ?_
  rintro e w2 ⟨rfl, G, hG, hSG⟩
  obtain ⟨T1, _, hM2, hS2⟩ := hM1.turn3 hG hSG
  have hz1 := HZ1.out
  have hs2 := hs1.step hS2
  have hm : T1.m = T.m := hS2.m
  have hnb : ¬ T.has wr.heap.size := fun e => by have := hlt _ e; omega
  have hb2 := hb1.turn hS2.turn hnb
  have cb2 := hb2.cell 0
  simp only [List.getElem?_toArray, List.getElem?_cons_zero] at cb2
  have hz2 : wr.heap.size + 1 ≤ w2.heap.size := by have := hS2.turn.size; omega
  have HM := Lib.hid hm
  clear cS c3 cb hz1 hm hG hSG
  gi_wp2_with fail
  refine ⟨trivial, fun h => (by cases h), ?_⟩
  refine (callsIn_wide.2 (greys_any T.m w2)).mono ?_
  rintro e w' ⟨rfl, rfl⟩
  obtain ⟨e0, e1, hB2, hsz2⟩ := toldW_facts T.m 46 w2
  have hM7 := hM2.below hB2
  have hs7 := hs2.below hB2
  have hb7 := hb2.turn (Turn.ofBelow hB2) (fun e => by omega)
  have h7 : MkSees _ T1 X s S S2 c := hM7.sees HC.out.1 HC.out.2.1 HC.out.2.2.1 hs7 HC.out.2.2.2
  have hS7 := hS2.then_ hB2
  have hT2lt := hM2.lt
  have hX2lt := hs2.ar.lt
  rw [← HM.out] at e0
  have hX := Lib.hid (And.intro e0 (And.intro e1 hsz2))
  clear e0 e1 hB2 hsz2 cb2
  gi_wp2_with fail
  obtain ⟨e0, e1, hsz2⟩ := hX.out
  rw [HM.out] at e0
  generalize toldWorld T.m 46 w2 = V7 at *
  have hlt7 := h7.lt
  have hXlt7 := h7.ar.lt
  have hTlt7 := hs7.tab.lt
  have e0' : V7.cell? ⟨w2.heap.size, 0, none⟩ = some (.pointer (some ⟨T1.m, 0, none⟩)) := by rw [HM.out]; exact e0
  have h0 : RefI T1 V7 X.a S S2 room wr.heap.size (greyC c) ([], fun _ => False) V7 :=
    ⟨T1.g, (hM7 : MkMem V7 T1 X.a S S2 room [] false), MkStep.refl _ _, by rw [HM.out]; exact hb7, fun k e => .inl e, fun _ h => h.elim, by simp; omega⟩
  have HSZ := Lib.hid hsz2
  have HE := Lib.hid e0'
  clear e0 hsz2 e0'
  refine wpIn_rangeO rfl (by omega) (gf := 86) (lb := #[.pointer (some ⟨w2.heap.size, 0, none⟩), .pointer (some ⟨w2.heap.size + 1, 0, none⟩)]) rfl trivial (enters_of Tryz.func86 (by kernel_rfl) rfl)
    (told_seq (M - 1) (by omega) 46 (greyC c) asks_grey (enters_of Tryz.func46 (by kernel_rfl) rfl) h7.greyS w2.heap.size V7 h7 hs7.tab HE.out e1) KpMk.trans
    (fun V l o hl => KpMk.putObj (n0 := V7.heap.size) hlt7 hXlt7 (by have := HSZ.out; omega) (by omega) V l o hl) (Below.refl _ _) (fun _ => rfl)
    (RefI T1 V7 X.a S S2 room wr.heap.size (greyC c))
    (fun c' st V => c' = .ret ∧ RefX T1 V7 X.a S S2 room (greyC c) V)
    refI_own (refX_own (fun c' => c' = .ret)) h0 ?a1 ?assign ?body ?done ?stop
  case assign =>
    intro l0 x W K hK
    unfold tmArgs
    gi_wp2
    exact hK
  case body =>
    rintro l0 pre O x V ⟨G, hMV, hSV, hbV, hOV, hO2, hlV⟩ hpl
    have hVs := hSV.turn.size
    have ck := hbV.cell 0
    simp only [List.getElem?_toArray, List.getElem?_cons_zero] at ck
    have c3 : V.cell? ⟨T1.m, 3, none⟩ = some (.pointer (some ⟨G.s, 0, none⟩)) := hMV.c3
    have hsV := hs7.step hSV
    obtain ⟨t, ht⟩ : ∃ t, decide (((ints (tmVals pre)).length : Int) < room) = t := ⟨_, rfl⟩
    have cP := hMV.pushX r2 ((x.1.val : Nat) : Int) t ht
    have hlen : (ints (tmVals pre)).length = pre.length := by unfold ints; rw [List.length_map, tmVals_length]
    have HT := Lib.hid (And.intro ht hlen)
    have hg7 := hMV.gfar
    clear ht hlen
    rw [HM.out] at ck c3
    gi_wp2_with fail
    refine ⟨trivial, fun h => (by cases h), ?_⟩
    refine ((callsIn_wide.2 cP).inRound l0).mono ?_
    rintro e V1 ⟨rfl, G1, hM1, hS1, hTu⟩
    obtain ⟨O', hOw, hO', hOn⟩ := hS1.owned (B := V7.heap.size) (T7 := T1) hM7.lt hOV hVs
    have hz := HSZ.out
    have hnG : ∀ k, w2.heap.size ≤ k → k < V7.heap.size → ¬ G.has k := fun k h1 h2 e => by
      rcases hOV k (.inr (.inr (.inr e))) with e2 | e2
      · have := hT2lt k e2; omega
      · have := hO2 k e2; omega
    have hKp : KpMk T1 X w2.heap.size V V1 := KpMk.ofTurn hTu (fun k hk => ⟨by have := hlt7 k hk; omega, hg7 k hk⟩) (fun k hk => ⟨by have := hXlt7 k hk; omega, fun e => hsV.far k (.inr (.inr (.inr e))) hk⟩) (by omega) (hnG _ (by omega) (by omega)) (hnG _ (by omega) (by omega)) (by omega) (fun e => hsV.nt (.inr (.inr (.inr e))))
    have hO3 : ∀ k, O' k → V7.heap.size ≤ k := fun k e => by
      rcases hOn k e with e2 | e2
      · exact hO2 k e2
      · omega
    have HK := Lib.hid (And.intro hOw hKp)
    cases t with
    | true =>
      have hlt2 : (pre.length : Int) < room := by have := of_decide_eq_true HT.out.1; rw [HT.out.2] at this; exact this
      have e1 : pushL room (ints (tmVals pre)) ((x.1.val : Nat) : Int) = ints (tmVals (pre ++ [x])) := by
        unfold pushL
        rw [if_pos (by rw [HT.out.2]; exact hlt2), tmVals_append]
        unfold ints; rw [List.map_append]; rfl
      have e2 : pushV room (ints (tmVals pre)) false = false := by unfold pushV; rw [if_pos (by rw [HT.out.2]; exact hlt2)]
      rw [e1, e2] at hM1
      have hI : RefI T1 V7 X.a S S2 room wr.heap.size (greyC c) (pre ++ [x], O') V1 :=
        ⟨G1, hM1, hSV.trans hS1, hbV.turn hTu (fun e => by
          rcases hOV _ (.inr (.inr (.inr e))) with e2 | e2
          · rcases hS2.new _ e2 with e3 | e3
            · exact hnb e3
            · have := HZ1.out; omega
          · have := hO2 _ e2; omega), hO', hO3, by simp; omega⟩
      have HI := Lib.hid hI
      clear hI e1 e2 hlt2 hM1 hS1 hTu hKp hOw hz cP hOV
      gi_wp2_with fail
      exact ⟨O', HK.out.1, HK.out.2, HI.out⟩
    | false =>
      have hge : ¬ ((ints (tmVals pre)).length : Int) < room := of_decide_eq_false HT.out.1
      have e1 : pushL room (ints (tmVals pre)) ((x.1.val : Nat) : Int) = ints (tmVals pre) := by unfold pushL; rw [if_neg hge]
      have e2 : pushV room (ints (tmVals pre)) false = true := by unfold pushV; rw [if_neg hge]
      rw [e1, e2] at hM1
      have hI : RefX T1 V7 X.a S S2 room (greyC c) V1 :=
        ⟨G1, _, hM1, hSV.trans hS1, fun y hy => by
          unfold ints at hy
          obtain ⟨k, hk, rfl⟩ := List.mem_map.1 hy
          unfold tmVals at hk
          obtain ⟨z, _, rfl⟩ := List.mem_map.1 hk
          exact z.2.2, fun e => by rw [e] at hge; simp at hge; omega, by rw [HT.out.2]; exact hlV⟩
      have HI := Lib.hid hI
      clear hI e1 e2 hge hM1 hS1 hTu hKp hOw hz cP hOV
      gi_wp2_with fail
      exact ⟨O', HK.out.1, rfl, HI.out⟩
  case done =>
    rintro D xs O V hD hxs ⟨G, hMV, hSV, hbV, hOV, hO2, hlV⟩ hK
    have hDl : D < V.heap.size := (Array.getElem?_eq_some_iff.mp hK).1
    have HXS := Lib.hid hxs
    clear hxs
    gi_wp2_with fail
    refine leavesP_marksG (B := V7.heap.size) (hi := D + 1) ⟨D, rfl, by omega, by omega, hK, trivial⟩ fun w' hT => ?_
    have hz := HSZ.out
    refine ⟨_, results_none rfl _ _ _, rfl, _, ints (tmVals xs), false, hMV.deferred hT, ((MkStep.below hB1 hS7).trans hSV).thenT hT (fun k e => by omega), fun y hy => ?_, fun y hy => .inl ?_, by unfold ints; rw [List.length_map, tmVals_length]; exact hlV, fun _ => rfl⟩
    · unfold ints at hy
      obtain ⟨k, hk, rfl⟩ := List.mem_map.1 hy
      have e : tmVals xs = soL (greyC c) (elems S T1.n) := HXS.out
      rw [e] at hk
      exact (soL_mem h7.greyS h7.s1.2.1 k).1 hk
    · have hma : c.ma y = true := by unfold greyC at hy; cases hm : c.ma y with | true => rfl | false => rw [hm] at hy; cases hy
      obtain ⟨k, rfl⟩ := h7.nonneg hma
      have e : tmVals xs = soL (greyC c) (elems S T1.n) := HXS.out
      rw [e]
      exact List.mem_map.2 ⟨k, (soL_mem h7.greyS h7.s1.2.1 k).2 hy, rfl⟩
  case stop =>
    rintro D c' pre O V hD _ ⟨rfl, G, l, hMV, hSV, h1, h2, h3⟩ hK
    have hDl : D < V.heap.size := (Array.getElem?_eq_some_iff.mp hK).1
    gi_wp2_with fail
    refine leavesP_marksG (B := V7.heap.size) (hi := D + 1) ⟨D, rfl, by omega, by omega, hK, trivial⟩ fun w' hT => ?_
    have hz := HSZ.out
    exact ⟨_, results_none rfl _ _ _, rfl, _, l, true, hMV.deferred hT, ((MkStep.below hB1 hS7).trans hSV).thenT hT (fun k e => by omega), h1, fun y hy => .inr rfl, h3, fun e => absurd e h2⟩
end
end Go.Proofs.YtooddbhlanjfbaaGreatDoor

namespace Go.Proofs.YtooddbhlanjfbaaGreatDoor
open Go Go.RowKit Go.Shelf Go.MuLone Go.RwLone
set_option linter.unusedSimpArgs false
set_option linter.unusedVariables false
attribute [local go_sem] Oper.semAt_some

abbrev InPt (F : Nat → Int) (k : Nat) : Type := { x : Fin 6 // x.val < k ∧ nz F x.val = true }
def ptaArgs {F : Nat → Int} {k : Nat} (x : InPt F k) : Array Value := #[.int .i64 (F x.1.val)]
def ptaVals {F : Nat → Int} {k : Nat} (q : List (InPt F k)) : List Nat := q.map fun x => x.1.val
theorem ptaVals_append {F : Nat → Int} {k : Nat} (p q : List (InPt F k)) : ptaVals (p ++ q) = ptaVals p ++ ptaVals q := by unfold ptaVals; exact List.map_append
theorem ptaVals_length {F : Nat → Int} {k : Nat} (q : List (InPt F k)) : (ptaVals q).length = q.length := by unfold ptaVals; exact List.length_map _
/-- What holds between two fields. -/
def PtaRel (X : ArB) (s : ArS) (B k : Nat) (r : Int) (F : Nat → Int) (J : List (InPt F k) → World → Prop) (v10 : Value) (W : World) : Prop :=
  ArAt W X s ∧ TableAt W ∧ W.cell? ⟨B, 0, none⟩ = some (.pointer (some ⟨X.a, 0, none⟩)) ∧ W.cell? ⟨B + 1, 0, none⟩ = some (.int .i64 r) ∧
    ∃ j : Nat, j ≤ k ∧ v10 = .int .i64 (j : Int) ∧ ∃ q : List (InPt F k), ptaVals q = elems (nz F) j ∧ J q W

set_option maxRecDepth 100000 in
set_option maxHeartbeats 4000000 in
theorem pta1_in (n : Nat) {X : ArB} {s : ArS} (B l k : Nat) (r : Int) (F : Nat → Int) (hO : Reads s r k F) (J Jx : List (InPt F k) → World → Prop) (W : World) (hJa : AbidesFrom W.heap.size J)
    (hY : ∀ pre (x : InPt F k) W1, J pre W1 → pre.length < 6 → YieldAt Fence.wide (n - 1) Tryz.prog l (ptaArgs x) W1 fun e W' =>
      (e = .returned (.bool true) ∧ J (pre ++ [x]) W' ∧ KpPt X B W1 W') ∨ (e = .returned (.bool false) ∧ Jx (pre ++ [x]) W'))
    (hA : ArAt W X s) (hT : TableAt W) (hB0 : W.cell? ⟨B, 0, none⟩ = some (.pointer (some ⟨X.a, 0, none⟩))) (hB1 : W.cell? ⟨B + 1, 0, none⟩ = some (.int .i64 r)) (h0 : J [] W) :
    CallsIn Fence.wide n Tryz.prog 66 #[.func (.yield l) #[] #[], .pointer (some ⟨B, 0, none⟩), .pointer (some ⟨B + 1, 0, none⟩)] W fun e W' => (∃ v, e = .returned v) ∧
      ((∃ xs : List (InPt F k), ptaVals xs = elems (nz F) k ∧ J xs W') ∨ (∃ pre : List (InPt F k), (∃ j, j < k ∧ nz F j = true ∧ ptaVals pre = elems (nz F) (j + 1)) ∧ Jx pre W')) := by
  have hk6 := hO.k6
  refine callsIn_of_wp Tryz.func66 rfl (by trivial) ?_ rfl
  simp only [Tryz.ntmps66, List.size_toArray, List.length_cons, List.length_nil, Nat.reduceAdd, Nat.reduceSub, Array.replicate_succ, Array.replicate_zero, List.push_toArray, List.append_toArray, List.nil_append, List.cons_append]
  have cF := ceFields0 hA hT r (k : Int) hO.n
  gi_wp2_with fail
  refine ⟨trivial, fun h => (by cases h), ?_⟩
  refine (callsIn_wide.2 cF).mono ?_
  rintro e W0 ⟨rfl, hBl⟩
  have hA' := hA.below hBl
  have hT' := hT.below hBl
  have hB0' : W0.cell? ⟨B, 0, none⟩ = some (.pointer (some ⟨X.a, 0, none⟩)) := (hBl.cell (p := ⟨B, 0, none⟩) (World.block_lt_of_cell? W _ hB0)).trans hB0
  have hB1' : W0.cell? ⟨B + 1, 0, none⟩ = some (.int .i64 r) := (hBl.cell (p := ⟨B + 1, 0, none⟩) (World.block_lt_of_cell? W _ hB1)).trans hB1
  have h0' := abides_below hJa h0 hBl
  clear cF hA hT hB0 hB1 h0 hBl
  gi_wp2_with fail
  gi_loopw [10] (fun v10 wr => PtaRel X s B k r F J v10 wr) (fun v10 _ => k - (intOf v10).toNat)
  case atStart => exact ⟨hA', hT', hB0', hB1', 0, by omega, rfl, [], rfl, h0'⟩
  case round =>
    clear hA' hT' hB0' hB1' h0'
    obtain ⟨hA, hT, hB0, hB1, j, hj, rfl, q, hq, hJ⟩ := hrel
    have HQ := Lib.hid hq
    clear hq
    by_cases hlt : j < k
    · have hJ1 : (j : Int) < (k : Int) := by omega
      have cR := ceField0 hA hT r (j : Int) (by rw [hO.n]; omega)
      rw [hO.at_ j hlt] at cR
      obtain ⟨y, hy⟩ : ∃ y, F j = y := ⟨_, rfl⟩
      rw [hy] at cR
      have HY := Lib.hid hy
      clear hy
      generalize fldE s r (j : Int) = e0 at *
      gi_wp2_with fail
      refine ⟨trivial, fun h => (by cases h), ?_⟩
      refine (callsIn_wide.2 cR).mono ?_
      rintro e w4 ⟨rfl, hBl⟩
      have hA4 := hA.below hBl
      have hT4 := hT.below hBl
      have hB04 : w4.cell? ⟨B, 0, none⟩ = some (.pointer (some ⟨X.a, 0, none⟩)) := (hBl.cell (p := ⟨B, 0, none⟩) (World.block_lt_of_cell? wr _ hB0)).trans hB0
      have hB14 : w4.cell? ⟨B + 1, 0, none⟩ = some (.int .i64 r) := (hBl.cell (p := ⟨B + 1, 0, none⟩) (World.block_lt_of_cell? wr _ hB1)).trans hB1
      have hJ4 := abides_below hJa hJ hBl
      clear cR hA hT hB0 hB1 hJ
      by_cases hy0 : y = 0
      · have hnz : nz F j = false := by unfold nz; rw [HY.out, hy0]; rfl
        have HNZ := Lib.hid hnz
        subst hy0
        clear hnz
        gi_wp2_with fail
        refine ⟨fun f h => (by cases h), ?_⟩
        gi_wp2_with fail
        go_roundw
        case rel => exact ⟨hA4, hT4, hB04, hB14, j + 1, by omega, by go_num, q, by rw [elems_no (T := nz F) HNZ.out]; exact HQ.out, hJ4⟩
        case measure => simp [intOf]; omega
      · have hnz : nz F j = true := by unfold nz; rw [HY.out, decide_eq_false hy0]; rfl
        have HNZ := Lib.hid hnz
        have hlen : q.length < 6 := by
          have h1 := congrArg List.length HQ.out
          rw [ptaVals_length] at h1
          have h2 := elems_length (nz F) j
          omega
        have hY' := hY q ⟨⟨j, by omega⟩, hlt, HNZ.out⟩ w4 hJ4 hlen
        unfold ptaArgs at hY'
        rw [show F ((⟨⟨j, by omega⟩, hlt, HNZ.out⟩ : InPt F k).1.val) = y from HY.out] at hY'
        obtain ⟨fn, tmps, assign, body, hy, hY2⟩ := hY'
        clear hJ4 hBl hnz
        gi_wp2_with fail
        refine ⟨fun h => (by cases h), ?_⟩
        refine hY2.mono ?_
        rintro e W3 (⟨rfl, hJ3, hk3⟩ | ⟨rfl, hJx3⟩)
        · obtain ⟨hA3, hT3⟩ := hA4.sameA hT4 hk3
          have hB03 : W3.cell? ⟨B, 0, none⟩ = some (.pointer (some ⟨X.a, 0, none⟩)) := (World.cell?_of_block (w := w4) (a := ⟨B, 0, none⟩) hk3.1.2.1).trans hB04
          have hB13 : W3.cell? ⟨B + 1, 0, none⟩ = some (.int .i64 r) := (World.cell?_of_block (w := w4) (a := ⟨B + 1, 0, none⟩) hk3.1.2.2).trans hB14
          clear hA4 hT4 hB04 hB14 hk3 hy hY2
          gi_wp2_with fail
          go_roundw
          case rel => exact ⟨hA3, hT3, hB03, hB13, j + 1, by omega, by go_num, _, by rw [elems_yes (T := nz F) HNZ.out, ptaVals_append, HQ.out]; rfl, hJ3⟩
          case measure => simp [intOf]; omega
        · gi_wp2_with fail
          refine bodyPost_ret (results_none rfl _ _ _) rfl ?_
          exact ⟨⟨_, rfl⟩, .inr ⟨_, ⟨j, hlt, HNZ.out, by rw [elems_yes (T := nz F) HNZ.out, ptaVals_append, HQ.out]; rfl⟩, hJx3⟩⟩
    · obtain rfl : j = k := by omega
      gi_wp2_with fail
      go_end0
      exact ⟨⟨_, rfl⟩, .inl ⟨q, HQ.out, hJ⟩⟩

/-- The iterator over an object's fields. -/
theorem pta_stops (n : Nat) {X : ArB} {s : ArS} (B k : Nat) (r : Int) (F : Nat → Int) (hO : Reads s r k F) (w : World) (hA : ArAt w X s) (hT : TableAt w) (hB0 : w.cell? ⟨B, 0, none⟩ = some (.pointer (some ⟨X.a, 0, none⟩))) (hB1 : w.cell? ⟨B + 1, 0, none⟩ = some (.int .i64 r)) :
    SeqStopsK Fence.wide n Tryz.prog 66 #[.pointer (some ⟨B, 0, none⟩), .pointer (some ⟨B + 1, 0, none⟩)] (ptaArgs (F := F) (k := k)) (KpPt X B)
      (fun xs : List (InPt F k) => ptaVals xs = elems (nz F) k) (fun pre : List (InPt F k) => ∃ j, j < k ∧ nz F j = true ∧ ptaVals pre = elems (nz F) (j + 1)) 6 w := fun l J Jx W hW hJa _ hY h0 =>
  pta1_in n B l k r F hO J Jx W hJa hY (hA.below hW) (hT.below hW) ((hW.cell (p := ⟨B, 0, none⟩) (World.block_lt_of_cell? w _ hB0)).trans hB0) ((hW.cell (p := ⟨B + 1, 0, none⟩) (World.block_lt_of_cell? w _ hB1)).trans hB1) h0
end Go.Proofs.YtooddbhlanjfbaaGreatDoor

namespace Go.Proofs.YtooddbhlanjfbaaGreatDoor
open Go Go.RowKit Go.Shelf Go.MuLone Go.RwLone
set_option linter.unusedSimpArgs false
set_option linter.unusedVariables false
attribute [local go_sem] Oper.semAt_some

/-- Some more are shaded. -/
def Col.shades (c : Col) (l : List Int) : Col := ⟨fun y => c.ma y || decide (y ∈ l), c.sc⟩
theorem Col.shades_nil (c : Col) : c.shades [] = c := by unfold Col.shades; simp
theorem Col.shades_snoc (c : Col) (l : List Int) (x : Int) : (c.shades l).shade x = c.shades (l ++ [x]) := by
  unfold Col.shades Col.shade
  congr 1
  funext y
  by_cases e : y = x
  · subst e; rw [updI_at]; simp
  · rw [updI_ne e]; simp [e]
def ptaL {F : Nat → Int} {k : Nat} (q : List (InPt F k)) : List Int := (ptaVals q).map F
/-- What holds between two fields of what is scanned. -/
def ScnI (T7 : MkB) (V7 : World) (xa : Nat) (c0 : Col) (b : Nat) (F : Nat → Int) (k : Nat) (st : List (InPt F k) × (Nat → Prop)) (V : World) : Prop :=
  ∃ T1, MkAt V T1 xa (c0.shades (ptaL st.1)) ∧ MkStep T7 V7 T1 V ∧ Blk V b #[.pointer (some ⟨T7.m, 0, none⟩)] 37 ∧ (∀ k, T1.has k → T7.has k ∨ st.2 k) ∧ (∀ k, st.2 k → V7.heap.size ≤ k)
theorem scnI_own {T7 : MkB} {V7 : World} {xa : Nat} {c0 : Col} {b : Nat} {F : Nat → Int} {k : Nat} : OwnFrom V7.heap.size (ScnI T7 V7 xa c0 b F k) := by
  rintro st V V' row ⟨T1, hM, hS, hb, hO, hO2⟩ hg hr
  exact ⟨T1, hM.grown hg (fun r e => (hr r e).2), hS.grown hg (fun r e => (hr r e).1), hb.kept hg (fun r e => (hr r e).2), hO, hO2⟩
/-- What a marker's memory says, as one is about to be scanned. -/
structure MkOx (x : Int) (S S2 : Nat → Bool) (room : Int) (st : List Int) (ov : Bool) (c : Col) : Prop where
  ma : c.ma = inS S
  sc : c.sc = inS S2
  sub : ∀ x, c.sc x = true → c.ma x = true
  r1 : 1 ≤ room
  r2 : room ≤ 4096
  len : (st.length : Int) ≤ room
  grey : ∀ y, c.ma y = true → c.sc y = false → y ≠ x → y ∈ st ∨ ov = true
section
variable {w wr w' w1 : World} {T T' T1 : MkB} {X : ArB} {s : ArS} {S S2 : Nat → Bool} {c : Col} {room : Int} {st : List Int} {ov : Bool}
def ScnEnd (T : MkB) (w : World) (xa : Nat) (c' : Col) (w' : World) : Prop := ∃ T', MkAt w' T' xa c' ∧ MkStep T w T' w'
set_option maxRecDepth 100000 in
set_option maxHeartbeats 4000000 in
theorem mkScan (x : Int) (hM : MkMem wr T X.a S S2 room st ov) (hO : MkOx x S S2 room st ov c) (hs : MkSide wr T X s) (hx : inS s.S x = true) (hma : c.ma x = true) (k : Nat) (F : Nat → Int) (hR : Reads s x k F) (hp : ∀ j, j < k → nz F j = true → inS s.S (F j) = true) :
    Calls Tryz.prog 47 #[.pointer (some ⟨T.m, 0, none⟩), .int .i64 x] wr fun e w' =>
    e = .returned (.tuple #[]) ∧ ScnEnd T wr X.a ((⟨c.ma, updI c.sc x true⟩ : Col).shades ((elems (nz F) k).map F)) w' := by
  obtain ⟨M, hMM⟩ : ∃ M : Nat, 10 ≤ M := ⟨10, Nat.le_refl _⟩
  obtain ⟨hx1, hx2⟩ := inS_of hs.ar.toArMem hs.P hx
  have hB1 := (Below.refl wr.heap.size wr).alloc (Nat.le_refl _) (.cells #[.pointer (some ⟨T.m, 0, none⟩)] 37)
  have hM1 := hM.below hB1
  have hs1 := hs.below hB1
  have hb1 := Blk.new wr #[.pointer (some ⟨T.m, 0, none⟩)] 37
  have hz1 : (wr.alloc (.cells #[.pointer (some ⟨T.m, 0, none⟩)] 37)).heap.size = wr.heap.size + 1 := by simp
  have hlt := hM.lt
  have c2 := hM1.c2
  have cb := hb1.cell 0
  simp only [List.getElem?_toArray, List.getElem?_cons_zero] at cb
  have cP := hM1.put2 x hx1 hx2 (!inS S2 x) (by simp)
  generalize (!inS S2 x) = q1 at cP
  have HZ1 := Lib.hid hz1
  have HC := Lib.hid (And.intro hma hx)
  refine calls_of_wp_marks Tryz.func47 rfl M ?_
  simp only [Tryz.ntmps47, List.size_toArray, List.length_cons, List.length_nil, Nat.reduceAdd, Nat.reduceSub, Array.replicate_succ, Array.replicate_zero, List.push_toArray, List.append_toArray, List.nil_append, List.cons_append]
  clear hz1 hma hx
  gi_wp2_with fail
  refine ⟨trivial, fun h => (by cases h), ?_⟩
  generalize wr.alloc (.cells #[.pointer (some ⟨T.m, 0, none⟩)] 37) = W1 at *
  refine (callsIn_wide.2 cP).mono ?_
  rintro e w2 ⟨rfl, S', T1, hS', hM2, hS2⟩
  have hz1 := HZ1.out
  have hs2 := hs1.step hS2
  have hm : T1.m = T.m := hS2.m
  have hnb : ¬ T.has wr.heap.size := fun e => by have := hlt _ e; omega
  have hb2 := hb1.turn hS2.turn hnb
  have cb2 := hb2.cell 0
  simp only [List.getElem?_toArray, List.getElem?_cons_zero] at cb2
  have c0 := hM2.c0
  rw [hm] at c0
  have hz2 : wr.heap.size + 1 ≤ w2.heap.size := by have := hS2.turn.size; omega
  have HM := Lib.hid hm
  have HS := Lib.hid hS'
  clear cP c2 cb hz1 hm hS'
  gi_wp2_with fail
  refine ⟨trivial, fun h => (by cases h), ?_⟩
  refine (callsIn_wide.2 (ptsfn_any X.a x w2)).mono ?_
  rintro e w' ⟨rfl, rfl⟩
  have hB2 : Below w2.heap.size w2 ((w2.alloc (.cells #[.pointer (some ⟨X.a, 0, none⟩)] 32)).alloc (.cells #[.int .i64 x] 44)) := ((Below.refl w2.heap.size w2).alloc (Nat.le_refl _) _).alloc (by simp) _
  have e0 : ((w2.alloc (.cells #[.pointer (some ⟨X.a, 0, none⟩)] 32)).alloc (.cells #[.int .i64 x] 44)).cell? ⟨w2.heap.size, 0, none⟩ = some (.pointer (some ⟨X.a, 0, none⟩)) := ((Blk.new w2 _ _).alloc _).cell 0
  have e1 : ((w2.alloc (.cells #[.pointer (some ⟨X.a, 0, none⟩)] 32)).alloc (.cells #[.int .i64 x] 44)).cell? ⟨w2.heap.size + 1, 0, none⟩ = some (.int .i64 x) := by
    have := (Blk.new (w2.alloc (.cells #[.pointer (some ⟨X.a, 0, none⟩)] 32)) #[.int .i64 x] 44).cell 0
    rw [World.size_alloc] at this
    exact this
  have hsz2 : ((w2.alloc (.cells #[.pointer (some ⟨X.a, 0, none⟩)] 32)).alloc (.cells #[.int .i64 x] 44)).heap.size = w2.heap.size + 2 := by simp
  have hM7 := hM2.below hB2
  have hs7 := hs2.below hB2
  have hb7 := hb2.turn (Turn.ofBelow hB2) (fun e => by omega)
  have hS7 := hS2.then_ hB2
  have hT2lt := hM2.lt
  have hX2lt := hs2.ar.lt
  have hX := Lib.hid (And.intro e0 (And.intro e1 hsz2))
  clear e0 e1 hB2 hsz2 cb2 c0
  gi_wp2_with fail
  obtain ⟨e0, e1, hsz2⟩ := hX.out
  generalize (w2.alloc (.cells #[.pointer (some ⟨X.a, 0, none⟩)] 32)).alloc (.cells #[.int .i64 x] 44) = V7 at *
  have hXlt7 := hs7.ar.lt
  have hTlt7 := hs7.tabc.lt
  have hA0 : MkAt V7 T1 X.a ⟨c.ma, updI c.sc x true⟩ := ⟨S, S', room, st, ov, hM7, hO.ma, by rw [HS.out, ← hO.sc], fun y hy => by
    have hy2 : updI c.sc x true y = true := hy
    by_cases e : y = x
    · rw [e]; exact HC.out.1
    · rw [updI_ne e] at hy2; exact hO.sub y hy2, hO.r1, hO.r2, hO.len, fun y hy hy2 => by
    have hy3 : updI c.sc x true y = false := hy2
    by_cases e : y = x
    · rw [e, updI_at] at hy3; cases hy3
    · rw [updI_ne e] at hy3; exact hO.grey y hy hy3 e⟩
  have h0 : ScnI T1 V7 X.a ⟨c.ma, updI c.sc x true⟩ wr.heap.size F k ([], fun _ => False) V7 :=
    ⟨T1, by rw [show ptaL (([], fun _ => False) : List (InPt F k) × (Nat → Prop)).1 = [] from rfl, Col.shades_nil]; exact hA0, MkStep.refl _ _, by rw [HM.out]; exact hb7, fun k e => .inl e, fun _ h => h.elim⟩
  have HSZ := Lib.hid hsz2
  clear hsz2 hA0
  refine wpIn_rangeO rfl (by omega) (gf := 66) (lb := #[.pointer (some ⟨w2.heap.size, 0, none⟩), .pointer (some ⟨w2.heap.size + 1, 0, none⟩)]) rfl trivial (enters_of Tryz.func66 (by kernel_rfl) rfl)
    (SeqO.ofK (pta_stops (M - 1) w2.heap.size k x F hR V7 hs7.ar hs7.tabc e0 e1)) KpPt.trans
    (fun V l o hl => KpPt.putObj (n0 := V7.heap.size) hXlt7 (by have := HSZ.out; omega) (by omega) V l o hl) (Below.refl _ _) (fun _ => rfl)
    (ScnI T1 V7 X.a ⟨c.ma, updI c.sc x true⟩ wr.heap.size F k)
    (fun c' st V => False)
    scnI_own (fun c st V V' row hs hg hr => hs) h0 ?a1 ?assign ?body ?done ?stop
  case assign =>
    intro l0 x W K hK
    unfold ptaArgs
    gi_wp2
    exact hK
  case body =>
    rintro l0 pre O y V ⟨T2, hMV, hSV, hbV, hOV, hO2⟩ hpl
    have hVs := hSV.turn.size
    have ck := hbV.cell 0
    simp only [List.getElem?_toArray, List.getElem?_cons_zero] at ck
    have hsV := hs7.step hSV
    have hin := hp y.1.val y.2.1 y.2.2
    obtain ⟨t, ht⟩ : ∃ t, ((⟨c.ma, updI c.sc x true⟩ : Col).shades (ptaL pre)).ma (F y.1.val) = !t := ⟨!((⟨c.ma, updI c.sc x true⟩ : Col).shades (ptaL pre)).ma (F y.1.val), by simp⟩
    have cS := mkShade hMV hsV.ar.toArMem hsV.P (F y.1.val) hin t ht
    have hm2 : T2.m = T.m := by rw [hSV.m]; exact HM.out
    rw [hm2] at cS
    have HM2 := Lib.hid hm2
    rw [HM.out] at ck
    have hv : (ptaL pre) ++ [F y.1.val] = ptaL (pre ++ [y]) := by
      unfold ptaL
      rw [ptaVals_append, List.map_append]; rfl
    rw [Col.shades_snoc, hv] at cS
    clear ht hin hv hm2
    gi_wp2_with fail
    refine ⟨trivial, fun h => (by cases h), ?_⟩
    refine ((callsIn_wide.2 cS).inRound l0).mono ?_
    rintro e V1 ⟨rfl, T3, hM3, hS3⟩
    obtain ⟨O', hOw, hO', hOn⟩ := hS3.owned (B := V7.heap.size) (T7 := T1) hM7.lt hOV hVs
    have hz := HSZ.out
    have hnG : ∀ k, w2.heap.size ≤ k → k < V7.heap.size → ¬ T2.has k := fun k h1 h2 e => by
      rcases hOV k e with e2 | e2
      · have := hT2lt k e2; omega
      · have := hO2 k e2; omega
    have hKp : KpPt X w2.heap.size V V1 :=
      ⟨⟨fun k hk => hS3.turn.block k (by have := hXlt7 k hk; omega) (fun e => hsV.far k e hk), hS3.turn.block _ (by omega) (hnG _ (by omega) (by omega)), hS3.turn.block _ (by omega) (hnG _ (by omega) (by omega))⟩, hS3.turn.block _ (by omega) hsV.nc⟩
    have hI : ScnI T1 V7 X.a ⟨c.ma, updI c.sc x true⟩ wr.heap.size F k (pre ++ [y], O') V1 :=
      ⟨T3, hM3, hSV.trans hS3, hbV.turn hS3.turn (fun e => by
        rcases hOV _ e with e2 | e2
        · rcases hS2.new _ e2 with e3 | e3
          · exact hnb e3
          · have := HZ1.out; omega
        · have := hO2 _ e2; omega), hO', fun k e => by
        rcases hOn k e with e2 | e2
        · exact hO2 k e2
        · omega⟩
    have HI := Lib.hid (And.intro hOw (And.intro hKp hI))
    clear hI hM3 hS3 hKp hOw hz cS hOV
    gi_wp2_with fail
    exact ⟨O', HI.out.1, HI.out.2.1, HI.out.2.2⟩
  case done =>
    rintro D xs O V hD hxs ⟨T2, hMV, hSV, hbV, hOV, hO2⟩ hK
    have hDl : D < V.heap.size := (Array.getElem?_eq_some_iff.mp hK).1
    have e : ptaL xs = (elems (nz F) k).map F := by
      have e : ptaVals xs = elems (nz F) k := hxs
      unfold ptaL; rw [e]
    rw [e] at hMV
    clear hxs e
    have HMV := Lib.hid hMV
    clear hMV
    gi_wp2_with fail
    refine leavesP_marksG (B := V7.heap.size) (hi := D + 1) ⟨D, rfl, by omega, by omega, hK, trivial⟩ fun w' hT => ?_
    have hz := HSZ.out
    exact ⟨_, results_none rfl _ _ _, rfl, T2, HMV.out.deferred hT, ((MkStep.below hB1 hS7).trans hSV).thenT hT (fun k e => by omega)⟩
  case stop =>
    rintro D c' pre O V hD _ h
    exact h.elim
end
end Go.Proofs.YtooddbhlanjfbaaGreatDoor

namespace Go.Proofs.YtooddbhlanjfbaaGreatDoor
open Go Go.RowKit Go.Shelf Go.MuLone Go.RwLone
set_option linter.unusedSimpArgs false
set_option linter.unusedVariables false
attribute [local go_sem] Oper.semAt_some

/-- Where what lies at r points. -/
def ptsAt (obs : List Ob) (r : Int) : List Int := match obs.find? (fun x => decide ((x.r : Int) = r)) with
  | some x => pts x
  | none => []
theorem ptsAt_mem {s : ArS} {obs : List Ob} (ho : Objs s obs) {x : Ob} (hx : x ∈ obs) : ptsAt obs (x.r : Int) = pts x := by
  unfold ptsAt
  obtain ⟨i, hi⟩ := List.mem_iff_getElem?.1 hx
  cases hf : obs.find? (fun y => decide ((y.r : Int) = (x.r : Int))) with
  | none =>
    have := List.find?_eq_none.1 hf x hx
    simp at this
  | some y =>
    have h1 := List.find?_some hf
    have h2a : (y.r : Int) = (x.r : Int) := by simpa using h1
    have h2 : y.r = x.r := by omega
    obtain ⟨j, hj⟩ := List.mem_iff_getElem?.1 (List.mem_of_find?_eq_some hf)
    by_cases e : i = j
    · subst e; rw [hi] at hj; cases hj; rfl
    · exact absurd h2.symm (ho.apart i j x y e hi hj)

/-- How many aren't scanned. -/
def unscN (N : Nat) (c : Col) : Nat := (List.range N).countP fun n : Nat => !c.sc (n : Int)
def unsc (c : Col) : Nat := unscN 2049 c
theorem countP_lt {p q : Nat → Bool} : ∀ (l : List Nat) (a : Nat), a ∈ l → p a = true → q a = false → (∀ x, q x = true → p x = true) → l.countP q + 1 ≤ l.countP p
  | [], a, h, _, _, _ => by cases h
  | b :: l, a, h, h1, h2, h3 => by
    rw [List.countP_cons, List.countP_cons]
    rcases List.mem_cons.1 h with e | e
    · subst e
      rw [h1, h2]
      have : l.countP q ≤ l.countP p := List.countP_mono_left (fun x _ hx => h3 x hx)
      simp; omega
    · have ih := countP_lt l a e h1 h2 h3
      cases hq : q b with
      | true => rw [h3 b hq]; simp; omega
      | false => cases p b <;> simp <;> omega
theorem unscN_lt {N : Nat} {c c' : Col} {x : Int} (h1 : 0 ≤ x) (h2 : x < N) (hs : c.sc x = false) (hc : c'.sc = updI c.sc x true) : unscN N c' + 1 ≤ unscN N c := by
  unfold unscN
  obtain ⟨n, rfl⟩ : ∃ n : Nat, x = (n : Int) := ⟨x.toNat, by omega⟩
  refine countP_lt (p := fun n : Nat => !c.sc (n : Int)) (q := fun n : Nat => !c'.sc (n : Int)) (List.range N) n (List.mem_range.2 (by omega)) (by show (!c.sc (n : Int)) = true; rw [hs]; rfl) (by show (!c'.sc (n : Int)) = false; rw [hc, updI_at]; rfl) fun y hy => ?_
  have hy2 : (!c'.sc (y : Int)) = true := hy
  show (!c.sc (y : Int)) = true
  rw [hc] at hy2
  by_cases e : (y : Int) = (n : Int)
  · rw [e, updI_at] at hy2; cases hy2
  · rw [updI_ne e] at hy2; exact hy2
theorem unsc_lt {c c' : Col} {x : Int} (h1 : 0 ≤ x) (h2 : x < 2049) (hs : c.sc x = false) (hc : c'.sc = updI c.sc x true) : unsc c' + 1 ≤ unsc c := unscN_lt h1 h2 hs hc
theorem unscN_le (N : Nat) (c : Col) : unscN N c ≤ N := by
  unfold unscN
  have := List.countP_le_length (p := fun n : Nat => !c.sc (n : Int)) (l := List.range N)
  rw [List.length_range] at this
  exact this
theorem unsc_le (c : Col) : unsc c ≤ 2049 := unscN_le 2049 c
/-- How far the end is. -/
def topG (c : Col) (st : List Int) : Bool := match st.getLast? with
  | some r => greyC c r
  | none => false
def farT (c : Col) (st : List Int) (ov : Bool) : Nat := unsc c * 10000 + if topG c st = true then 0 else (if ov = true then 5000 else 0) + st.length + 1
theorem farT_le (c : Col) (st : List Int) (ov : Bool) (h : st.length ≤ 4096) : farT c st ov ≤ unsc c * 10000 + 9097 := by
  unfold farT
  split
  · omega
  · split <;> omega
theorem farT_pop {c : Col} {st : List Int} {r : Int} {ov : Bool} (h : greyC c r = false) : farT c st ov < farT c (st ++ [r]) ov := by
  have e : topG c (st ++ [r]) = false := by unfold topG; simp [h]
  have e2 : farT c (st ++ [r]) ov = unsc c * 10000 + ((if ov = true then 5000 else 0) + (st.length + 1) + 1) := by
    unfold farT; rw [if_neg (by rw [e]; simp)]; simp
  rw [e2]
  unfold farT
  split <;> omega
theorem farT_scan {c c' : Col} {st st' : List Int} {ov ov' : Bool} (h : unsc c' + 1 ≤ unsc c) (hl : st'.length ≤ 4096) : farT c' st' ov' < farT c st ov := by
  have h1 := farT_le c' st' ov' hl
  have h2 : unsc c * 10000 ≤ farT c st ov := by unfold farT; omega
  omega
theorem farT_refill {c : Col} {st : List Int} {ov : Bool} {room : Int} (h : Refilled c room st ov) : farT c st ov < farT c [] true := by
  have e0 : topG c [] = false := rfl
  have e1 : farT c [] true = unsc c * 10000 + 5001 := by unfold farT; rw [if_neg (by rw [e0]; simp)]; simp
  rw [e1]
  rcases List.eq_nil_or_concat st with e | ⟨q, r, e⟩
  · have := h.nil e
    subst e
    rw [this]
    unfold farT
    rw [if_neg (by rw [e0]; simp)]; simp
  · have hr := h.is r (by rw [e]; simp)
    have : topG c st = true := by unfold topG; rw [e]; simp [hr]
    unfold farT
    rw [if_pos this]; omega

/-- What holds between two rounds of a trace. -/
def TrA (T : MkB) (w : World) (X : ArB) (obs : List Ob) (c : Col) (n : Int) (k : Nat) (v5 : Value) (wx : World) : Prop :=
  ∃ (T1 : MkB) (c1 : Col) (l : List Int) (S S2 : Nat → Bool) (room : Int) (st : List Int) (ov : Bool), v5 = .int .i64 (l.length : Int) ∧ MkMem wx T1 X.a S S2 room st ov ∧ MkOk S S2 room st ov c1 ∧ MkStep T w T1 wx ∧ Scans (ptsAt obs) c l c1 ∧ (l.length : Int) ≤ max n 0 ∧ (∀ x, c1.ma x = true → x ∈ refsI obs) ∧ l.length + unsc c1 ≤ 2049 ∧ farT c1 st ov ≤ k
/-- What a trace leaves. -/
def TrEnd (T : MkB) (w : World) (xa : Nat) (obs : List Ob) (c : Col) (n : Int) (e : Ending) (w' : World) : Prop :=
  ∃ (T' : MkB) (c' : Col) (l : List Int), e = .returned (.int .i64 (l.length : Int)) ∧ MkAt w' T' xa c' ∧ MkStep T w T' w' ∧ Scans (ptsAt obs) c l c' ∧ (l.length : Int) ≤ max n 0 ∧ ((l.length : Int) < n → c'.dry)
section
variable {w wr w' w1 : World} {T T' T1 : MkB} {X : ArB} {s : ArS} {S S2 : Nat → Bool} {c : Col} {room : Int} {st : List Int} {ov : Bool} {obs : List Ob}
theorem inAr_of (ho : Objs s obs) (h : ∀ x, c.ma x = true → x ∈ refsI obs) : InAr s c := fun x hx => by
  obtain ⟨y, hy, rfl⟩ := List.mem_map.1 (h x hx)
  obtain ⟨i, hi⟩ := List.mem_iff_getElem?.1 hy
  rw [inS_nat]; exact (ho.at_ i y hi).S
theorem pts_in0 (hc : Closed obs) {x : Ob} (hx : x ∈ obs) {j : Nat} (hj : j < x.k) (h0 : nz x.F j = true) : x.F j ∈ refsI obs := by
  rcases hc x hx j hj with e | ⟨z, hz, e⟩
  · unfold nz at h0; rw [e] at h0; simp at h0
  · rw [e]; exact List.mem_map.2 ⟨z, hz, rfl⟩
set_option maxRecDepth 100000 in
set_option maxHeartbeats 4000000 in
theorem mkTrace (h : MkAt w T X.a c) (hs : MkSide w T X s) (ho : Objs s obs) (hcl : Closed obs) (hin : ∀ x, c.ma x = true → x ∈ refsI obs) (n : Int) :
    Calls Tryz.prog 16 #[.pointer (some ⟨T.m, 0, none⟩), .int .i64 n] w (TrEnd T w X.a obs c n) := by
  obtain ⟨S, S2, room, st, ov, hM, hO⟩ := h.ex
  have h0 : TrA T w X obs c n (farT c st ov) (.int .i64 0) w := ⟨T, c, [], S, S2, room, st, ov, rfl, hM, hO, MkStep.refl _ _, .nil c, by simp; omega, hin, by simpa using unsc_le c, Nat.le_refl _⟩
  clear hM hO
  generalize farT c st ov = n0 at h0
  go_enter Tryz.func16, Tryz.ntmps16
  go_wp2_with fail
  go_loopg [5] n0 (fun k v5 wx => TrA T w X obs c n k v5 wx)
  case atStart => exact h0
  case round =>
    clear h0
    obtain ⟨T1, c1, l, S, S2, room, st, ov, rfl, hM, hO, hS, hsc, hl, hin1, hun, hfar⟩ := hrel
    have hm : T1.m = T.m := hS.m
    have c3 := hM.c3
    rw [hm] at c3
    have hs1 := hs.step hS
    have HF := Lib.hid hfar
    have HM := Lib.hid hm
    clear hfar hm
    by_cases hd : (l.length : Int) < n
    · rcases List.eq_nil_or_concat st with e | ⟨q, r, e⟩
      · subst e
        have cP := hM.gr.popNo
        have cO := hM.gr.over
        cases ov with
        | false =>
          have hend : TrEnd T w X.a obs c n (.returned (.int .i64 (l.length : Int))) wr := ⟨T1, c1, l, rfl, ⟨S, S2, room, [], false, hM, hO⟩, hS, hsc, hl, fun _ x hx => by
            cases hsx : c1.sc x with
            | true => rfl
            | false => rcases hO.grey x hx hsx with e | e
                       · cases e
                       · cases e⟩
          have HE := Lib.hid hend
          clear hend
          go_wp2_with fail
          refine cP.mono ?_
          rintro e w1 ⟨rfl, rfl⟩
          clear cP
          go_wp2_with fail
          refine cO.mono ?_
          rintro e w1 ⟨rfl, rfl⟩
          clear cO
          go_wp2_with fail
          go_ret
          exact HE.out
        | true =>
          have cR := mkRefill hM hO.ma hO.sc hO.sub hO.r1 hO.r2 hs1 (inAr_of ho hin1)
          rw [HM.out] at cR
          have HI := Lib.hid (And.intro hO (And.intro hS (And.intro hsc (And.intro hl (And.intro hin1 hun)))))
          clear hO hS hsc hl hin1 hun
          go_wp2_with fail
          refine cP.mono ?_
          rintro e w1 ⟨rfl, rfl⟩
          clear cP
          go_wp2_with fail
          refine cO.mono ?_
          rintro e w1 ⟨rfl, rfl⟩
          clear cO
          go_wp2_with fail
          refine cR.mono ?_
          rintro e w3 ⟨rfl, T3, st3, ov3, hM3, hS3, hR3⟩
          obtain ⟨hO, hS, hsc, hl, hin1, hun⟩ := HI.out
          have hlt := farT_refill hR3
          have hA : TrA T w X obs c n (farT c1 st3 ov3) (.int .i64 (l.length : Int)) w3 :=
            ⟨T3, c1, l, S, S2, room, st3, ov3, rfl, hM3, ⟨hO.ma, hO.sc, hO.sub, hO.r1, hO.r2, hR3.len, fun y h1 h2 => hR3.all y (by unfold greyC; rw [h1, h2]; rfl)⟩, hS.trans hS3, hsc, hl, hin1, hun, Nat.le_refl _⟩
          have HA := Lib.hid hA
          have hk : farT c1 st3 ov3 < gk := Nat.lt_of_lt_of_le hlt HF.out
          generalize farT c1 st3 ov3 = k3 at *
          have HK := Lib.hid hk
          clear hA hlt hk cR hO hS hsc hl hin1 hun hM3 hS3 hR3
          go_wp2_with fail
          go_roundg k3
          case measure => exact HK.out
          case rel => exact HA.out
      · rw [List.concat_eq_append] at e
        subst e
        have hqd : q.length ≤ 100000 := by have h1 := hO.len; have h2 := hO.r2; simp at h1; omega
        have cP := hM.gr.pop hqd
        have HI := Lib.hid (And.intro hO (And.intro hS (And.intro hsc (And.intro hl (And.intro hin1 hun)))))
        clear hO hS hsc hl hin1 hun
        go_wp2_with fail
        refine cP.mono ?_
        rintro e w1 ⟨rfl, G, hG, hSG⟩
        obtain ⟨T2, _, hM2, hS2⟩ := hM.turn3 hG hSG
        obtain ⟨hO, hS, hsc, hl, hin1, hun⟩ := HI.out
        have hs2 := hs1.step hS2
        have hm2 : T2.m = T.m := hS2.m.trans HM.out
        have hee : MkSees w1 T2 X s S S2 c1 := hM2.sees hO.ma hO.sc hO.sub hs2 (inAr_of ho hin1)
        obtain ⟨t, ht⟩ : ∃ t, greyC c1 r = t := ⟨_, rfl⟩
        have cG := mkIsGrey hee r t ht
        rw [hm2] at cG
        have HM2 := Lib.hid hm2
        clear cP hG hSG hO hS hsc hl hin1 hun hm2
        go_wp2_with fail
        refine cG.mono ?_
        rintro e w2 ⟨rfl, hB⟩
        have hM3 := hM2.below hB
        have hs3 := hs2.below hB
        obtain ⟨hO, hS, hsc, hl, hin1, hun⟩ := HI.out
        have hS3 := (hS.trans hS2).then_ hB
        clear cG hee
        cases t with
        | false =>
          have hlt := farT_pop (st := q) (ov := ov) ht
          have hA : TrA T w X obs c n (farT c1 q ov) (.int .i64 (l.length : Int)) w2 :=
            ⟨T2, c1, l, S, S2, room, q, ov, rfl, hM3, ⟨hO.ma, hO.sc, hO.sub, hO.r1, hO.r2, by have := hO.len; simp at this; omega, fun y h1 h2 => by
              rcases hO.grey y h1 h2 with e | e
              · rcases List.mem_append.1 e with e2 | e2
                · exact .inl e2
                · have e3 : y = r := by simpa using e2
                  rw [← e3] at ht; unfold greyC at ht; rw [h1, h2] at ht; cases ht
              · exact .inr e⟩, hS3, hsc, hl, hin1, hun, Nat.le_refl _⟩
          have HA := Lib.hid hA
          have hk : farT c1 q ov < gk := Nat.lt_of_lt_of_le hlt HF.out
          generalize farT c1 q ov = k3 at *
          have HK := Lib.hid hk
          clear hA hlt hk ht hO hS hsc hl hin1 hun hM3 hS3 hs3
          go_wp2_with fail
          go_roundg k3
          case measure => exact HK.out
          case rel => exact HA.out
        | true =>
          have hma : c1.ma r = true := by unfold greyC at ht; cases hm : c1.ma r with | true => rfl | false => rw [hm] at ht; cases ht
          have hsf : c1.sc r = false := by unfold greyC at ht; rw [hma] at ht; simpa using ht
          have hin := inAr_of ho hin1 r hma
          obtain ⟨y, hy, hyr⟩ := List.mem_map.1 (hin1 r hma)
          obtain ⟨i, hi⟩ := List.mem_iff_getElem?.1 hy
          have hR : Reads s r y.k y.F := by rw [← hyr]; exact (ho.at_ i y hi).reads hs3.ar.fits
          have hox : MkOx r S S2 room q ov c1 := ⟨hO.ma, hO.sc, hO.sub, hO.r1, hO.r2, by have := hO.len; simp at this; omega, fun z h1 h2 h3 => by
            rcases hO.grey z h1 h2 with e | e
            · rcases List.mem_append.1 e with e2 | e2
              · exact .inl e2
              · exact absurd (by simpa using e2) h3
            · exact .inr e⟩
          have cC := mkScan r hM3 hox hs3 hin hma y.k y.F hR (fun j hj h0 => by
            obtain ⟨z, hz, hze⟩ := List.mem_map.1 (pts_in0 hcl hy hj h0)
            obtain ⟨i2, hi2⟩ := List.mem_iff_getElem?.1 hz
            rw [← hze, inS_nat]; exact (ho.at_ i2 z hi2).S)
          rw [HM2.out] at cC
          have hsn : (⟨c1.ma, updI c1.sc r true⟩ : Col).shades ((elems (nz y.F) y.k).map y.F) = c1.scan (ptsAt obs) r := by
            unfold Col.shades Col.scan
            rw [← hyr, ptsAt_mem ho hy]; rfl
          rw [hsn] at cC
          obtain ⟨hx1, hx2⟩ := inS_of hs3.ar.toArMem hs3.P hin
          have hx3 : r < 2049 := by have h3 := hs3.P; have h4 := hs3.ar.p64; omega
          have hu := unsc_lt (c := c1) (c' := c1.scan (ptsAt obs) r) hx1 hx3 hsf rfl
          have hll : (l.length : Int) < 2049 := by omega
          have HI3 := Lib.hid (And.intro hma (And.intro hsf (And.intro hu (And.intro hy hyr))))
          have HI4 := Lib.hid hS3
          have HI5 := Lib.hid (And.intro hl (And.intro hun hsc))
          clear hO hS hsc hl hin1 hun hM3 hS3 ht hma hsf hin hy hyr hi hR hox hsn hu
          go_wp2_with fail
          refine cC.mono ?_
          rintro e w3 ⟨rfl, T4, hA4, hS4⟩
          obtain ⟨S4, S42, room4, st4, ov4, hM4, hO4⟩ := hA4.ex
          obtain ⟨hma, hsf, hu, hy, hyr⟩ := HI3.out
          obtain ⟨hl, hun, hsc⟩ := HI5.out
          have hlt : farT (c1.scan (ptsAt obs) r) st4 ov4 < farT c1 (q ++ [r]) ov := farT_scan hu (by have := hO4.len; have := hO4.r2; omega)
          have hA : TrA T w X obs c n (farT (c1.scan (ptsAt obs) r) st4 ov4) (.int .i64 ((l.length : Int) + 1)) w3 :=
            ⟨T4, c1.scan (ptsAt obs) r, l ++ [r], S4, S42, room4, st4, ov4, by simp, hM4, hO4, HI4.out.trans hS4, hsc.trans (.cons hma hsf (.nil _)), by simp; omega, fun z hz => by
              have hz2 : (c1.ma z || decide (z ∈ ptsAt obs r)) = true := hz
              cases e : c1.ma z with
              | true => exact HI.out.2.2.2.2.1 z e
              | false =>
                rw [e] at hz2
                have e2 : z ∈ ptsAt obs r := by simpa using hz2
                rw [← hyr, ptsAt_mem ho hy] at e2
                unfold pts at e2
                obtain ⟨j, hj, rfl⟩ := List.mem_map.1 e2
                unfold elems at hj
                have hj2 := List.mem_filter.1 hj
                exact pts_in0 hcl hy (List.mem_range.1 hj2.1) hj2.2, by simp; omega, Nat.le_refl _⟩
          have HA := Lib.hid hA
          have hk : farT (c1.scan (ptsAt obs) r) st4 ov4 < gk := Nat.lt_of_lt_of_le hlt HF.out
          generalize farT (c1.scan (ptsAt obs) r) st4 ov4 = k3 at *
          have HK := Lib.hid hk
          clear hA hlt hk hma hsf hu hy hyr hl hun hsc hM4 hO4 hS4 hA4 cC
          go_wp2_with fail
          go_roundg k3
          case measure => exact HK.out
          case rel => exact HA.out
    · have hend : TrEnd T w X.a obs c n (.returned (.int .i64 (l.length : Int))) wr := ⟨T1, c1, l, rfl, ⟨S, S2, room, st, ov, hM, hO⟩, hS, hsc, hl, fun h => absurd h hd⟩
      have HE := Lib.hid hend
      clear hend
      go_wp2_with fail
      go_ret
      exact HE.out
end
end Go.Proofs.YtooddbhlanjfbaaGreatDoor

namespace Go.Proofs.YtooddbhlanjfbaaGreatDoor
open Go Go.RowKit Go.Shelf Go.MuLone Go.RwLone
set_option linter.unusedSimpArgs false
set_option linter.unusedVariables false
attribute [local go_sem] Oper.semAt_some

section
variable {w wr w' w1 : World} {T T' T1 : MkB} {X : ArB} {s : ArS} {c : Col} {obs : List Ob}
set_option maxHeartbeats 4000000 in
theorem mkNewM (hA : ArMem wr X s) (room : Int) (hr : room ≤ 4096) : Calls Tryz.prog 12 #[.pointer (some ⟨X.a, 0, none⟩), .int .i64 room] wr fun e w' =>
    ∃ T : MkB, e = .returned (.pointer (some ⟨T.m, 0, none⟩)) ∧ T.n = 32 * s.P + 1 ∧ MkAt w' T X.a Col.white ∧ (∀ k, T.has k → wr.heap.size ≤ k) ∧ Below wr.heap.size wr w' := by
  have cS := size_any hA
  have hp := hA.p64
  obtain ⟨n, hn⟩ : ∃ n, n = 32 * s.P + 1 := ⟨_, rfl⟩
  rw [← hn] at cS
  have hn4 : (n : Int) ≤ 4096 := by omega
  have HN := Lib.hid hn
  clear hn hp
  go_enter Tryz.func12, Tryz.ntmps12
  go_wp2_with fail
  refine cS.mono ?_
  rintro e w' ⟨rfl, rfl⟩
  go_wp2_with fail
  refine (new_at (n : Int) hn4 wr n (by simp)).mono ?_
  rintro e w1 ⟨b, hb, rfl, hS1, hT1⟩
  have cS1 := size_any (hA.turn hT1 (fun _ _ h => h))
  rw [← HN.out] at cS1
  clear cS
  go_wp2_with fail
  refine cS1.mono ?_
  rintro e w' ⟨rfl, rfl⟩
  go_wp2_with fail
  refine (new_at (n : Int) hn4 w1 n (by simp)).mono ?_
  rintro e w2 ⟨b2, hb2, rfl, hS2, hT2⟩
  clear cS1
  obtain ⟨r0, hr0⟩ : ∃ r0 : Int, (if room < 1 then 1 else room) = r0 := ⟨_, rfl⟩
  have HR := Lib.hid hr0
  go_wp2_with fail
  refine (grNew r0 w2).mono ?_
  rintro e w3 ⟨G, rfl, hG, hGn, hB3⟩
  clear hr0
  go_wp2_with fail
  go_ret
  have hB4 := (Below.refl w3.heap.size w3).alloc (Nat.le_refl _) (.cells #[.pointer (some ⟨X.a, 0, none⟩), .pointer (some ⟨b, 0, none⟩), .pointer (some ⟨b2, 0, none⟩), .pointer (some ⟨G.s, 0, none⟩)] 89)
  have hT34 : Turn (fun _ => False) w2 (w3.alloc (.cells #[.pointer (some ⟨X.a, 0, none⟩), .pointer (some ⟨b, 0, none⟩), .pointer (some ⟨b2, 0, none⟩), .pointer (some ⟨G.s, 0, none⟩)] 89)) :=
    ((Turn.ofBelow hB3).mono fun i hi e => absurd hi (by omega)).alloc _
  have hS1' := hS1.turn (hT2.trans hT34 fun _ _ h => h) (fun h => h) (fun _ _ h => h)
  have hS2' := hS2.turn hT34 (fun h => h) (fun _ _ h => h)
  have hG' := hG.below hB4
  have hbl := hS1.lt.1
  have hb2l := hS2.lt.1
  have hs1 := hT1.size
  have hs2 := hT2.size
  have hs3 := hB3.size
  refine ⟨⟨w3.heap.size, b, none, b2, none, G, n⟩, rfl, HN.out, ⟨_, _, r0, [], false, ⟨Blk.new w3 _ _, hS1', hS2', hG', ⟨(by show b ≠ b2; omega), (fun l e => by cases e), (fun l e => by cases e), (fun l e => by cases e)⟩⟩, ?_⟩, ?_, ?_⟩
  · have hw : (fun _ => false : Int → Bool) = inS (fun _ => false) := by funext y; simp [inS]
    have h1 : 1 ≤ r0 ∧ r0 ≤ 4096 := by rw [← HR.out]; split <;> omega
    exact ⟨hw, hw, fun y hy => (by cases hy), h1.1, h1.2, by simp; omega, fun y hy => (by cases hy)⟩
  · rintro k (e | (e | e) | (e | e) | e)
    · have e2 : k = w3.heap.size := e
      omega
    · have e2 : k = b := e
      omega
    · cases e
    · have e2 : k = b2 := e
      omega
    · cases e
    · have := hGn k e; omega
  · exact (((hT1.trans hT2 fun _ _ h => h).trans hT34 fun _ _ h => h).below wr.heap.size (Nat.le_refl _) fun _ _ h => h)
end

theorem mkf1 : newR (.new 2) 1 = 1 := by decide +kernel
theorem mkf2 : newE (.new 2) 1 = 0 := by decide +kernel
theorem mkf3 : newR ((ArS.new 2).newS 1) 1 = 5 := by decide +kernel
theorem mkf4 : newE ((ArS.new 2).newS 1) 1 = 0 := by decide +kernel
def fitObs : List Ob := [⟨1, 1, 0, upd (fun _ => 0) 0 5⟩, ⟨5, 1, 0, fun _ => 0⟩]
theorem fit_pts : ptsAt fitObs 1 = [5] := by decide +kernel
theorem fit_refs : refsI fitObs = [1, 5] := by decide +kernel
theorem fit_closed : Closed fitObs := by
  intro x hx j hj
  unfold fitObs at hx
  rcases List.mem_cons.1 hx with e | e
  · subst e
    have hj2 : j < 1 := hj
    obtain rfl : j = 0 := by omega
    exact .inr ⟨⟨5, 1, 0, fun _ => 0⟩, by unfold fitObs; simp, rfl⟩
  · have e2 := List.mem_singleton.1 e
    subst e2
    exact .inl rfl
/-- What one scan leaves of two objects, the first of which was shaded. -/
theorem fit_scan {c' : Col} {l : List Int} {n : Int} (h : Scans (ptsAt fitObs) ((Col.white.shade 1).shade 1) l c') (h1 : (l.length : Int) ≤ max 1 0) (h2 : (l.length : Int) < 1 → c'.dry) :
    l.length = 1 ∧ c'.sc 1 = true ∧ c'.ma 5 = true ∧ c'.sc 5 = false ∧ ¬ c'.dry ∧ ∀ x, c'.ma x = true → x ∈ refsI fitObs := by
  cases h with
  | nil =>
    have := h2 (by simp) 1 rfl
    cases this
  | cons hm hs hr =>
    rename_i x l
    obtain rfl : x = 1 := by
      have hm2 : updI (updI (fun _ => false) 1 true) 1 true x = true := hm
      by_cases e : x = 1
      · exact e
      · rw [updI_ne e, updI_ne e] at hm2; cases hm2
    cases hr with
    | nil =>
      refine ⟨rfl, ?_, ?_, ?_, fun hd => ?_, fun x hx => ?_⟩
      · rfl
      · show (((Col.white.shade 1).shade 1).ma 5 || decide ((5 : Int) ∈ ptsAt fitObs 1)) = true
        rw [fit_pts]; rfl
      · rfl
      · have := hd 5 (by
          show (((Col.white.shade 1).shade 1).ma 5 || decide ((5 : Int) ∈ ptsAt fitObs 1)) = true
          rw [fit_pts]; rfl)
        cases this
      · have hx2 : (((Col.white.shade 1).shade 1).ma x || decide (x ∈ ptsAt fitObs 1)) = true := hx
        rw [fit_pts] at hx2
        rw [fit_refs]
        by_cases e : x = 1
        · rw [e]; simp
        · have hm3 : ((Col.white.shade 1).shade 1).ma x = false := by
            show updI (updI (fun _ => false) 1 true) 1 true x = false
            rw [updI_ne e, updI_ne e]
          rw [hm3] at hx2
          have : x = 5 := by simpa using hx2
          rw [this]; simp
    | cons _ _ _ => simp at h1; omega
end Go.Proofs.YtooddbhlanjfbaaGreatDoor
