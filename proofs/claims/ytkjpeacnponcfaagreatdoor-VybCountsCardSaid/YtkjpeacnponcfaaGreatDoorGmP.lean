/- A marker's Count, Drained and refill; at this seat's numbers. -/
import Derived.Test.YtkjpeacnponcfaaGreatDoorGmI
import Derived.Test.YtkjpeacnponcfaaGreatDoorGoB
namespace Go.Proofs.YtkjpeacnponcfaaGreatDoor
open Go Go.RowKit Go.Shelf Go.MuLone Go.RwLone
set_option linter.unusedSimpArgs false
set_option linter.unusedVariables false
attribute [local go_sem] Oper.semAt_some

theorem elems_nodup (S : Nat → Bool) (n : Nat) : (elems S n).Nodup := by unfold elems; exact List.nodup_range.filter _
theorem soL_mem {f : Int → Bool} {S : Nat → Bool} (hS : ∀ k : Nat, f (k : Int) = true → S k = true) {N : Nat} (hn : ∀ i, S i = true → i < N) (k : Nat) : k ∈ soL f (elems S N) ↔ f (k : Int) = true := by
  unfold soL elems
  rw [List.mem_filter, List.mem_filter, List.mem_range]
  exact ⟨fun h => h.2, fun h => ⟨⟨hn k (hS k h), hS k h⟩, h⟩⟩
theorem soL_nodup (f : Int → Bool) (S : Nat → Bool) (n : Nat) : (soL f (elems S n)).Nodup := by unfold soL; exact (elems_nodup S n).filter _
section
variable {w wr w' : World} {T : MkB} {X : ArB} {s : ArS} {S S2 : Nat → Bool} {c : Col}
theorem MkSees.maS (h : MkSees w T X s S S2 c) : ∀ k : Nat, c.ma (k : Int) = true → S k = true := fun k hk => by rw [h.ma, inS_nat] at hk; exact hk
theorem MkSees.greyS (h : MkSees w T X s S S2 c) : ∀ k : Nat, greyC c (k : Int) = true → S k = true := fun k hk => h.maS k (by unfold greyC at hk; cases hm : c.ma (k : Int) with | true => rfl | false => rw [hm] at hk; cases hk)
theorem MkSees.nonneg (h : MkSees w T X s S S2 c) {x : Int} (hx : c.ma x = true) : ∃ k : Nat, x = (k : Int) := by
  rw [h.ma] at hx
  have : 0 ≤ x := by have : 0 ≤ x ∧ S x.toNat = true := by simpa [inS] using hx
                     exact this.1
  exact ⟨x.toNat, by omega⟩
theorem toldW_facts (m f : Nat) (w : World) : (toldWorld m f w).cell? ⟨w.heap.size, 0, none⟩ = some (.pointer (some ⟨m, 0, none⟩)) ∧ (toldWorld m f w).cell? ⟨w.heap.size + 1, 0, none⟩ = some (.func (.func f) #[] #[]) ∧ Below w.heap.size w (toldWorld m f w) ∧ (toldWorld m f w).heap.size = w.heap.size + 2 := by
  have hB1 := (Below.refl w.heap.size w).alloc (Nat.le_refl _) (.cells #[.pointer (some ⟨m, 0, none⟩)] 33)
  have hB2 := hB1.alloc (by simp) (.cells #[.func (.func f) #[] #[]] 119)
  have h1 := (Blk.new w #[.pointer (some ⟨m, 0, none⟩)] 33).alloc (.cells #[.func (.func f) #[] #[]] 119)
  have h2 := Blk.new (w.alloc (.cells #[.pointer (some ⟨m, 0, none⟩)] 33)) #[.func (.func f) #[] #[]] 119
  rw [World.size_alloc] at h2
  exact ⟨h1.cell 0, h2.cell 0, hB2, by unfold toldWorld; simp⟩

set_option maxRecDepth 100000 in
set_option maxHeartbeats 4000000 in
theorem mkCount (h : MkSees wr T X s S S2 c) (hT : TabAt wr) (n : Nat) (hn : (soL c.ma (elems S T.n)).length = n) : Calls Tryz.prog 18 #[.pointer (some ⟨T.m, 0, none⟩)] wr fun e w' =>
    e = .returned (.int .i64 (n : Int)) ∧ Below wr.heap.size wr w' := by
  obtain ⟨M, hM⟩ : ∃ M : Nat, 10 ≤ M := ⟨10, Nat.le_refl _⟩
  have HC := Lib.hid hn
  clear hn
  have hB1 := (Below.refl wr.heap.size wr).alloc (Nat.le_refl _) (.cells #[.int .i64 0] 3)
  have h1 := h.below hB1
  have hT1 : TabAt (wr.alloc (.cells #[.int .i64 0] 3)) := fun j hj => cell_allocKeep (hT j hj) _
  have hk := Blk.new wr #[.int .i64 0] 3
  have hs1 : (wr.alloc (.cells #[.int .i64 0] 3)).heap.size = wr.heap.size + 1 := by simp
  have HS1 := Lib.hid hs1
  refine calls_of_wp_marks Tryz.func18 rfl M ?_
  simp only [Tryz.ntmps18, List.size_toArray, List.length_cons, List.length_nil, Nat.reduceAdd, Nat.reduceSub, Array.replicate_succ, Array.replicate_zero, List.push_toArray, List.append_toArray, List.nil_append, List.cons_append]
  clear hs1
  gi_wp2_with fail
  refine ⟨trivial, fun h => (by cases h), ?_⟩
  generalize wr.alloc (.cells #[.int .i64 0] 3) = W1 at *
  refine (callsIn_wide.2 (allm_any T.m W1)).mono ?_
  rintro e w' ⟨rfl, rfl⟩
  obtain ⟨e0, e1, hB2, hs2⟩ := toldW_facts T.m 21 W1
  have hs1 := HS1.out
  have h7 := h1.below hB2
  have hT7 : TabAt (toldWorld T.m 21 W1) := fun j hj => (hB2.cell (p := ⟨1, j, none⟩) hT1.lt).trans (hT1 j hj)
  have hk7 := hk.turn (Turn.ofBelow hB2) (fun e => by omega)
  have hb7 := hB1.trans (hB2.mono (by omega))
  have hX := Lib.hid (And.intro e0 e1)
  have HS2 := Lib.hid (And.intro hs1 hs2)
  clear e0 e1 hs1 hs2 hB2 h1 hT1
  gi_wp2_with fail
  obtain ⟨hs1, hs2⟩ := HS2.out
  obtain ⟨e0, e1⟩ := hX.out
  generalize toldWorld T.m 21 W1 = V7 at *
  have hlt7 := h7.lt
  have hXlt7 := h7.ar.lt
  have hTlt7 := hT7.lt
  have hlt := h.lt
  have hXlt := h.ar.lt
  have hTlt := hT.lt
  refine wpIn_rangeO rfl (by omega) (gf := 64) (lb := #[.pointer (some ⟨W1.heap.size, 0, none⟩), .pointer (some ⟨W1.heap.size + 1, 0, none⟩)]) rfl trivial (enters_of Tryz.func64 (by kernel_rfl) rfl)
    (told_seq (M - 1) (by omega) 21 c.ma asks_marked (enters_of Tryz.func21 (by kernel_rfl) rfl) h7.maS W1.heap.size V7 h7 hT7 e0 e1) KpMk.trans
    (fun V l o hl => KpMk.putObj (n0 := V7.heap.size) hlt7 hXlt7 (by omega) (by omega) V l o hl) (Below.refl _ _) (fun _ => rfl)
    (fun st V => Blk V wr.heap.size #[.int .i64 (st.1.length : Int)] 3 ∧ Below wr.heap.size wr V ∧ V7.heap.size ≤ V.heap.size)
    (fun c st V => False)
    (fun s V V' row hs hg hr => ⟨hs.1.kept hg (fun r e => (hr r e).2), (ownFrom_below (β := Unit) (Nat.le_refl _) (by omega)) () V V' row hs.2.1 hg hr, Nat.le_trans hs.2.2 hg.size⟩)
    (fun c s V V' row hs hg hr => hs)
    ⟨hk7, hb7, Nat.le_refl _⟩ ?a1 ?assign ?body ?done ?stop
  case assign =>
    intro l0 x W K hK
    unfold tmArgs
    gi_wp2
    exact hK
  case body =>
    rintro l0 pre O x V ⟨hk, hbl, hVs⟩ hpl
    have ck := hk.cell 0
    have zk := hk.free 0
    simp only [List.getElem?_toArray, List.getElem?_cons_zero] at ck
    have hTn : Turn (fun k => k = wr.heap.size) V (V.setCell ⟨wr.heap.size, 0, none⟩ (.int .i64 ((pre.length : Int) + 1))) := (Turn.refl _ V).set _ _ (.inr rfl)
    have hkp : KpMk T X W1.heap.size V (V.setCell ⟨wr.heap.size, 0, none⟩ (.int .i64 ((pre.length : Int) + 1))) := KpMk.ofTurn hTn (fun k hk => ⟨by have := hlt7 k hk; omega, fun e => by have := hlt k hk; omega⟩) (fun k hk => ⟨by have := hXlt7 k hk; omega, fun e => by have := hXlt k hk; omega⟩) (by omega) (by omega) (by omega) (by omega) (by omega)
    have hbl2 := hbl.setCell (p := ⟨wr.heap.size, 0, none⟩) (Nat.le_refl _) (.int .i64 ((pre.length : Int) + 1))
    have hk2 : Blk (V.setCell ⟨wr.heap.size, 0, none⟩ (.int .i64 ((pre.length : Int) + 1))) wr.heap.size #[.int .i64 ((pre ++ [x]).length : Int)] 3 := by
      refine (hk.setAt 0 _).is ?_
      have e : (((pre ++ [x]).length : Nat) : Int) = (pre.length : Int) + 1 := by simp
      rw [e]; simp
    have hO : Owned V7.heap.size O O V (V.setCell ⟨wr.heap.size, 0, none⟩ (.int .i64 ((pre.length : Int) + 1))) := Owned.ofTurn hTn (fun k e => by omega)
    have HG := Lib.hid (And.intro hk2 (And.intro hbl2 (show V7.heap.size ≤ (V.setCell ⟨wr.heap.size, 0, none⟩ (.int .i64 ((pre.length : Int) + 1))).heap.size by simpa using hVs)))
    have HKP := Lib.hid (And.intro hkp hO)
    have hpl2 : (pre.length : Int) ≤ 4096 := by have := h.s1.1; omega
    clear hTn hkp hbl2 hk2 hk hO
    gi_wp2_with fail
    exact ⟨O, HKP.out.2, HKP.out.1, HG.out⟩
  case done =>
    rintro D xs O V hD hxs ⟨hk, hbl, hVs⟩ hK
    have ck := hk.cell 0
    simp only [List.getElem?_toArray, List.getElem?_cons_zero] at ck
    have hlen : xs.length = n := by
      rw [← HC.out, ← tmVals_length xs]
      exact congrArg List.length hxs
    rw [hlen] at ck
    have hDl : D < V.heap.size := (Array.getElem?_eq_some_iff.mp hK).1
    clear hxs hlen hk HC
    gi_wp2_with fail
    refine leavesP_marks (B := wr.heap.size) (hi := D + 1) ⟨D, rfl, by omega, by omega, hK, trivial⟩ (by omega) fun w' hb _ _ => ?_
    exact ⟨_, by simp [results, Tryz.f18, go_sem], rfl, hbl.trans hb⟩
  case stop =>
    rintro D c pre O V hD _ h
    exact h.elim

end
end Go.Proofs.YtkjpeacnponcfaaGreatDoor
