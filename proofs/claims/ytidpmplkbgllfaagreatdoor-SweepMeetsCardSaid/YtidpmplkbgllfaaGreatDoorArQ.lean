/- All: the iterator over an arena's taken cells, at this seat's numbers. -/
import Derived.Test.YtidpmplkbgllfaaGreatDoorUc
import Derived.Test.YtidpmplkbgllfaaGreatDoorRange
namespace Go.Proofs.YtidpmplkbgllfaaGreatDoor
open Go Go.RowKit Go.Shelf Go.MuLone Go.RwLone
set_option linter.unusedSimpArgs false
set_option linter.unusedVariables false
attribute [local go_sem] Oper.semAt_some

theorem allfn_any (a : Nat) (w : World) :
    Calls Tryz.prog 13 #[.pointer (some ⟨a, 0, none⟩)] w fun e w' => e = .returned (.func (.func 36) #[] #[.pointer (some ⟨w.heap.size, 0, none⟩)]) ∧ w.alloc (.cells #[.pointer (some ⟨a, 0, none⟩)] 27) = w' := by
  go_enter Tryz.func13, Tryz.ntmps13
  go_wp2_with fail
  go_ret
  exact ⟨rfl, rfl⟩

/-- What a round over an arena's cells keeps: the arena, the table, the closure's box. -/
def KpAll (X : ArB) (B : Nat) (W W' : World) : Prop :=
  (∀ k, X.has k → W'.heap[k]? = W.heap[k]?) ∧ W'.heap[B]? = W.heap[B]? ∧ W'.heap[(1 : Nat)]? = W.heap[(1 : Nat)]?
theorem KpAll.trans {X : ArB} {B : Nat} {A C D : World} (h : KpAll X B A C) (k : KpAll X B C D) : KpAll X B A D :=
  ⟨fun i hi => (k.1 i hi).trans (h.1 i hi), k.2.1.trans h.2.1, k.2.2.trans h.2.2⟩
theorem KpAll.putObj {X : ArB} {B : Nat} {n0 : Nat} (hX : ∀ k, X.has k → k < n0) (hB : B < n0) (ht : (1 : Nat) < n0) (W : World) (l : Nat) (o : Obj) (h : n0 ≤ l) : KpAll X B W (W.putObj l o) :=
  ⟨fun k hk => World.putObj_heap_other (by have := hX k hk; omega), World.putObj_heap_other (by omega), World.putObj_heap_other (by have := ht; omega)⟩
theorem KpAll.ofTurn {X : ArB} {B : Nat} {M : Nat → Prop} {W W' : World} (h : Turn M W W') (hX : ∀ k, X.has k → k < W.heap.size ∧ ¬ M k) (hB : B < W.heap.size) (hB2 : ¬ M B) (ht : (1 : Nat) < W.heap.size) (ht2 : ¬ M 1) : KpAll X B W W' :=
  ⟨fun k hk => h.block k (hX k hk).1 (hX k hk).2, h.block _ hB hB2, h.block _ ht ht2⟩

set_option maxRecDepth 100000 in
set_option maxHeartbeats 4000000 in
/-- The iterator over all cells. -/
theorem allA_seq (n : Nat) (hn : 6 ≤ n) {X : ArB} {s : ArS} (B : Nat) (w : World) (hA : ArMem w X s) (hT : TabAt w) (hB : w.cell? ⟨B, 0, none⟩ = some (.pointer (some ⟨X.a, 0, none⟩))) :
    SeqO Fence.wide n Tryz.prog 36 #[.pointer (some ⟨B, 0, none⟩)] (fun x : Fin 4096 => #[.int .i64 ((x.val : Nat) : Int)]) (KpAll X B)
      (fun xs => xs.map Fin.val = elems s.S (32 * s.P + 1)) (fun pre => ∃ i j, NextIs s.S i j ∧ pre.map Fin.val = elems s.S (j + 1)) (32 * s.P + 1) w := fun l J Jx W hW hJ hJx hY h0 => by
  replace hA := hA.below hW
  have hBl := World.block_lt_of_cell? w _ hB
  replace hB := (hW.cell (p := ⟨B, 0, none⟩) hBl).trans hB
  replace hT : TabAt W := fun j hj => (hW.cell (p := ⟨1, j, none⟩) hT.lt).trans (hT j hj)
  have hc1 := hA.c1
  have hAlt := hA.lt
  have hTlt := hT.lt
  have hBl2 : B < W.heap.size := World.block_lt_of_cell? W _ hB
  refine callsIn_of_wp_marks Tryz.func36 rfl (by trivial) ?_ rfl
  simp only [Tryz.ntmps36, List.size_toArray, List.length_cons, List.length_nil, Nat.reduceAdd, Nat.reduceSub, Array.replicate_succ, Array.replicate_zero, List.push_toArray, List.append_toArray, List.nil_append, List.cons_append]
  obtain ⟨V, hV⟩ : ∃ V, V = W.alloc (.cells #[.func (.yield l) #[] #[]] 44) := ⟨_, rfl⟩
  have hAV : ArMem V X s := by rw [hV]; exact hA.turn ((Turn.refl (fun _ => False) W).alloc _) (fun _ _ h => h)
  have hBV : V.cell? ⟨B, 0, none⟩ = some (.pointer (some ⟨X.a, 0, none⟩)) := by rw [hV]; exact cell_allocKeep hB _
  have hTV : TabAt V := fun j hj => by rw [hV]; exact cell_allocKeep (hT j hj) _
  have hYV : V.cell? ⟨W.heap.size, 0, none⟩ = some (.func (.yield l) #[] #[]) := by rw [hV]; exact (Blk.new W _ _).cell 0
  have hVs : V.heap.size = W.heap.size + 1 := by rw [hV]; simp
  have hJV : J ([], fun _ => False) V := by rw [hV]; exact hJ.alloc _ h0
  have hc1 := hAV.c1
  have hcB : (W.alloc (.cells #[.func (.yield l) #[] #[]] 44)).cell? ⟨B, 0, none⟩ = some (.pointer (some ⟨X.a, 0, none⟩)) := by rw [← hV]; exact hBV
  rw [hV] at hc1
  have HV := Lib.hid hV
  clear hV
  gi_wp2_with fail
  refine ⟨trivial, fun h => (by cases h), ?_⟩
  rw [← HV.out]
  refine (callsIn_wide.2 (all_any X.b V)).mono ?_
  rintro e w' ⟨rfl, rfl⟩
  clear hc1 hcB
  have hA6 : ArMem (V.alloc (.cells #[.pointer (some ⟨X.b, 0, none⟩)] 63)) X s := hAV.turn ((Turn.refl (fun _ => False) V).alloc _) (fun _ _ h => h)
  have hT6 : TabAt (V.alloc (.cells #[.pointer (some ⟨X.b, 0, none⟩)] 63)) := fun j hj => cell_allocKeep (hTV j hj) _
  have hY6 : (V.alloc (.cells #[.pointer (some ⟨X.b, 0, none⟩)] 63)).cell? ⟨W.heap.size, 0, none⟩ = some (.func (.yield l) #[] #[]) := cell_allocKeep hYV _
  have hx : (V.alloc (.cells #[.pointer (some ⟨X.b, 0, none⟩)] 63)).cell? ⟨V.heap.size, 0, none⟩ = some (.pointer (some ⟨X.b, 0, none⟩)) := (Blk.new V _ _).cell 0
  have hs6 : (V.alloc (.cells #[.pointer (some ⟨X.b, 0, none⟩)] 63)).heap.size = V.heap.size + 1 := by simp
  have hJ6 : J ([], fun _ => False) (V.alloc (.cells #[.pointer (some ⟨X.b, 0, none⟩)] 63)) := hJ.alloc _ hJV
  gi_wp2_with fail
  generalize V.alloc (.cells #[.pointer (some ⟨X.b, 0, none⟩)] 63) = W6 at *
  generalize V.heap.size = s1 at *
  obtain rfl : s1 = W.heap.size + 1 := hVs
  have hA6lt := hA6.lt
  have hs1 : W.heap.size + 1 + 1 ≤ W6.heap.size := by omega
  have hT6lt := hT6.lt
  refine wpIn_rangeO rfl (by omega) (gf := 57) (lb := #[.pointer (some ⟨W.heap.size + 1, 0, none⟩)]) rfl trivial (enters_of Tryz.func57 (by kernel_rfl) rfl)
    (SeqO.ofK (all_stopsF (n - 1) X.b X.lo (W.heap.size + 1) (32 * s.P + 1) s.S W6 hA6.set hT6 hx)) KpSet.trans
    (fun V l o hl => KpSet.putObj (n0 := W6.heap.size) (hA6lt _ (.inr (.inr (.inr (.inl rfl))))) (fun l hl => hA6lt _ (.inr (.inr (.inr (.inr hl))))) (by omega) (by omega) V l o hl) (Below.refl _ _) (fun _ => rfl)
    (fun st V => J st V ∧ V.cell? ⟨W.heap.size, 0, none⟩ = some (.func (.yield l) #[] #[]) ∧ W6.heap.size ≤ V.heap.size ∧ ∀ k, st.2 k → W6.heap.size ≤ k)
    (fun c st V => c = .ret ∧ Jx st V)
    (fun st V V' row hs hg hr => ⟨hJ st V V' row hs.1 hg (fun k e => ⟨by have := (hr k e).1; omega, (hr k e).2⟩), cell_kept hs.2.1 hg (fun k e => (hr k e).2), Nat.le_trans hs.2.2.1 hg.size, hs.2.2.2⟩)
    (fun c st V V' row hs hg hr => ⟨hs.1, hJx st V V' row hs.2 hg (fun k e => ⟨by have := (hr k e).1; omega, (hr k e).2⟩)⟩)
    ⟨hJ6, hY6, Nat.le_refl _, fun _ h => h.elim⟩ ?a1 ?assign ?body ?done ?stop
  case assign =>
    intro l0 x V K hK
    gi_wp2
    exact hK
  case body =>
    rintro l0 pre O x V ⟨hj, hyc, hsz, hO⟩ hlen
    obtain ⟨fn, tmps, assign, body, hy, hY2⟩ := YieldAt.anyWide (n - 1 - 1 - 1) (hY pre O x V hj hlen)
    gi_wp2_with fail
    refine ⟨fun _ => by omega, ?_⟩
    have hY3 : RoundIn (Fence.wide.inRound l0) (n - 1 - 1 - 1) Tryz.prog l fn tmps assign body V _ := hY2
    refine hY3.mono ?_
    rintro e V3 ⟨O', ho, ⟨rfl, hj3, hk3⟩ | ⟨rfl, hj3⟩⟩
    · clear hY3 hY2 hy
      have hOs : ∀ k, k < W6.heap.size → ¬ O k := fun k hk e => by have h1 : W6.heap.size ≤ k := hO k e; omega
      have hy3 : V3.cell? ⟨W.heap.size, 0, none⟩ = some (.func (.yield l) #[] #[]) := (World.cell?_of_block (w := V) (a := ⟨W.heap.size, 0, none⟩) (ho.same W.heap.size (Nat.le_refl _) (by omega) (hOs _ (by omega)))).trans hyc
      gi_wp2_with fail
      refine ⟨O', ho.mono (by omega), ⟨hk3.1 _ (.inr (.inr (.inr (.inl rfl)))), fun l hl => hk3.1 _ (.inr (.inr (.inr (.inr hl)))), ho.same _ (by omega) (by omega) (hOs _ (by omega)), hk3.2.2⟩, hj3, hy3, Nat.le_trans hsz ho.size, fun k hk => ?_⟩
      rcases ho.own k hk with h | h
      · exact hO k h
      · omega
    · clear hY3 hY2 hy
      gi_wp2_with fail
      exact ⟨O', ho.mono (by omega), rfl, hj3⟩
  case done =>
    rintro D xs O V hD hxs ⟨hj, _⟩ hK
    gi_wp2_with fail
    refine ⟨by simp, .inl ⟨D, _, rfl, run_takeDeferred hK, ?_⟩⟩
    exact ⟨_, results_none rfl _ _ _, ⟨_, rfl⟩, .inl ⟨xs, hxs, O, hJ.putObj _ hj (by omega) hK rfl⟩⟩
  case stop =>
    rintro D c pre O V hD hsp ⟨rfl, hj⟩ hK
    gi_wp2_with fail
    refine ⟨by simp, .inl ⟨D, _, rfl, run_takeDeferred hK, ?_⟩⟩
    exact ⟨_, results_none rfl _ _ _, ⟨_, rfl⟩, .inr ⟨pre, O, hsp, hJx.putObj _ hj (by omega) hK rfl⟩⟩
end Go.Proofs.YtidpmplkbgllfaaGreatDoor
