/- The iterator over those with a mark that are so: told, All, greys; at this seat's numbers. -/
import Derived.Test.YtooddbhlanjfbaaGreatDoorGmN
import Derived.Test.YtooddbhlanjfbaaGreatDoorRange
namespace Go.Proofs.YtooddbhlanjfbaaGreatDoor
open Go Go.RowKit Go.Shelf Go.MuLone Go.RwLone
set_option linter.unusedSimpArgs false
set_option linter.unusedVariables false
attribute [local go_sem] Oper.semAt_some

theorem own_below {β : Type} {n0 : Nat} {J : β → World → Prop} (hJ : OwnFrom n0 J) {x : β} {W W' : World} (h : J x W) (hB : Below W.heap.size W W') : J x W' :=
  hJ x W W' none h ⟨hB.os, hB.tape, hB.output, hB.size, fun k hk _ => hB.block k hk⟩ (fun r e => by cases e)
def toldWorld (m : Nat) (f : Nat) (w : World) : World := (w.alloc (.cells #[.pointer (some ⟨m, 0, none⟩)] 37)).alloc (.cells #[.func (.func f) #[] #[]] 108)
theorem told_any (m f : Nat) (w : World) :
    Calls Tryz.prog 60 #[.pointer (some ⟨m, 0, none⟩), .func (.func f) #[] #[]] w fun e w' => e = .returned (.func (.func 86) #[] #[.pointer (some ⟨w.heap.size, 0, none⟩), .pointer (some ⟨w.heap.size + 1, 0, none⟩)]) ∧ toldWorld m f w = w' := by
  unfold toldWorld
  go_enter Tryz.func60, Tryz.ntmps60
  go_wp2_with fail
  go_ret
  exact ⟨rfl, rfl⟩
theorem allm_any (m : Nat) (w : World) :
    Calls Tryz.prog 33 #[.pointer (some ⟨m, 0, none⟩)] w fun e w' => e = .returned (.func (.func 86) #[] #[.pointer (some ⟨w.heap.size, 0, none⟩), .pointer (some ⟨w.heap.size + 1, 0, none⟩)]) ∧ toldWorld m 23 w = w' := by
  have cT := told_any m 23 w
  go_enter Tryz.func33, Tryz.ntmps33
  go_wp2_with fail
  refine cT.mono ?_
  rintro e w' ⟨rfl, rfl⟩
  go_wp2_with fail
  go_ret
  exact ⟨rfl, rfl⟩
theorem greys_any (m : Nat) (w : World) :
    Calls Tryz.prog 54 #[.pointer (some ⟨m, 0, none⟩)] w fun e w' => e = .returned (.func (.func 86) #[] #[.pointer (some ⟨w.heap.size, 0, none⟩), .pointer (some ⟨w.heap.size + 1, 0, none⟩)]) ∧ toldWorld m 46 w = w' := by
  have cT := told_any m 46 w
  go_enter Tryz.func54, Tryz.ntmps54
  go_wp2_with fail
  refine cT.mono ?_
  rintro e w' ⟨rfl, rfl⟩
  go_wp2_with fail
  go_ret
  exact ⟨rfl, rfl⟩

abbrev InMk (S : Nat → Bool) (f : Int → Bool) : Type := { x : Fin 4096 // S x.val = true ∧ f ((x.val : Nat) : Int) = true }
def tmArgs {S : Nat → Bool} {f : Int → Bool} (x : InMk S f) : Array Value := #[.int .i64 ((x.1.val : Nat) : Int)]
def tmVals {S : Nat → Bool} {f : Int → Bool} (q : List (InMk S f)) : List Nat := q.map fun x => x.1.val
theorem tmVals_append {S : Nat → Bool} {f : Int → Bool} (p q : List (InMk S f)) : tmVals (p ++ q) = tmVals p ++ tmVals q := by unfold tmVals; exact List.map_append
theorem tmVals_length {S : Nat → Bool} {f : Int → Bool} (q : List (InMk S f)) : (tmVals q).length = q.length := by unfold tmVals; exact List.length_map _
/-- Of some numbers those that are so. -/
def soL (f : Int → Bool) (l : List Nat) : List Nat := l.filter fun n => f (n : Int)
theorem soL_yes {f : Int → Bool} {l : List Nat} {n : Nat} (h : f (n : Int) = true) : soL f (l ++ [n]) = soL f l ++ [n] := by unfold soL; rw [List.filter_append]; simp [h]
theorem soL_no {f : Int → Bool} {l : List Nat} {n : Nat} (h : f (n : Int) = false) : soL f (l ++ [n]) = soL f l := by unfold soL; rw [List.filter_append]; simp [h]
theorem soL_length (f : Int → Bool) (l : List Nat) : (soL f l).length ≤ l.length := by unfold soL; exact List.length_filter_le _ _

/-- What a round over a marker's objects keeps: its sets, its arena, the closure's boxes, the table. -/
def KpMk (T : MkB) (X : ArB) (B : Nat) (W W' : World) : Prop :=
  (∀ k, T.sets k → W'.heap[k]? = W.heap[k]?) ∧ (∀ k, X.has k → W'.heap[k]? = W.heap[k]?) ∧ (W'.heap[B]? = W.heap[B]? ∧ W'.heap[B + 1]? = W.heap[B + 1]?) ∧ W'.heap[(1 : Nat)]? = W.heap[(1 : Nat)]?
theorem KpMk.trans {T : MkB} {X : ArB} {B : Nat} {A C D : World} (h : KpMk T X B A C) (k : KpMk T X B C D) : KpMk T X B A D :=
  ⟨fun i hi => (k.1 i hi).trans (h.1 i hi), fun i hi => (k.2.1 i hi).trans (h.2.1 i hi), ⟨k.2.2.1.1.trans h.2.2.1.1, k.2.2.1.2.trans h.2.2.1.2⟩, k.2.2.2.trans h.2.2.2⟩
theorem KpMk.putObj {T : MkB} {X : ArB} {B : Nat} {n0 : Nat} (hT : ∀ k, T.sets k → k < n0) (hX : ∀ k, X.has k → k < n0) (hB : B + 1 < n0) (ht : (1 : Nat) < n0) (W : World) (l : Nat) (o : Obj) (h : n0 ≤ l) : KpMk T X B W (W.putObj l o) :=
  ⟨fun k hk => World.putObj_heap_other (by have := hT k hk; omega), fun k hk => World.putObj_heap_other (by have := hX k hk; omega), ⟨World.putObj_heap_other (by omega), World.putObj_heap_other (by omega)⟩, World.putObj_heap_other (by have := ht; omega)⟩
theorem KpMk.ofTurn {T : MkB} {X : ArB} {B : Nat} {M : Nat → Prop} {W W' : World} (h : Turn M W W') (hT : ∀ k, T.sets k → k < W.heap.size ∧ ¬ M k) (hX : ∀ k, X.has k → k < W.heap.size ∧ ¬ M k) (hB : B + 1 < W.heap.size) (hB1 : ¬ M B) (hB2 : ¬ M (B + 1)) (ht : (1 : Nat) < W.heap.size) (ht2 : ¬ M 1) : KpMk T X B W W' :=
  ⟨fun k hk => h.block k (hT k hk).1 (hT k hk).2, fun k hk => h.block k (hX k hk).1 (hX k hk).2, ⟨h.block _ (by omega) hB1, h.block _ hB hB2⟩, h.block _ ht ht2⟩
section
variable {w w' : World} {T : MkB} {X : ArB} {s : ArS} {S S2 : Nat → Bool} {c : Col}
theorem ArMem.keepA (h : ArMem w X s) (hk : ∀ k, X.has k → w'.heap[k]? = w.heap[k]?) : ArMem w' X s :=
  ⟨by have h1 := h.head; unfold Blk at *; rw [hk _ (.inl rfl)]; exact h1, by have h1 := h.page; unfold Blk at *; rw [hk _ (.inr (.inl rfl))]; exact h1, by have h1 := h.word; unfold Blk at *; rw [hk _ (.inr (.inr (.inl rfl)))]; exact h1,
    h.set.keep (hk _ (.inr (.inr (.inr (.inl rfl))))) (fun l e => hk l (.inr (.inr (.inr (.inr e))))), h.ne, h.p64⟩
theorem MkSees.keep (h : MkSees w T X s S S2 c) (hk : ∀ k, T.sets k → w'.heap[k]? = w.heap[k]?) (hX : ∀ k, X.has k → w'.heap[k]? = w.heap[k]?) : MkSees w' T X s S S2 c :=
  ⟨by have h1 := h.head; unfold Blk at *; rw [hk _ (.inl rfl)]; exact h1, h.s1.keep (hk _ (.inr (.inl (.inl rfl)))) (fun l e => hk l (.inr (.inl (.inr e)))), h.s2.keep (hk _ (.inr (.inr (.inl rfl)))) (fun l e => hk l (.inr (.inr (.inr e)))), h.ar.keepA hX, h.ma, h.sc, h.sub, h.inn⟩
theorem TabAt.keep (h : TabAt w) (hk : w'.heap[(1 : Nat)]? = w.heap[(1 : Nat)]?) : TabAt w' := fun j hj => (World.cell?_of_block (w := w) (a := ⟨1, j, none⟩) hk).trans (h j hj)
/-- What is so can be asked for. -/
def Asks (T : MkB) (X : ArB) (s : ArS) (S S2 : Nat → Bool) (c : Col) (g : Nat) (f : Int → Bool) : Prop :=
  ∀ (x : Int) (t : Bool) (V : World), MkSees V T X s S S2 c → f x = t → Calls Tryz.prog g #[.pointer (some ⟨T.m, 0, none⟩), .int .i64 x] V fun e V' => e = .returned (.bool t) ∧ Below V.heap.size V V'
theorem asks_marked : Asks T X s S S2 c 23 c.ma := fun x t V h ht => mkMarked h x t ht
theorem asks_grey : Asks T X s S S2 c 46 (greyC c) := fun x t V h ht => mkIsGrey h x t ht
end

set_option maxRecDepth 100000 in
set_option maxHeartbeats 4000000 in
theorem told_seq (n : Nat) (hn : 8 ≤ n) {T : MkB} {X : ArB} {s : ArS} {S S2 : Nat → Bool} {c : Col} (g : Nat) (f : Int → Bool) (hg : Asks T X s S S2 c g f) (eg : ∀ args w, (callFunc g args).run Tryz.prog w = .ok (.enter g args) w) (hf : ∀ k : Nat, f (k : Int) = true → S k = true) (B : Nat) (w : World) (hA : MkSees w T X s S S2 c) (hT : TabAt w)
    (hB : w.cell? ⟨B, 0, none⟩ = some (.pointer (some ⟨T.m, 0, none⟩))) (hB2 : w.cell? ⟨B + 1, 0, none⟩ = some (.func (.func g) #[] #[])) :
    SeqO Fence.wide n Tryz.prog 86 #[.pointer (some ⟨B, 0, none⟩), .pointer (some ⟨B + 1, 0, none⟩)] (tmArgs (S := S) (f := f)) (KpMk T X B)
      (fun xs => tmVals xs = soL f (elems S T.n)) (fun pre => ∃ j, tmVals pre = soL f (elems S j)) T.n w := fun l J Jx W hW hJ hJx hY h0 => by
  replace hA := hA.below hW
  have hBl := World.block_lt_of_cell? w _ hB
  have hBl2 := World.block_lt_of_cell? w _ hB2
  replace hB := (hW.cell (p := ⟨B, 0, none⟩) hBl).trans hB
  replace hB2 := (hW.cell (p := ⟨B + 1, 0, none⟩) hBl2).trans hB2
  replace hT : TabAt W := fun j hj => (hW.cell (p := ⟨1, j, none⟩) hT.lt).trans (hT j hj)
  have hTlt := hT.lt
  have hB2lt : B + 1 < W.heap.size := World.block_lt_of_cell? W _ hB2
  refine callsIn_of_wp_marks Tryz.func86 rfl (by trivial) ?_ rfl
  simp only [Tryz.ntmps86, List.size_toArray, List.length_cons, List.length_nil, Nat.reduceAdd, Nat.reduceSub, Array.replicate_succ, Array.replicate_zero, List.push_toArray, List.append_toArray, List.nil_append, List.cons_append]
  obtain ⟨V, hV⟩ : ∃ V, V = W.alloc (.cells #[.func (.yield l) #[] #[]] 45) := ⟨_, rfl⟩
  have hAV : MkSees V T X s S S2 c := by rw [hV]; exact hA.alloc _
  have hBV : V.cell? ⟨B, 0, none⟩ = some (.pointer (some ⟨T.m, 0, none⟩)) := by rw [hV]; exact cell_allocKeep hB _
  have hB2V : V.cell? ⟨B + 1, 0, none⟩ = some (.func (.func g) #[] #[]) := by rw [hV]; exact cell_allocKeep hB2 _
  have hTV : TabAt V := fun j hj => by rw [hV]; exact cell_allocKeep (hT j hj) _
  have hYV : V.cell? ⟨W.heap.size, 0, none⟩ = some (.func (.yield l) #[] #[]) := by rw [hV]; exact (Blk.new W _ _).cell 0
  have hVs : V.heap.size = W.heap.size + 1 := by rw [hV]; simp
  have hJV : J ([], fun _ => False) V := by rw [hV]; exact hJ.alloc _ h0
  have hc1 := hAV.c1
  have hcB : (W.alloc (.cells #[.func (.yield l) #[] #[]] 45)).cell? ⟨B, 0, none⟩ = some (.pointer (some ⟨T.m, 0, none⟩)) := by rw [← hV]; exact hBV
  rw [hV] at hc1
  have HV := Lib.hid hV
  clear hV
  gi_wp2_with fail
  refine ⟨trivial, fun h => (by cases h), ?_⟩
  rw [← HV.out]
  refine (callsIn_wide.2 (all_any T.b V)).mono ?_
  rintro e w' ⟨rfl, rfl⟩
  clear hc1 hcB
  have hA6 := hAV.alloc (.cells #[.pointer (some ⟨T.b, 0, none⟩)] 84)
  have hT6 : TabAt (V.alloc (.cells #[.pointer (some ⟨T.b, 0, none⟩)] 84)) := fun j hj => cell_allocKeep (hTV j hj) _
  have hY6 : (V.alloc (.cells #[.pointer (some ⟨T.b, 0, none⟩)] 84)).cell? ⟨W.heap.size, 0, none⟩ = some (.func (.yield l) #[] #[]) := cell_allocKeep hYV _
  have hB6 : (V.alloc (.cells #[.pointer (some ⟨T.b, 0, none⟩)] 84)).cell? ⟨B, 0, none⟩ = some (.pointer (some ⟨T.m, 0, none⟩)) := cell_allocKeep hBV _
  have hB26 : (V.alloc (.cells #[.pointer (some ⟨T.b, 0, none⟩)] 84)).cell? ⟨B + 1, 0, none⟩ = some (.func (.func g) #[] #[]) := cell_allocKeep hB2V _
  have hx : (V.alloc (.cells #[.pointer (some ⟨T.b, 0, none⟩)] 84)).cell? ⟨V.heap.size, 0, none⟩ = some (.pointer (some ⟨T.b, 0, none⟩)) := (Blk.new V _ _).cell 0
  have hs6 : (V.alloc (.cells #[.pointer (some ⟨T.b, 0, none⟩)] 84)).heap.size = V.heap.size + 1 := by simp
  have hJ6 : J ([], fun _ => False) (V.alloc (.cells #[.pointer (some ⟨T.b, 0, none⟩)] 84)) := hJ.alloc _ hJV
  gi_wp2_with fail
  generalize V.alloc (.cells #[.pointer (some ⟨T.b, 0, none⟩)] 84) = W6 at *
  generalize V.heap.size = s1 at *
  obtain rfl : s1 = W.heap.size + 1 := hVs
  have hA6lt := hA6.lt
  have hX6lt := hA6.ar.lt
  have hs1 : W.heap.size + 1 + 1 ≤ W6.heap.size := by omega
  have hT6lt := hT6.lt
  refine wpIn_rangeO rfl (by omega) (gf := 91) (lb := #[.pointer (some ⟨W.heap.size + 1, 0, none⟩)]) rfl trivial (enters_of Tryz.func91 (by kernel_rfl) rfl)
    (SeqO.ofK (all_stopsF (n - 1) T.b T.lo (W.heap.size + 1) T.n S W6 hA6.s1 hT6 hx)) KpSet.trans
    (fun V l o hl => KpSet.putObj (n0 := W6.heap.size) (hA6lt _ (.inr (.inl (.inl rfl)))) (fun l hl => hA6lt _ (.inr (.inl (.inr hl)))) (by omega) (by omega) V l o hl) (Below.refl _ _) (fun _ => rfl)
    (fun st V => (∃ q : List (InMk S f), tmVals q = soL f (st.1.map Fin.val) ∧ J (q, st.2) V) ∧ MkSees V T X s S S2 c ∧ (V.cell? ⟨B, 0, none⟩ = some (.pointer (some ⟨T.m, 0, none⟩)) ∧ V.cell? ⟨B + 1, 0, none⟩ = some (.func (.func g) #[] #[]) ∧ V.cell? ⟨W.heap.size, 0, none⟩ = some (.func (.yield l) #[] #[])) ∧ W6.heap.size ≤ V.heap.size ∧ ∀ k, st.2 k → W6.heap.size ≤ k)
    (fun c st V => c = .ret ∧ ∃ q : List (InMk S f), tmVals q = soL f (st.1.map Fin.val) ∧ Jx (q, st.2) V)
    (fun st V V' row hs hg hr => ⟨by
      obtain ⟨q, hq, hj⟩ := hs.1
      exact ⟨q, hq, hJ (q, st.2) V V' row hj hg (fun k e => ⟨by have := (hr k e).1; omega, (hr k e).2⟩)⟩, hs.2.1.keep (fun k hk => hg.block k (hs.2.1.lt k hk) (fun e => by have := (hr k e.symm).1; have := hA6lt k hk; omega)) (fun k hk => hg.block k (hs.2.1.ar.lt k hk) (fun e => by have := (hr k e.symm).1; have := hX6lt k hk; omega)), ⟨cell_kept hs.2.2.1.1 hg (fun k e => (hr k e).2), cell_kept hs.2.2.1.2.1 hg (fun k e => (hr k e).2), cell_kept hs.2.2.1.2.2 hg (fun k e => (hr k e).2)⟩, Nat.le_trans hs.2.2.2.1 hg.size, hs.2.2.2.2⟩)
    (fun c st V V' row hs hg hr => ⟨hs.1, by
      obtain ⟨q, hq, hj⟩ := hs.2
      exact ⟨q, hq, hJx (q, st.2) V V' row hj hg (fun k e => ⟨by have := (hr k e).1; omega, (hr k e).2⟩)⟩⟩)
    ⟨⟨[], rfl, hJ6⟩, hA6, ⟨hB6, hB26, hY6⟩, Nat.le_refl _, fun _ h => h.elim⟩ ?a1 ?assign ?body ?done ?stop
  case assign =>
    intro l0 x V K hK
    gi_wp2
    exact hK
  case body =>
    rintro l0 pre O x V ⟨⟨q, hq, hj⟩, hS, ⟨hcB, hcB2, hcY⟩, hsz, hO⟩ hlen
    have hqlen : q.length < T.n := by
      have h1 : (tmVals q).length = (soL f (pre.map Fin.val)).length := congrArg List.length hq
      rw [tmVals_length] at h1
      have h2 := soL_length f (pre.map Fin.val)
      rw [List.length_map] at h2
      omega
    have HQ := Lib.hid hq
    clear hq
    obtain ⟨t, ht⟩ : ∃ t, f ((x.val : Nat) : Int) = t := ⟨_, rfl⟩
    have cG := hg ((x.val : Nat) : Int) t V hS ht
    have HT := Lib.hid ht
    clear ht
    gi_wp2_with fail
    refine ⟨trivial, fun h => (by cases h), ?_⟩
    refine ((callsIn_wide.2 cG).inRound l0).mono ?_
    rintro e V1 ⟨rfl, hB1⟩
    have hS1 := hS.below hB1
    have hcB1 := (hB1.cell (p := ⟨B, 0, none⟩) (World.block_lt_of_cell? V _ hcB)).trans hcB
    have hcB21 := (hB1.cell (p := ⟨B + 1, 0, none⟩) (World.block_lt_of_cell? V _ hcB2)).trans hcB2
    have hcY1 := (hB1.cell (p := ⟨W.heap.size, 0, none⟩) (World.block_lt_of_cell? V _ hcY)).trans hcY
    have hj1 : J (q, O) V1 := own_below hJ hj hB1
    have hsz1 : W6.heap.size ≤ V1.heap.size := Nat.le_trans hsz hB1.size
    have hOw : Owned W6.heap.size O O V V1 := ⟨hB1.size, fun k hk hkl _ => hB1.block k hkl, fun k e => .inl e⟩
    have hKp : KpSet T.b T.lo (W.heap.size + 1) V V1 := KpSet.ofBelow (n0 := W6.heap.size) (hB1.mono hsz) (hA6lt _ (.inr (.inl (.inl rfl)))) (fun l hl => hA6lt _ (.inr (.inl (.inr hl)))) (by omega) (by omega)
    cases t with
    | false =>
      have hq2 : soL f ((pre ++ [x]).map Fin.val) = soL f (pre.map Fin.val) := by rw [List.map_append]; exact soL_no HT.out
      have HQ2 := Lib.hid hq2
      have HK := Lib.hid (And.intro hOw hKp)
      clear hq2 hOw hKp cG
      gi_wp2_with fail
      refine ⟨fun f h => (by cases h), ?_⟩
      gi_wp2_with fail
      exact ⟨O, HK.out.1, HK.out.2, ⟨q, HQ.out.trans HQ2.out.symm, hj1⟩, hS1, ⟨hcB1, hcB21, hcY1⟩, hsz1, hO⟩
    | true =>
      have hq2 : soL f ((pre ++ [x]).map Fin.val) = soL f (pre.map Fin.val) ++ [x.val] := by rw [List.map_append]; exact soL_yes HT.out
      obtain ⟨y, hyv⟩ : ∃ y : InMk S f, y.1 = x := ⟨⟨x, hf _ HT.out, HT.out⟩, rfl⟩
      have hY' := YieldAt.anyWide (n - 1 - 1 - 1) (hY q O y V1 hj1 hqlen)
      unfold tmArgs at hY'
      rw [hyv] at hY'
      have HV := Lib.hid hyv
      obtain ⟨fn, tmps, assign, body, hy, hY2⟩ := hY'
      have HQ2 := Lib.hid hq2
      have HK := Lib.hid (And.intro hOw hKp)
      clear hq2 hOw hKp cG hyv
      gi_wp2_with fail
      refine ⟨fun _ => by omega, ?_⟩
      have hY3 : RoundIn (Fence.wide.inRound l0) (n - 1 - 1 - 1) Tryz.prog l fn tmps assign body V1 _ := hY2
      refine hY3.mono ?_
      rintro e V3 ⟨O', ho, ⟨rfl, hj3, hk3⟩ | ⟨rfl, hj3⟩⟩
      · clear hY3 hY2 hy
        have hOs : ∀ k, k < W6.heap.size → ¬ O k := fun k hk e => by have h1 : W6.heap.size ≤ k := hO k e; omega
        have hy3 : V3.cell? ⟨W.heap.size, 0, none⟩ = some (.func (.yield l) #[] #[]) := (World.cell?_of_block (w := V1) (a := ⟨W.heap.size, 0, none⟩) (ho.same W.heap.size (Nat.le_refl _) (by omega) (hOs _ (by omega)))).trans hcY1
        have hb3 : V3.cell? ⟨B, 0, none⟩ = some (.pointer (some ⟨T.m, 0, none⟩)) := (World.cell?_of_block (w := V1) (a := ⟨B, 0, none⟩) hk3.2.2.1.1).trans hcB1
        have hb32 : V3.cell? ⟨B + 1, 0, none⟩ = some (.func (.func g) #[] #[]) := (World.cell?_of_block (w := V1) (a := ⟨B + 1, 0, none⟩) hk3.2.2.1.2).trans hcB21
        have hS3 := hS1.keep hk3.1 hk3.2.1
        have hKp3 : KpSet T.b T.lo (W.heap.size + 1) V1 V3 := ⟨hk3.1 _ (.inr (.inl (.inl rfl))), fun l hl => hk3.1 _ (.inr (.inl (.inr hl))), ho.same _ (by omega) (by omega) (hOs _ (by omega)), hk3.2.2.2⟩
        have HK3 := Lib.hid hKp3
        have hq3 : tmVals (q ++ [y]) = soL f ((pre ++ [x]).map Fin.val) := by rw [HQ2.out, tmVals_append, HQ.out]; unfold tmVals; rw [List.map_cons, List.map_nil, HV.out]
        have HQ3 := Lib.hid hq3
        clear hq3 hKp3
        gi_wp2_with fail
        refine ⟨O', HK.out.1.trans (ho.mono (by omega)), HK.out.2.trans HK3.out, ⟨_, HQ3.out, hj3⟩, hS3, ⟨hb3, hb32, hy3⟩, Nat.le_trans hsz1 ho.size, fun k hk => ?_⟩
        rcases ho.own k hk with h | h
        · exact hO k h
        · omega
      · clear hY3 hY2 hy
        have hq3 : tmVals (q ++ [y]) = soL f ((pre ++ [x]).map Fin.val) := by rw [HQ2.out, tmVals_append, HQ.out]; unfold tmVals; rw [List.map_cons, List.map_nil, HV.out]
        have HQ3 := Lib.hid hq3
        clear hq3
        gi_wp2_with fail
        exact ⟨O', HK.out.1.trans (ho.mono (by omega)), rfl, _, HQ3.out, hj3⟩
  case done =>
    rintro D xs O V hD hxs ⟨⟨q, hq, hj⟩, _⟩ hK
    have HQ := Lib.hid hq
    have HX := Lib.hid hxs
    clear hq hxs
    gi_wp2_with fail
    refine ⟨by simp, .inl ⟨D, _, rfl, run_takeDeferred hK, ?_⟩⟩
    exact ⟨_, results_none rfl _ _ _, ⟨_, rfl⟩, .inl ⟨q, by rw [HQ.out, HX.out], O, hJ.putObj _ hj (by omega) hK rfl⟩⟩
  case stop =>
    rintro D c pre O V hD hsp ⟨rfl, q, hq, hj⟩ hK
    have HQ := Lib.hid hq
    have HX := Lib.hid hsp
    clear hq hsp
    gi_wp2_with fail
    refine ⟨by simp, .inl ⟨D, _, rfl, run_takeDeferred hK, ?_⟩⟩
    obtain ⟨i, j, _, h2⟩ := HX.out
    exact ⟨_, results_none rfl _ _ _, ⟨_, rfl⟩, .inr ⟨q, ⟨j + 1, by rw [HQ.out, h2]⟩, O, hJx.putObj _ hj (by omega) hK rfl⟩⟩
end Go.Proofs.YtooddbhlanjfbaaGreatDoor
