/- All: the iterator over a table's roots; how many threads live; at this seat's numbers. -/
import Derived.Test.YtoemfehlnnbjdaaRtI
import Derived.Test.YtoemfehlnnbjdaaRanT
namespace Go.Proofs.Ytoemfehlnnbjdaa
open Go Go.RowKit Go.Shelf
set_option linter.unusedSimpArgs false
set_option linter.unusedVariables false
attribute [local go_sem] Oper.semAt_some

def rootsP (n : Nat) (p : Nat × TM) : List Int := rootsOf p.2.f n p.2.st
def allR (gl : List Int) (n : Nat) (th : Nat → Option TM) : List Int := nz gl ++ (liveT th 4).flatMap (rootsP n)
theorem KpRt.grown {R : RtB} {th : Nat → Option TM} {Bx b0 m : Nat} {W V V' : World} {row : Option Nat} (h : KpRt R th Bx b0 W V) (hT : ∀ k, R.has th k → k < m) (hB : Bx < m) (hm : m ≤ V.heap.size) (hg : V.grownBy V' row) (hr : ∀ r, row = some r → m ≤ r ∧ ∃ o : Obj, V.heap[r]? = some o ∧ o.isCells = false) : KpRt R th Bx b0 W V' :=
  ⟨fun k hk => (hg.block k (by have := hT k hk; omega) (fun e => by have := (hr k e.symm).1; have := hT k hk; omega)).trans (h.th k hk),
    (hg.block Bx (by omega) (fun e => by have := (hr Bx e.symm).1; omega)).trans h.box, fun k cs hb hk => (h.late k cs hb hk).keptT hg (fun r e => (hr r e).2)⟩
theorem OwnedT.grown {B m : Nat} {O O' : Nat → Prop} {W V V' : World} {row : Option Nat} (h : OwnedT B O O' W V) (hm : W.heap.size ≤ m) (hg : V.grownBy V' row) (hr : ∀ r, row = some r → m ≤ r) : OwnedT B O O' W V' := by
  have h1 := h.size
  have h2 := hg.size
  refine ⟨Nat.le_trans h.size hg.size, fun k hB hk hO => ?_, fun k hk => ?_⟩
  · exact (hg.block k (by omega) (fun e => by have := hr k e.symm; omega)).trans (h.same k hB hk hO)
  · rcases h.own k hk with e | e
    · exact .inl e
    · exact .inr ⟨e.1, by omega⟩
theorem def_grown {V V' : World} {row : Option Nat} {D m : Nat} {o : Obj} (h : V.heap[D]? = some o) (hD : D < m) (hg : V.grownBy V' row) (hr : ∀ r, row = some r → m ≤ r) : V'.heap[D]? = some o :=
  (hg.block D (Array.getElem?_eq_some_iff.1 h).1 (fun e => by have := hr D e.symm; omega)).trans h

/-- Between two threads whose roots are told. -/
structure AllI (R : RtB) (th : Nat → Option TM) (gl : List Int) (n Bx b0 Y D z m : Nat) (l : Nat) (J : List Int × (Nat → Prop) → World → Prop) (W : World) (xs : List (LiveOf th)) (O2 : Nat → Prop) (V : World) : Prop where
  ex : ∃ Oo : Nat → Prop, J (nz gl ++ xs.flatMap (fun x => rootsP n x.val), Oo) V ∧ (∀ k, Oo k → (D < k ∧ k ≠ z) ∧ k < V.heap.size) ∧ ∀ k, m ≤ k → Oo k → O2 k
  yc : V.cell? ⟨Y, 0, none⟩ = some (.func (.yield l) #[] #[])
  sz : m ≤ V.heap.size
  kp : KpRt R th Bx b0 W V
  df : V.heap[D]? = some (.deferred (some []))
structure AllX (th : Nat → Option TM) (gl : List Int) (n D : Nat) (Jx : List Int × (Nat → Prop) → World → Prop) (xs : List (LiveOf th)) (V : World) : Prop where
  ex : ∃ (q : List (LiveOf th)) (x : LiveOf th) (k : Nat) (Oo : Nat → Prop), xs = q ++ [x] ∧ k < (rootsP n x.val).length ∧ Jx (nz gl ++ q.flatMap (fun x => rootsP n x.val) ++ (rootsP n x.val).take (k + 1), Oo) V
  df : V.heap[D]? = some (.deferred (some []))
/-- Between two roots of a thread. -/
structure AllK (R : RtB) (th : Nat → Option TM) (n Bx b0 Y D z m m2 : Nat) (l : Nat) (J : List Int × (Nat → Prop) → World → Prop) (W : World) (V1 : World) (O2 : Nat → Prop) (b2 b3 : Nat) (pre0 ys : List Int) (O3 : Nat → Prop) (V : World) : Prop where
  ex : ∃ Oo : Nat → Prop, J (pre0 ++ ys, Oo) V ∧ (∀ k, Oo k → (D < k ∧ k ≠ z) ∧ k < V.heap.size ∧ (k < V1.heap.size ∨ m2 ≤ k)) ∧ (∀ k, m2 ≤ k → Oo k → O3 k) ∧ OwnedT m O2 (fun k => Oo k ∧ m ≤ k) V1 V
  yc : V.cell? ⟨Y, 0, none⟩ = some (.func (.yield l) #[] #[])
  sz : m2 ≤ V.heap.size
  kp : KpRt R th Bx b0 W V
  kp2 : KpRt R th b2 b3 V1 V
  df : V.heap[D]? = some (.deferred (some []))

section
variable {R : RtB} {th : Nat → Option TM} {gl : List Int} {n Bx b0 Y D z m m2 l b2 b3 : Nat} {J Jx : List Int × (Nat → Prop) → World → Prop} {W V1 V V' : World} {xs : List (LiveOf th)} {O2 O3 : Nat → Prop} {pre0 ys : List Int} {row : Option Nat}
theorem AllI.grown (h : AllI R th gl n Bx b0 Y D z m l J W xs O2 V) (hJ : OwnFrom W.heap.size J) (hWm : W.heap.size ≤ m) (hT : ∀ k, R.has th k → k < m) (hB : Bx < m) (hD : D < m) (hg : V.grownBy V' row) (hr : ∀ r, row = some r → m ≤ r ∧ ∃ o : Obj, V.heap[r]? = some o ∧ o.isCells = false) : AllI R th gl n Bx b0 Y D z m l J W xs O2 V' := by
  obtain ⟨Oo, h1, h2, h3⟩ := h.ex
  exact ⟨⟨Oo, hJ _ _ _ _ h1 hg (fun k e => ⟨by have := (hr k e).1; omega, (hr k e).2⟩), fun k hk => ⟨(h2 k hk).1, Nat.lt_of_lt_of_le (h2 k hk).2 hg.size⟩, h3⟩, cell_kept h.yc hg (fun k e => (hr k e).2), Nat.le_trans h.sz hg.size, h.kp.grown hT hB h.sz hg hr, def_grown h.df hD hg (fun r e => (hr r e).1)⟩
theorem AllX.grown (h : AllX th gl n D Jx xs V) (hJ : OwnFrom W.heap.size Jx) (hWm : W.heap.size ≤ m) (hD : D < m) (hg : V.grownBy V' row) (hr : ∀ r, row = some r → m ≤ r ∧ ∃ o : Obj, V.heap[r]? = some o ∧ o.isCells = false) : AllX th gl n D Jx xs V' := by
  obtain ⟨q, x, k, Oo, h1, h2, h3⟩ := h.ex
  exact ⟨⟨q, x, k, Oo, h1, h2, hJ _ _ _ _ h3 hg (fun k e => ⟨by have := (hr k e).1; omega, (hr k e).2⟩)⟩, def_grown h.df hD hg (fun r e => (hr r e).1)⟩
theorem AllK.grown (h : AllK R th n Bx b0 Y D z m m2 l J W V1 O2 b2 b3 pre0 ys O3 V) (hJ : OwnFrom W.heap.size J) (hWm : W.heap.size ≤ m2) (hV1 : V1.heap.size ≤ m2) (hT : ∀ k, R.has th k → k < m2) (hB : Bx < m2) (hb2 : b2 < m2) (hD : D < m2) (hg : V.grownBy V' row) (hr : ∀ r, row = some r → m2 ≤ r ∧ ∃ o : Obj, V.heap[r]? = some o ∧ o.isCells = false) : AllK R th n Bx b0 Y D z m m2 l J W V1 O2 b2 b3 pre0 ys O3 V' := by
  obtain ⟨Oo, h1, h2, h3, h4⟩ := h.ex
  exact ⟨⟨Oo, hJ _ _ _ _ h1 hg (fun k e => ⟨by have := (hr k e).1; omega, (hr k e).2⟩), fun k hk => ⟨(h2 k hk).1, Nat.lt_of_lt_of_le (h2 k hk).2.1 hg.size, (h2 k hk).2.2⟩, h3, h4.grown hV1 hg (fun r e => (hr r e).1)⟩, cell_kept h.yc hg (fun k e => (hr k e).2), Nat.le_trans h.sz hg.size, h.kp.grown hT hB h.sz hg hr, h.kp2.grown hT hb2 h.sz hg hr, def_grown h.df hD hg (fun r e => (hr r e).1)⟩
end
theorem rootsP_length {f : Nat → Int} {n : Nat} {st : List Int} : (rootsOf f n st).length ≤ n + st.length := by
  unfold rootsOf regRoots
  rw [List.length_append, List.length_map]
  have h1 := segR_length f 0 n
  have h2 := List.length_filter_le (fun r => r != 0) st
  omega
theorem flat_length {α : Type} {f : α → List Int} {M : Nat} (h : ∀ x, (f x).length ≤ M) : ∀ xs : List α, (xs.flatMap f).length ≤ xs.length * M
  | [] => by simp
  | x :: xs => by
    have h1 := flat_length h xs
    have h2 := h x
    rw [List.flatMap_cons, List.length_append, List.length_cons, Nat.add_mul]
    omega
theorem liveT_prefix (th : Nat → Option TM) (a : Nat) : ∀ d, liveT th a <+: liveT th (a + d)
  | 0 => List.prefix_refl _
  | d + 1 => (liveT_prefix th a d).trans (List.prefix_append _ _)
theorem allR_prefix {gl : List Int} {n : Nat} {th : Nat → Option TM} {q : List (LiveOf th)} {x : LiveOf th} {i k : Nat} {m : TM} (hi : i < 4) (hm : th i = some m) (h : (q ++ [x]).map Subtype.val = liveT th i ++ [(i, m)]) :
    nz gl ++ q.flatMap (fun x => rootsP n x.val) ++ (rootsP n x.val).take (k + 1) <+: allR gl n th := by
  rw [List.map_append] at h
  obtain ⟨h1, h2⟩ := List.append_inj' h rfl
  have e2 : x.val = (i, m) := by simpa using h2
  have e1 : q.flatMap (fun x => rootsP n x.val) = (liveT th i).flatMap (rootsP n) := by rw [← h1, List.flatMap_map]
  obtain ⟨t, ht⟩ := liveT_prefix th (i + 1) (3 - i)
  rw [show i + 1 + (3 - i) = 4 by omega, liveT_some hm] at ht
  unfold allR
  rw [← ht, e1, e2, List.flatMap_append, List.flatMap_append, List.flatMap_cons, List.flatMap_nil, List.append_nil, List.append_assoc, List.append_assoc]
  refine (List.prefix_append_right_inj _).2 ((List.prefix_append_right_inj _).2 ?_)
  exact (List.take_prefix _ _).trans (List.prefix_append _ _)

set_option maxRecDepth 100000 in
set_option maxHeartbeats 8000000 in
theorem all_seqR (n : Nat) (hn : 10 ≤ n) {R : RtB} {N : Nat} {regs stk : Int} {gl : List Int} {th : Nat → Option TM} (Bx : Nat) (w : World) (hA : RtAt w R N regs stk gl th) (hB : w.cell? ⟨Bx, 0, none⟩ = some (.pointer (some ⟨R.t, 0, none⟩))) :
    SeqT Fence.wide n Try.prog 35 #[.pointer (some ⟨Bx, 0, none⟩)] (fun x : Int => #[.int .i64 x]) (KpRt R th Bx w.heap.size)
      (fun xs => xs = allR gl regs.toNat th) (fun pre => pre ≠ [] ∧ pre <+: allR gl regs.toNat th) 200000 w := fun l J Jx W hW hJ hJx hY h0 => by
  have hBl := World.block_lt_of_cell? w _ hB
  have hWs := hW.size
  replace hA := hA.below hW
  replace hB := (hW.cell (p := ⟨Bx, 0, none⟩) hBl).trans hB
  have hAlt := hA.lt
  have hBl2 : Bx < W.heap.size := World.block_lt_of_cell? W _ hB
  have hgf := hA.gfew
  refine callsIn_of_wp_marks Try.func35 rfl (by trivial) ?_ rfl
  simp only [Try.ntmps35, List.size_toArray, List.length_cons, List.length_nil, Nat.reduceAdd, Nat.reduceSub, Array.replicate_succ, Array.replicate_zero, List.push_toArray, List.append_toArray, List.nil_append, List.cons_append]
  have hB1 := Below.refl W.heap.size W
  have hBV := hB1.alloc (Nat.le_refl _) (.cells #[.func (.yield l) #[] #[]] 72)
  have hAV := hA.below hBV
  have hcV : (W.alloc (.cells #[.func (.yield l) #[] #[]] 72)).cell? ⟨Bx, 0, none⟩ = some (.pointer (some ⟨R.t, 0, none⟩)) := cell_allocKeep hB _
  have hYV : (W.alloc (.cells #[.func (.yield l) #[] #[]] 72)).cell? ⟨W.heap.size, 0, none⟩ = some (.func (.yield l) #[] #[]) := (Blk.new W _ _).cell 0
  have hVs : (W.alloc (.cells #[.func (.yield l) #[] #[]] 72)).heap.size = W.heap.size + 1 := by simp
  have hJV : J ([], fun _ => False) (W.alloc (.cells #[.func (.yield l) #[] #[]] 72)) := hJ.alloc _ h0
  have hkV : KpRt R th Bx w.heap.size W (W.alloc (.cells #[.func (.yield l) #[] #[]] 72)) := KpRt.ofBelow hAlt hBl2 hBV
  have HYV := Lib.hid hYV
  have HVS := Lib.hid hVs
  clear hYV hVs
  gi_wp2_with fail
  refine ⟨trivial, fun h => (by cases h), ?_⟩
  generalize W.alloc (.cells #[.func (.yield l) #[] #[]] 72) = V at *
  refine (callsIn_wide.2 (globalsfn_any R.t V)).mono ?_
  rintro e w' ⟨rfl, rfl⟩
  have hYV := HYV.out
  have hVs := HVS.out
  clear HYV HVS hcV
  have hB6 := (Below.refl V.heap.size V).alloc (Nat.le_refl _) (.cells #[.pointer (some ⟨R.t, 0, none⟩)] 27)
  have hA6 := hAV.below hB6
  have hY6 : (V.alloc (.cells #[.pointer (some ⟨R.t, 0, none⟩)] 27)).cell? ⟨W.heap.size, 0, none⟩ = some (.func (.yield l) #[] #[]) := cell_allocKeep hYV _
  have hx : (V.alloc (.cells #[.pointer (some ⟨R.t, 0, none⟩)] 27)).cell? ⟨V.heap.size, 0, none⟩ = some (.pointer (some ⟨R.t, 0, none⟩)) := (Blk.new V _ _).cell 0
  have hs6 : (V.alloc (.cells #[.pointer (some ⟨R.t, 0, none⟩)] 27)).heap.size = V.heap.size + 1 := by simp
  have hJ6 : J ([], fun _ => False) (V.alloc (.cells #[.pointer (some ⟨R.t, 0, none⟩)] 27)) := hJ.alloc _ hJV
  have hk6 : KpRt R th Bx w.heap.size W (V.alloc (.cells #[.pointer (some ⟨R.t, 0, none⟩)] 27)) := hkV.trans (KpRt.ofBelow hAV.lt (by omega) hB6)
  gi_wp2_with fail
  generalize V.alloc (.cells #[.pointer (some ⟨R.t, 0, none⟩)] 27) = W6 at *
  rw [hVs] at hx hs6
  have hlt6 := hA6.lt
  have hW6 : Below W.heap.size W W6 := hBV.trans (hB6.mono (by omega))
  clear hB6 hBV hkV hJV hYV hAV hB1
  refine wpIn_rangeT rfl (by omega) (gf := 36) (lb := #[.pointer (some ⟨W.heap.size + 1, 0, none⟩)]) rfl trivial (enters_of Try.func36 (by kernel_rfl) rfl)
    (SeqT.ofK (globals_stops (n - 1) (W.heap.size + 1) W6 hA6 hx)) KpRt.trans (fun W l o o' hl ho hc => KpRt.putObj hlt6 (by omega) W l o o' hl ho hc) (Below.refl _ _) (fun _ => rfl)
    (fun st V' => J st V' ∧ V'.cell? ⟨W.heap.size, 0, none⟩ = some (.func (.yield l) #[] #[]) ∧ W6.heap.size ≤ V'.heap.size ∧ KpRt R th Bx w.heap.size W V')
    (fun c st V' => c = .ret ∧ Jx st V')
    (fun st A C row hs hg hr => ⟨hJ st A C row hs.1 hg (fun k e => ⟨by have := (hr k e).1; omega, (hr k e).2⟩), cell_kept hs.2.1 hg (fun k e => (hr k e).2), Nat.le_trans hs.2.2.1 hg.size, hs.2.2.2.grown (m := W6.heap.size) (fun k hk => by have := hAlt k hk; omega) (by omega) hs.2.2.1 hg hr⟩)
    (fun c st A C row hs hg hr => ⟨hs.1, hJx st A C row hs.2 hg (fun k e => ⟨by have := (hr k e).1; omega, (hr k e).2⟩)⟩)
    ⟨hJ6, hY6, Nat.le_refl _, hk6⟩ ?a1 ?assign ?body ?done ?stop
  case assign =>
    intro l0 x V K hK
    gi_wp2
    exact hK
  case body =>
    rintro l0 pre O x V0 hl0 _ hO ⟨hj, hyc, hsz, hkp⟩ hlen
    obtain ⟨fn, tmps, assign, body, hy, hY2⟩ := YieldAt.anyWideT (n - 1 - 1 - 1) (hY pre O x V0 hj (by omega))
    gi_wp2_with fail
    refine ⟨fun _ => by omega, ?_⟩
    have hY3 : RoundIn (Fence.wide.inRound l0) (n - 1 - 1 - 1) Try.prog l fn tmps assign body V0 _ := hY2
    refine hY3.mono ?_
    rintro e V3 ⟨O', ho, ⟨rfl, hj3, hk3⟩ | ⟨rfl, hj3⟩⟩
    · clear hY3 hY2 hy
      have hOs : ∀ k, k < W6.heap.size → ¬ O k := fun k hk e => by have h1 := (hO k e).1; omega
      have hy3 : V3.cell? ⟨W.heap.size, 0, none⟩ = some (.func (.yield l) #[] #[]) := (World.cell?_of_block (w := V0) (a := ⟨W.heap.size, 0, none⟩) (ho.same W.heap.size (Nat.le_refl _) (by omega) (hOs _ (by omega)))).trans hyc
      gi_wp2_with fail
      exact ⟨O', ho.mono (by omega), ⟨hk3.th, ho.same _ (by omega) (by omega) (hOs _ (by omega)), fun k cs hk hb => hk3.late k cs (by omega) hb⟩, hj3, hy3, Nat.le_trans hsz ho.size, hkp.trans hk3⟩
    · clear hY3 hY2 hy
      gi_wp2_with fail
      exact ⟨O', ho.mono (by omega), rfl, hj3⟩
  case stop =>
    rintro D c pre O V0 hD ⟨k, hk, hpre⟩ ⟨rfl, hj⟩ hK
    gi_wp2_with fail
    refine ⟨by simp, .inl ⟨D, _, rfl, run_takeDeferred hK, ?_⟩⟩
    refine ⟨_, results_none rfl _ _ _, ⟨_, rfl⟩, .inr ⟨pre, O, ⟨?_, ?_⟩, hJx.putObj _ hj (by omega) hK rfl⟩⟩
    · intro e
      rw [hpre] at e
      have := congrArg List.length e
      rw [List.length_take, List.length_nil] at this
      omega
    · rw [hpre]
      exact (List.take_prefix _ _).trans (List.prefix_append _ _)
  case done =>
    rintro D xs O V0 hD hO hxs ⟨hj, hyc, hsz, hkp⟩ hK
    replace hxs : xs = nz gl := hxs
    subst hxs
    have hA7 := hA.keep hkp.th
    have hbx7 : V0.cell? ⟨Bx, 0, none⟩ = some (.pointer (some ⟨R.t, 0, none⟩)) := (World.cell?_of_block (w := W) (a := ⟨Bx, 0, none⟩) hkp.box).trans hB
    have hDl : D < V0.heap.size := (Array.getElem?_eq_some_iff.1 hK).1
    gi_wp2_with fail
    refine ⟨trivial, fun h => (by cases h), ?_⟩
    refine (callsIn_wide.2 (threadsfn_any R.t V0)).mono ?_
    rintro e w' ⟨rfl, rfl⟩
    clear hbx7
    have hB8 := (Below.refl V0.heap.size V0).alloc (Nat.le_refl _) (.cells #[.pointer (some ⟨R.t, 0, none⟩)] 27)
    have hA8 := hA7.below hB8
    have hY8 : (V0.alloc (.cells #[.pointer (some ⟨R.t, 0, none⟩)] 27)).cell? ⟨W.heap.size, 0, none⟩ = some (.func (.yield l) #[] #[]) := cell_allocKeep hyc _
    have hx8 : (V0.alloc (.cells #[.pointer (some ⟨R.t, 0, none⟩)] 27)).cell? ⟨V0.heap.size, 0, none⟩ = some (.pointer (some ⟨R.t, 0, none⟩)) := (Blk.new V0 _ _).cell 0
    have hs8 : (V0.alloc (.cells #[.pointer (some ⟨R.t, 0, none⟩)] 27)).heap.size = V0.heap.size + 1 := by simp
    have hJ8 : J (nz gl, O) (V0.alloc (.cells #[.pointer (some ⟨R.t, 0, none⟩)] 27)) := hJ.alloc _ hj
    have hk8 : KpRt R th Bx w.heap.size W (V0.alloc (.cells #[.pointer (some ⟨R.t, 0, none⟩)] 27)) := hkp.trans (KpRt.ofBelow hA7.lt (by omega) hB8)
    have hK8 : (V0.alloc (.cells #[.pointer (some ⟨R.t, 0, none⟩)] 27)).heap[D]? = some (.deferred (some [])) := (hB8.block D hDl).trans hK
    clear hB8
    gi_wp2_with fail
    generalize V0.alloc (.cells #[.pointer (some ⟨R.t, 0, none⟩)] 27) = V8 at *
    have hlt8 := hA8.lt
    refine wpIn_rangeT rfl (by omega) (gf := 34) (lb := #[.pointer (some ⟨V0.heap.size, 0, none⟩)]) rfl trivial (enters_of Try.func34 (by kernel_rfl) rfl)
      (SeqT.ofK (threads_stops (n - 1) V0.heap.size V8 hA8 hx8)) KpRt.trans (fun W l o o' hl ho hc => KpRt.putObj hlt8 (by omega) W l o o' hl ho hc) (Below.refl _ _) (fun _ => rfl)
      (fun st V' => AllI R th gl regs.toNat Bx w.heap.size W.heap.size D V0.heap.size V8.heap.size l J W st.1 st.2 V')
      (fun c st V' => c = .ret ∧ AllX th gl regs.toNat D Jx st.1 V')
      (fun st A C row hs hg hr => hs.grown hJ (by omega) hlt8 (by omega) (by omega) hg hr)
      (fun c st A C row hs hg hr => ⟨hs.1, hs.2.grown hJx (by omega) (by omega) hg hr⟩)
      ⟨⟨O, by simpa using hJ8, fun k hk => ⟨⟨(hO k hk).1, by have := (hO k hk).2; omega⟩, by have := (hO k hk).2; omega⟩, fun k hk hk2 => by have := (hO k hk2).2; omega⟩, hY8, Nat.le_refl _, hk8, hK8⟩ ?b1 ?assign2 ?body2 ?done2 ?stop2
    case assign2 =>
      intro l0 x V K hK
      gi_wp2
      exact hK
    case body2 =>
      rintro l2 xs O2 x V1 hl2 ⟨r2, hrec2⟩ hO2 ⟨⟨Oo, hj1, hOo, hOO⟩, hyc1, hsz1, hkp1, hdf1⟩ hlen
      have hA1 := hA.keep hkp1.th
      obtain ⟨hAt, hAx⟩ := hA1.thr x.val.1 x.val.2 x.property
      gi_wp2_with fail
      refine ⟨trivial, fun h => (by cases h), ?_⟩
      refine ((callsIn_wide.2 (rootsfn_any x.val.2.t V1)).inRound l2).mono ?_
      rintro e w' ⟨rfl, rfl⟩
      have hB9 := (Below.refl V1.heap.size V1).alloc (Nat.le_refl _) (.cells #[.pointer (some ⟨x.val.2.t, 0, none⟩)] 38)
      have hT9 := hAx.below hB9
      have hA9 := hA1.below hB9
      have hY9 : (V1.alloc (.cells #[.pointer (some ⟨x.val.2.t, 0, none⟩)] 38)).cell? ⟨W.heap.size, 0, none⟩ = some (.func (.yield l) #[] #[]) := cell_allocKeep hyc1 _
      have hx9 : (V1.alloc (.cells #[.pointer (some ⟨x.val.2.t, 0, none⟩)] 38)).cell? ⟨V1.heap.size, 0, none⟩ = some (.pointer (some ⟨(R.X x.val.1).t, 0, none⟩)) := by rw [hAt]; exact (Blk.new V1 _ _).cell 0
      have hs9 : (V1.alloc (.cells #[.pointer (some ⟨x.val.2.t, 0, none⟩)] 38)).heap.size = V1.heap.size + 1 := by simp
      have hJ9 : J (nz gl ++ xs.flatMap (fun x => rootsP regs.toNat x.val), Oo) (V1.alloc (.cells #[.pointer (some ⟨x.val.2.t, 0, none⟩)] 38)) := hJ.alloc _ hj1
      have hbd := hA1.lt
      have hb9 : KpRt R th V0.heap.size V8.heap.size V1 (V1.alloc (.cells #[.pointer (some ⟨x.val.2.t, 0, none⟩)] 38)) := KpRt.ofBelow hbd (by omega) hB9
      have hk9 : KpRt R th Bx w.heap.size W (V1.alloc (.cells #[.pointer (some ⟨x.val.2.t, 0, none⟩)] 38)) := hkp1.trans (KpRt.ofBelow hbd (by omega) hB9)
      have hd9 : (V1.alloc (.cells #[.pointer (some ⟨x.val.2.t, 0, none⟩)] 38)).heap[D]? = some (.deferred (some [])) := (hB9.block D (by omega)).trans hdf1
      have hr9 : (V1.alloc (.cells #[.pointer (some ⟨x.val.2.t, 0, none⟩)] 38)).heap[l2]? = some (.loop r2) := (hB9.block l2 (Array.getElem?_eq_some_iff.1 hrec2).1).trans hrec2
      have hpl : (nz gl ++ xs.flatMap (fun x => rootsP regs.toNat x.val)).length ≤ 4 + 4 * 8192 := by
        have h1 := flat_length (f := fun x : LiveOf th => rootsP regs.toNat x.val) (M := 8192) (fun y => by
          have h2 := (hA1.thr y.val.1 y.val.2 y.property).2.deep
          have h3 : (rootsOf y.val.2.f regs.toNat y.val.2.st).length ≤ _ := rootsP_length
          have h4 := hA.rfew
          show (rootsOf y.val.2.f regs.toNat y.val.2.st).length ≤ 8192
          omega) xs
        have h5 := List.length_filter_le (fun r => r != 0) gl
        rw [List.length_append]
        unfold nz
        have h6 : xs.length * 8192 ≤ 4 * 8192 := Nat.mul_le_mul_right _ (by omega)
        omega
      have ho9 : OwnedT V8.heap.size O2 (fun k => Oo k ∧ V8.heap.size ≤ k) V1 (V1.alloc (.cells #[.pointer (some ⟨x.val.2.t, 0, none⟩)] 38)) := ⟨by omega, fun k _ hk _ => hB9.block k hk, fun k hk => .inl (hOO k hk.2 hk.1)⟩
      clear hB9
      gi_wp2_with fail
      generalize V1.alloc (.cells #[.pointer (some ⟨x.val.2.t, 0, none⟩)] 38) = V9 at *
      have hlt9 := hT9.lt
      have hlA9 := hA9.lt
      refine wpIn_rangeTN rfl hr9 (by omega) (gf := 37) (lb := #[.pointer (some ⟨V1.heap.size, 0, none⟩)]) rfl trivial (enters_of Try.func37 (by kernel_rfl) rfl)
        ((SeqT.ofK (roots_stops (n - 1 - 1 - 1) V1.heap.size V9 hT9 hx9)).inRound l2) KpTh.trans (fun W l o o' hl ho hc => KpTh.putObj hlt9 (by omega) W l o o' hl ho hc) (Below.refl _ _) (fun _ => rfl)
        (fun st V' => AllK R th regs.toNat Bx w.heap.size W.heap.size D V0.heap.size V8.heap.size V9.heap.size l J W V1 O2 V0.heap.size V8.heap.size (nz gl ++ xs.flatMap (fun x => rootsP regs.toNat x.val)) st.1 st.2 V')
        (fun c st V' => c = .ret ∧ V'.heap[D]? = some (.deferred (some [])) ∧ (∃ Oo, Jx (nz gl ++ xs.flatMap (fun x => rootsP regs.toNat x.val) ++ st.1, Oo) V') ∧ ∃ O5, OwnedT V8.heap.size O2 O5 V1 V')
        (fun st A C row hs hg hr => hs.grown hJ (by omega) (by omega) hlA9 (by omega) (by omega) (by omega) hg hr)
        (fun c st A C row ⟨e1, e2, ⟨Oo, e3⟩, O5, e4⟩ hg hr => ⟨e1, def_grown e2 (by omega) hg (fun r e => (hr r e).1), ⟨Oo, hJx _ _ _ _ e3 hg (fun k e => ⟨by have := (hr k e).1; omega, (hr k e).2⟩)⟩, O5, e4.grown (by omega) hg (fun r e => (hr r e).1)⟩)
        ⟨⟨Oo, by simpa using hJ9, fun k hk => ⟨(hOo k hk).1, by have := (hOo k hk).2; omega, .inl (hOo k hk).2⟩, fun k hk hk2 => by have := (hOo k hk2).2; omega, ho9⟩, hY9, Nat.le_refl _, hk9, hb9, hd9⟩ ?c1 ?assign3 ?body3 ?done3 ?stop3
      case assign3 =>
        intro l0 x V K hK
        gi_wp2
        exact hK
      case body3 =>
        rintro l3 pre O3 y V2 hl3 _ hO3 ⟨⟨Ox, hj2, hOx, hOX, hown⟩, hyc2, hsz2, hkp2, hkq2, hdf2⟩ hlen3
        have hbig : (nz gl ++ xs.flatMap (fun x => rootsP regs.toNat x.val) ++ pre).length < 200000 := by rw [List.length_append]; omega
        obtain ⟨fn, tmps, assign, body, hy, hY2⟩ := YieldAt.anyWideT (n - 1 - 1 - 1 - 1 - 1) (hY _ Ox y V2 hj2 hbig)
        gi_wp2_with fail
        refine ⟨fun _ => by omega, ?_⟩
        have hY3 : RoundIn ((Fence.wide.inRound l2).inRound l3) (n - 1 - 1 - 1 - 1 - 1) Try.prog l fn tmps assign body V2 _ := hY2
        refine hY3.mono ?_
        have hnD : ¬ Ox D := fun e => by have := (hOx _ e).1.1; omega
        have hnY : ¬ Ox W.heap.size := fun e => by have := (hOx _ e).1.1; omega
        have hnb : ¬ Ox V1.heap.size := fun e => by have := (hOx _ e).2.2; omega
        have hn0 : ¬ Ox V0.heap.size := fun e => (hOx _ e).1.2 rfl
        rintro e V3 ⟨Oy, ho, ⟨rfl, hj3, hk3⟩ | ⟨rfl, hj3⟩⟩
        · clear hY3 hY2 hy
          have hy3 : V3.cell? ⟨W.heap.size, 0, none⟩ = some (.func (.yield l) #[] #[]) := (World.cell?_of_block (w := V2) (a := ⟨W.heap.size, 0, none⟩) (ho.same W.heap.size (Nat.le_refl _) (by omega) hnY)).trans hyc2
          have hd3 : V3.heap[D]? = some (.deferred (some [])) := ho.at_ hdf2 (by omega) hnD
          have hos := ho.size
          gi_wp2_with fail
          refine ⟨fun k => Oy k ∧ V9.heap.size ≤ k, ⟨ho.size, fun k h1 h2 h3 => ho.same k (by omega) h2 (fun e => h3 (hOX k h1 e)), fun k hk => ?_⟩, ⟨fun k hk => hk3.th k (.inr (.inr ⟨x.val.1, x.val.2, x.property, hk⟩)), ho.same _ (by omega) (by omega) hnb, fun k cs hb h => hk3.late k cs (by omega) h⟩,
            ⟨⟨Oy, by rw [← List.append_assoc]; exact hj3, fun k hk => ?_, fun k h1 h2 => ⟨h2, h1⟩, hown.trans ⟨ho.size, fun k h1 h2 h3 => ho.same k (by omega) h2 (fun e => h3 ⟨e, h1⟩), fun k hk => ?_⟩⟩, hy3, by omega, hkp2.trans hk3, hkq2.trans ⟨hk3.th, ho.same _ (by omega) (by omega) hn0, fun k cs hb h => hk3.late k cs (by omega) h⟩, hd3⟩⟩
          · rcases ho.own k hk.1 with e | e
            · exact .inl (hOX k hk.2 e)
            · exact .inr e
          · rcases ho.own k hk with e | e
            · have h9 := hOx k e
              exact ⟨h9.1, by omega, h9.2.2⟩
            · exact ⟨⟨by omega, by omega⟩, e.2, .inr (by omega)⟩
          · rcases ho.own k hk.1 with e | e
            · exact .inl ⟨e, hk.2⟩
            · exact .inr e
        · clear hY3 hY2 hy
          have hd3 : V3.heap[D]? = some (.deferred (some [])) := ho.at_ hdf2 (by omega) hnD
          gi_wp2_with fail
          refine ⟨fun k => Oy k ∧ V9.heap.size ≤ k, ⟨ho.size, fun k h1 h2 h3 => ho.same k (by omega) h2 (fun e => h3 (hOX k h1 e)), fun k hk => ?_⟩, rfl, hd3, ⟨Oy, by rw [← List.append_assoc]; exact hj3⟩, fun k => Oy k ∧ V8.heap.size ≤ k, hown.trans ⟨ho.size, fun k h1 h2 h3 => ho.same k (by omega) h2 (fun e => h3 ⟨e, h1⟩), fun k hk => ?_⟩⟩
          · rcases ho.own k hk.1 with e | e
            · exact .inl (hOX k hk.2 e)
            · exact .inr e
          · rcases ho.own k hk.1 with e | e
            · exact .inl ⟨e, hk.2⟩
            · exact .inr e
      case stop3 =>
        rintro c pre O9 Vz ⟨k, hk, hpre⟩ ⟨rfl, hdf, ⟨Oy, hj⟩, O5, ho5⟩
        rw [hpre] at hj
        gi_wp2_with fail
        exact ⟨O5, by rw [← hs8]; exact ho5, rfl, ⟨⟨xs, x, k, Oy, rfl, hk, hj⟩, hdf⟩⟩
      case done3 =>
        rintro ys O9 Vz hO9 hys ⟨⟨Ox, hj2, hOx, hOX, hown⟩, hyc2, hsz2, hkp2, hkq2, hdf2⟩
        replace hys : ys = rootsP regs.toNat x.val := hys
        subst hys
        refine ⟨fun k => Ox k ∧ V8.heap.size ≤ k, hown, hkq2, ⟨⟨Ox, ?_, fun k hk => ⟨(hOx k hk).1, (hOx k hk).2.1⟩, fun k h1 h2 => ⟨h2, h1⟩⟩, hyc2, by omega, hkp2, hdf2⟩⟩
        rw [List.flatMap_append, List.flatMap_cons, List.flatMap_nil, List.append_nil, ← List.append_assoc]
        exact hj2
    case stop2 =>
      rintro D2 c pre O9 V9 hD2 ⟨i, m, hi, hm, hpre⟩ ⟨rfl, ⟨q, x, k, Oo, rfl, hk, hj9⟩, hdf⟩ hK9
      gi_wp2_with fail
      refine ⟨by simp, .inl ⟨D2, _, rfl, run_takeDeferred hK9, ?_⟩⟩
      have hdf2 : (V9.putObj D2 (.deferred none)).heap[D]? = some (.deferred (some [])) := (World.putObj_heap_other (by omega)).trans hdf
      refine ⟨by simp, .inl ⟨D, _, rfl, run_takeDeferred hdf2, ?_⟩⟩
      refine ⟨_, results_none rfl _ _ _, ⟨_, rfl⟩, .inr ⟨_, Oo, ⟨?_, allR_prefix hi hm hpre⟩, hJx.putObj _ (hJx.putObj _ hj9 (by omega) hK9 rfl) (by omega) hdf2 rfl⟩⟩
      intro e
      have := congrArg List.length e
      rw [List.length_append, List.length_take, List.length_nil] at this
      omega
    case done2 =>
      rintro D2 xs O9 V9 hD2 hO9 hxs ⟨⟨Oo, hj9, _, _⟩, _, _, _, hdf⟩ hK9
      replace hxs : xs.map Subtype.val = liveT th 4 := hxs
      gi_wp2_with fail
      refine ⟨by simp, .inl ⟨D2, _, rfl, run_takeDeferred hK9, ?_⟩⟩
      have hdf2 : (V9.putObj D2 (.deferred none)).heap[D]? = some (.deferred (some [])) := (World.putObj_heap_other (by omega)).trans hdf
      refine ⟨by simp, .inl ⟨D, _, rfl, run_takeDeferred hdf2, ?_⟩⟩
      have e1 : nz gl ++ xs.flatMap (fun x => rootsP regs.toNat x.val) = allR gl regs.toNat th := by
        unfold allR
        rw [← hxs, List.flatMap_map]
      rw [e1] at hj9
      exact ⟨_, results_none rfl _ _ _, ⟨_, rfl⟩, .inl ⟨Oo, hJ.putObj _ (hJ.putObj _ hj9 (by omega) hK9 rfl) (by omega) hdf2 rfl⟩⟩
end Go.Proofs.Ytoemfehlnnbjdaa
