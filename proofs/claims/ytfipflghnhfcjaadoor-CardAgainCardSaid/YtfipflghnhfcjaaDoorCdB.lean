/- Take: the iterator over a table's dirty pages, each clean as it is told; at this seat's numbers. -/
import Derived.Test.YtfipflghnhfcjaaDoorCdA
import Derived.Test.YtfipflghnhfcjaaDoorSetE
namespace Go.Proofs.YtfipflghnhfcjaaDoor
open Go Go.RowKit Go.Shelf Go.MuLone Go.RwLone
set_option linter.unusedSimpArgs false
set_option linter.unusedVariables false
attribute [local go_sem] Oper.semAt_some

theorem takefn_any (t : Nat) (w : World) :
    Calls Tryd.prog 35 #[.pointer (some ⟨t, 0, none⟩)] w fun e w' => e = .returned (.func (.func 61) #[] #[.pointer (some ⟨w.heap.size, 0, none⟩)]) ∧ w.alloc (.cells #[.pointer (some ⟨t, 0, none⟩)] 65) = w' := by
  go_enter Tryd.func35, Tryd.ntmps35
  go_wp2_with fail
  go_ret
  exact ⟨rfl, rfl⟩

def dropN1 (S : Nat → Bool) (x : Nat) : Nat → Bool := fun j => S j && !decide (j = x)
/-- What a round over the dirty pages keeps. -/
def KpTk (C : CdB) (B m x : Nat) (W W' : World) : Prop := KpChg C.b C.lo B m x W W' ∧ W'.heap[C.t]? = W.heap[C.t]?
theorem KpTk.trans {C : CdB} {B m x : Nat} {A D E : World} (h : KpTk C B m x A D) (k : KpTk C B m x D E) : KpTk C B m x A E := ⟨h.1.trans k.1, k.2.trans h.2⟩
theorem KpTk.putObj {C : CdB} {B m x : Nat} {n0 : Nat} (hC : ∀ k, C.has k → k < n0) (hB : B < n0) (ht : (1 : Nat) < n0) (W : World) (l : Nat) (o : Obj) (h : n0 ≤ l) : KpTk C B m x W (W.putObj l o) :=
  ⟨KpChg.putObj (hC _ (.inr (.inl rfl))) (fun l hl => hC _ (.inr (.inr hl))) hB ht W l o h, World.putObj_heap_other (by have := hC _ (.inl rfl); omega)⟩
/-- A page is clean ahead of being told. -/
def ArrTk (C : CdB) (m x : Nat) (A D : World) : Prop := ∃ S, SetAt A C.b C.lo m S ∧ S x = true ∧ x < m ∧ SetAt D C.b C.lo m (dropN1 S x) ∧ Turn (fun k => k = C.b ∨ C.lo = some k) A D

set_option maxRecDepth 100000 in
set_option maxHeartbeats 4000000 in
theorem take_seq (n : Nat) (hn : 6 ≤ n) {C : CdB} {xa m : Nat} {S : Nat → Bool} (B : Nat) (w : World) (hC : CdAt w C xa m S) (hT : TabAt w) (hB : w.cell? ⟨B, 0, none⟩ = some (.pointer (some ⟨C.t, 0, none⟩)))
    (hBn : ¬ C.has B) (htn : ¬ C.has 1) :
    SeqE Fence.wide n Tryd.prog 61 #[.pointer (some ⟨B, 0, none⟩)] (fun x : Fin 4096 => #[.int .i64 ((x.val : Nat) : Int)]) (fun x => KpTk C B m x.val) (fun x => ArrTk C m x.val)
      (fun xs => xs.map Fin.val = elems S m) (fun pre => ∃ i j, NextIs S i j ∧ pre.map Fin.val = elems S (j + 1)) m w := fun l J Jx Jm W hW hJ hJm hJx hArr hY h0 => by
  have hCw := hC.lt
  replace hC : CdAt W C xa m S := hC.turn (Turn.ofBelow hW) (fun k hk e => by have := hCw k hk; omega)
  have hBl := World.block_lt_of_cell? w _ hB
  replace hB := (hW.cell (p := ⟨B, 0, none⟩) hBl).trans hB
  replace hT : TabAt W := fun j hj => (hW.cell (p := ⟨1, j, none⟩) hT.lt).trans (hT j hj)
  have hClt := hC.lt
  have hTlt := hT.lt
  have hBl2 : B < W.heap.size := World.block_lt_of_cell? W _ hB
  have hCt := hClt _ (.inl rfl)
  have hCb := hClt _ (.inr (.inl rfl))
  refine callsIn_of_wp_marks Tryd.func61 rfl (by trivial) ?_ rfl
  simp only [Tryd.ntmps61, List.size_toArray, List.length_cons, List.length_nil, Nat.reduceAdd, Nat.reduceSub, Array.replicate_succ, Array.replicate_zero, List.push_toArray, List.append_toArray, List.nil_append, List.cons_append]
  obtain ⟨V, hV⟩ : ∃ V, V = W.alloc (.cells #[.func (.yield l) #[] #[]] 33) := ⟨_, rfl⟩
  have hCV : CdAt V C xa m S := by rw [hV]; exact hC.turn ((Turn.refl (fun _ => False) W).alloc _) (fun _ _ h => h)
  have hBV : V.cell? ⟨B, 0, none⟩ = some (.pointer (some ⟨C.t, 0, none⟩)) := by rw [hV]; exact cell_allocKeep hB _
  have hTV : TabAt V := fun j hj => by rw [hV]; exact cell_allocKeep (hT j hj) _
  have hYV : V.cell? ⟨W.heap.size, 0, none⟩ = some (.func (.yield l) #[] #[]) := by rw [hV]; exact (Blk.new W _ _).cell 0
  have hVs : V.heap.size = W.heap.size + 1 := by rw [hV]; simp
  have hJV : J ([], fun _ => False) V := by rw [hV]; exact hJ.alloc _ h0
  have hc0 := hCV.c0
  have hcB : (W.alloc (.cells #[.func (.yield l) #[] #[]] 33)).cell? ⟨B, 0, none⟩ = some (.pointer (some ⟨C.t, 0, none⟩)) := by rw [← hV]; exact hBV
  rw [hV] at hc0
  have HV := Lib.hid hV
  clear hV
  gi_wp2_with fail
  refine ⟨trivial, fun h => (by cases h), ?_⟩
  rw [← HV.out]
  refine (callsIn_wide.2 (all_any C.b V)).mono ?_
  rintro e w' ⟨rfl, rfl⟩
  clear hc0 hcB
  have hC6 : CdAt (V.alloc (.cells #[.pointer (some ⟨C.b, 0, none⟩)] 67)) C xa m S := hCV.turn ((Turn.refl (fun _ => False) V).alloc _) (fun _ _ h => h)
  have hB6 : (V.alloc (.cells #[.pointer (some ⟨C.b, 0, none⟩)] 67)).cell? ⟨B, 0, none⟩ = some (.pointer (some ⟨C.t, 0, none⟩)) := cell_allocKeep hBV _
  have hT6 : TabAt (V.alloc (.cells #[.pointer (some ⟨C.b, 0, none⟩)] 67)) := fun j hj => cell_allocKeep (hTV j hj) _
  have hY6 : (V.alloc (.cells #[.pointer (some ⟨C.b, 0, none⟩)] 67)).cell? ⟨W.heap.size, 0, none⟩ = some (.func (.yield l) #[] #[]) := cell_allocKeep hYV _
  have hx : (V.alloc (.cells #[.pointer (some ⟨C.b, 0, none⟩)] 67)).cell? ⟨V.heap.size, 0, none⟩ = some (.pointer (some ⟨C.b, 0, none⟩)) := (Blk.new V _ _).cell 0
  have hs6 : (V.alloc (.cells #[.pointer (some ⟨C.b, 0, none⟩)] 67)).heap.size = V.heap.size + 1 := by simp
  have hJ6 : J ([], fun _ => False) (V.alloc (.cells #[.pointer (some ⟨C.b, 0, none⟩)] 67)) := hJ.alloc _ hJV
  gi_wp2_with fail
  generalize V.alloc (.cells #[.pointer (some ⟨C.b, 0, none⟩)] 67) = W6 at *
  generalize V.heap.size = s1 at *
  obtain rfl : s1 = W.heap.size + 1 := hVs
  have hs1 : W.heap.size + 1 + 1 ≤ W6.heap.size := by omega
  have hlo : ∀ l, C.lo = some l → l < W.heap.size := fun l hl => hClt _ (.inr (.inr hl))
  refine wpIn_rangeE rfl (by omega) (gf := 77) (lb := #[.pointer (some ⟨W.heap.size + 1, 0, none⟩)]) rfl trivial (enters_of Tryd.func77 (by kernel_rfl) rfl)
    (all_seqE (n - 1) C.b C.lo (W.heap.size + 1) m S W6 hC6.set hT6 hx) KpChg.trans
    (fun x V l o hl => KpChg.putObj (n0 := W6.heap.size) (by omega) (fun l hl => by have := hlo l hl; omega) (by omega) (by omega) V l o hl) (fun x A D h => ⟨by rw [h.1]; exact Nat.le_refl _, fun k _ _ => by rw [h.1]⟩) (Below.refl _ _) (fun _ => rfl)
    (fun st V => J st V ∧ V.cell? ⟨W.heap.size, 0, none⟩ = some (.func (.yield l) #[] #[]) ∧ W6.heap.size ≤ V.heap.size ∧ (∀ k, st.2 k → W6.heap.size ≤ k) ∧ V.cell? ⟨B, 0, none⟩ = some (.pointer (some ⟨C.t, 0, none⟩)) ∧ V.cell? ⟨C.t, 0, none⟩ = some (.pointer (some ⟨C.b, 0, none⟩)))
    (fun st V => (J st.1 V ∧ V.cell? ⟨W.heap.size, 0, none⟩ = some (.func (.yield l) #[] #[]) ∧ W6.heap.size ≤ V.heap.size ∧ (∀ k, st.1.2 k → W6.heap.size ≤ k) ∧ V.cell? ⟨B, 0, none⟩ = some (.pointer (some ⟨C.t, 0, none⟩)) ∧ V.cell? ⟨C.t, 0, none⟩ = some (.pointer (some ⟨C.b, 0, none⟩))) ∧ ∃ S', SetAt V C.b C.lo m S' ∧ S' st.2.val = true)
    (fun c st V => c = .ret ∧ Jx st V)
    (fun st V V' row hs hg hr => ⟨hJ st V V' row hs.1 hg (fun k e => ⟨by have := (hr k e).1; omega, (hr k e).2⟩), cell_kept hs.2.1 hg (fun k e => (hr k e).2), Nat.le_trans hs.2.2.1 hg.size, hs.2.2.2.1, cell_kept hs.2.2.2.2.1 hg (fun k e => (hr k e).2), cell_kept hs.2.2.2.2.2 hg (fun k e => (hr k e).2)⟩)
    (fun st V V' row hs hg hr => ⟨⟨hJ st.1 V V' row hs.1.1 hg (fun k e => ⟨by have := (hr k e).1; omega, (hr k e).2⟩), cell_kept hs.1.2.1 hg (fun k e => (hr k e).2), Nat.le_trans hs.1.2.2.1 hg.size, hs.1.2.2.2.1, cell_kept hs.1.2.2.2.2.1 hg (fun k e => (hr k e).2), cell_kept hs.1.2.2.2.2.2 hg (fun k e => (hr k e).2)⟩, by
      obtain ⟨S', h1, h2⟩ := hs.2
      exact ⟨S', h1.kept hg (fun k e => (hr k e).2), h2⟩⟩)
    (fun c st V V' row hs hg hr => ⟨hs.1, hJx st V V' row hs.2 hg (fun k e => ⟨by have := (hr k e).1; omega, (hr k e).2⟩)⟩)
    (fun pre O x A D hi ha => by
      obtain ⟨rfl, h2⟩ := ha
      exact ⟨hi, h2⟩)
    ⟨hJ6, hY6, Nat.le_refl _, fun _ h => h.elim, hB6, hC6.c0⟩ ?a1 ?assign ?body ?done ?stop
  case assign =>
    intro l0 x V K hK
    gi_wp2
    exact hK
  case body =>
    rintro l0 pre O x V ⟨⟨hj, hyc, hsz, hO, hcB, hcT⟩, S', hS', hSx⟩ hlen
    have hxm : x.val < m := hS'.2.1 _ hSx
    have cD := drop_at C.b C.lo m S' (dropN1 S' x.val) true x.val V hxm hS' hSx.symm rfl
    have hVlo : C.lo ≠ none := fun e => by
      have h2 := hS'.2.2
      rw [e] at h2
      have h3 := h2.2 x.val
      rw [hSx] at h3; cases h3
    gi_wp2_with fail
    refine ⟨trivial, fun h => (by cases h), ?_⟩
    refine ((callsIn_wide.2 cD).inRound l0).mono ?_
    rintro e V2 ⟨lo', rfl, hS2, hlo2, hT2⟩
    obtain rfl : lo' = C.lo := by
      rcases hlo2 with e | ⟨e, _⟩
      · exact e
      · exact absurd e hVlo
    have hM : ∀ k, (k = C.b ∨ C.lo = some k) → k < W.heap.size := by
      rintro k (rfl | e)
      · exact hCb
      · exact hlo k e
    have hjm := hArr pre O x V V2 hj ⟨S', hS', hSx, hxm, hS2, hT2⟩
    have hy2 : V2.cell? ⟨W.heap.size, 0, none⟩ = some (.func (.yield l) #[] #[]) := (hT2.cell (a := ⟨W.heap.size, 0, none⟩) (World.block_lt_of_cell? V _ hyc) (fun e => by have := hM _ e; simp only at this; omega)).trans hyc
    have hBh : V2.heap[B]? = V.heap[B]? := hT2.block B (World.block_lt_of_cell? V _ hcB) (fun e => hBn (.inr e))
    have hTh : V2.heap[C.t]? = V.heap[C.t]? := hT2.block C.t (World.block_lt_of_cell? V _ hcT) (by rintro (e | e); exact hC6.tb e; exact hC6.tl e)
    obtain ⟨fn, tmps, assign, body, hy, hYY⟩ := YieldAt.anyWide (n - 1 - 1 - 1) (hY pre O x V2 hjm hlen)
    clear cD
    gi_wp2_with fail
    refine ⟨fun _ => by omega, ?_⟩
    have hY3 : RoundIn (Fence.wide.inRound l0) (n - 1 - 1 - 1) Tryd.prog l fn tmps assign body V2 _ := hYY
    refine hY3.mono ?_
    have ho2 : Owned W6.heap.size O O V V2 := Owned.ofTurn hT2 (fun k e => by have := hM k e; omega)
    rintro e V3 ⟨O', ho, ⟨rfl, hj3, hk3⟩ | ⟨rfl, hj3⟩⟩
    · clear hY3 hYY hy
      have hOs : ∀ k, k < W6.heap.size → ¬ O k := fun k hk e => by have h1 : W6.heap.size ≤ k := hO k e; omega
      have hs2 := hT2.size
      have hy3 : V3.cell? ⟨W.heap.size, 0, none⟩ = some (.func (.yield l) #[] #[]) := (World.cell?_of_block (w := V2) (a := ⟨W.heap.size, 0, none⟩) (ho.same W.heap.size (Nat.le_refl _) (by omega) (hOs _ (by omega)))).trans hy2
      gi_wp2_with fail
      refine ⟨O', ho2.trans (ho.mono (by omega)), ⟨fun S0 h0 => ?_, (ho.same _ (by omega) (by omega) (hOs _ (by omega))).trans (hT2.block _ (by omega) (fun e => by have := hM _ e; omega)), hk3.1.2.2.trans (hT2.block _ (by omega) (fun e => htn (.inr e)))⟩, hj3, hy3, Nat.le_trans hsz (Nat.le_trans hs2 ho.size), fun k hk => ?_, ?_, ?_⟩
      · have e0 := hS'.uniq h0
        subst e0
        obtain ⟨S3, h3, e3⟩ := hk3.1.1 _ hS2
        exact ⟨S3, h3, fun k hk => (e3 k hk).trans (by unfold dropN1; rw [decide_eq_false (by omega)]; simp)⟩
      · rcases ho.own k hk with h | h
        · exact hO k h
        · omega
      · exact ((World.cell?_of_block (w := V2) (a := ⟨B, 0, none⟩) hk3.1.2.1).trans (World.cell?_of_block (w := V) (a := ⟨B, 0, none⟩) hBh)).trans hcB
      · exact ((World.cell?_of_block (w := V2) (a := ⟨C.t, 0, none⟩) hk3.2).trans (World.cell?_of_block (w := V) (a := ⟨C.t, 0, none⟩) hTh)).trans hcT
    · clear hY3 hYY hy
      gi_wp2_with fail
      exact ⟨O', ho2.trans (ho.mono (by omega)), rfl, hj3⟩
  case done =>
    rintro D xs O V hD hxs ⟨hj, _⟩ hK
    gi_wp2_with fail
    refine ⟨by simp, .inl ⟨D, _, rfl, run_takeDeferred hK, ?_⟩⟩
    exact ⟨_, results_none rfl _ _ _, ⟨_, rfl⟩, .inl ⟨xs, hxs, O, hJ.putObj _ hj (by omega) hK rfl⟩⟩
  case stop =>
    rintro D c pre O V hD hsp ⟨rfl, hj⟩ hK
    gi_wp2_with fail
    refine ⟨by simp, .inl ⟨D, _, rfl, run_takeDeferred hK, ?_⟩⟩
    exact ⟨_, results_none rfl _ _ _, ⟨_, rfl⟩, .inr ⟨pre, O, hsp, hJx.putObj _ hj (by omega) hK rfl⟩⟩
end Go.Proofs.YtfipflghnhfcjaaDoor
