/- The sweeper's clean and Page; at this seat's numbers. -/
import Derived.Test.YtidpmplkbgllfaaGreatDoorSwC
namespace Go.Proofs.YtidpmplkbgllfaaGreatDoor
open Go Go.RowKit Go.Shelf Go.MuLone Go.RwLone
set_option linter.unusedSimpArgs false
set_option linter.unusedVariables false
attribute [local go_sem] Oper.semAt_some

theorem row_cellSw {w : World} {g m cap i : Nat} {l : List Int} {x : Int} (h : RefRow w (.slice (some ⟨g, 0, none⟩) m cap) l) (hi : l[i]? = some x) : w.cell? ⟨g, i, none⟩ = some (.int .i64 x) := by
  obtain ⟨hl, hx⟩ := List.getElem?_eq_some_iff.1 hi
  rcases h.is with ⟨e, _⟩ | ⟨g', cap', cur, e, _, _, _, _, hc⟩
  · cases e
  · cases e
    rw [hc i hl, hx]
theorem RefRow.askSw {w w' : World} {v : Value} {l : List Int} (h : RefRow w v l) (hB : Below w.heap.size w w') : RefRow w' v l := h.turn (Turn.ofBelow hB) (fun k e e2 => Nat.lt_irrefl _ (Nat.lt_of_lt_of_le (h.lt e) e2))
theorem intsN_length (l : List Nat) : (intsN l).length = l.length := by unfold intsN; rw [List.length_map]
theorem intsN_at {l : List Nat} {i r : Nat} (h : l[i]? = some r) : (intsN l)[i]? = some (r : Int) := by unfold intsN; simp [h]
theorem intsN_snoc (l : List Nat) (r : Nat) : intsN (l ++ [r]) = intsN l ++ [(r : Int)] := by unfold intsN; simp
theorem take_snocN {l : List Nat} {i r : Nat} (h : l[i]? = some r) : l.take (i + 1) = l.take i ++ [r] := by rw [List.take_add_one, h]; rfl
theorem not_before {l : List Nat} (hn : l.Nodup) {i r : Nat} (h : l[i]? = some r) : r ∉ l.take i := fun hr => by
  have h1 : (l.take i ++ [r]).Nodup := by rw [← take_snocN h]; exact hn.sublist (List.take_sublist _ _)
  have h2 := (List.nodup_append.1 h1).2.2
  exact h2 r hr r (List.mem_singleton.2 rfl) rfl
section
variable {B : Nat} {E E' : Nat → Prop} {X X' : ArB} {s s' : ArS} {T T' : MkB} {c c' : Col} {sw nx : Nat} {on : Bool} {wb wr w' : World}
/-- Some of the blocks that calls keep are turned; others are kept from now on. -/
theorem MaIn.turnW {M : Nat → Prop} (h : MaIn B E X s T c wb wr) (hT : Turn M wr w') (hM : ∀ k, M k → E k) (hE : ∀ k, E' k → E k ∨ (wr.heap.size ≤ k ∧ k < w'.heap.size)) : MaIn B E' X s T c wb w' := by
  have h1 := h.turnE hT hM
  have hs := h.size
  refine ⟨h1.ar, h1.mt, h1.n, h1.inn, fun k e => ⟨(h1.ownT k e).1, (h1.ownT k e).2.1, fun e2 => ?_⟩, fun k e => ?_⟩
  · rcases hE k e2 with e3 | ⟨e3, _⟩
    · exact (h1.ownT k e).2.2 e3
    · have := h.mt.lt k e; omega
  · rcases hE k e with e3 | ⟨e3, e4⟩
    · exact h1.ownE k e3
    · exact ⟨by omega, e4, fun e5 => by have := h.ar.at_.lt k e5; omega⟩
theorem MaIn.less (h : MaIn B E X s T c wb wr) (hE : ∀ k, E' k → E k) : MaIn B E' X s T c wb wr := ⟨h.ar, h.mt, h.n, h.inn, fun k e => ⟨(h.ownT k e).1, (h.ownT k e).2.1, fun e2 => (h.ownT k e).2.2 (hE k e2)⟩, fun k e => h.ownE k (hE k e)⟩
theorem forg_at {l : List Nat} (hn : l.Nodup) {i r : Nat} (h : l[i]? = some r) (f : Nat → Bool) : (forgL c ((l.take i).filter f)).ma (r : Int) = c.ma (r : Int) := by
  rw [forgL_ma, decide_eq_false (fun e => ?_)]
  · simp
  · obtain ⟨r', hr, e2⟩ := e
    have e3 : r' = r := by omega
    subst e3
    exact not_before hn h (List.mem_filter.1 hr).1
/-- Between two cells of a page. -/
structure ClnR (B : Nat) (E : Nat → Prop) (xa tm : Nat) (s : ArS) (c : Col) (sw : Nat) (on : Bool) (nx p : Nat) (vL : Value) (wb w0 : World) (i : Nat) (v5 : Value) (X : ArB) (T : MkB) (wr : World) : Prop where
  ma : MaIn B (fun k => (E k ∨ k = sw) ∨ vL.ownBlock = some k ∨ v5.ownBlock = some k) X (giveL s (((pgL s.S p).take i).filter (wht c))) T (forgL c (((pgL s.S p).take i).filter (blk c))) wb wr
  xe : X.a = xa
  te : T.m = tm
  bk : Blk wr sw (swArr tm on nx) 70
  rl : RefRow wr vL (intsN (pgL s.S p))
  rg : RefRow wr v5 (intsN (((pgL s.S p).take i).filter (wht c)))
  ne : ∀ k, vL.ownBlock = some k → ¬ v5.ownBlock = some k
  kp : ∀ k, E k → wr.heap[k]? = w0.heap[k]?
  ek : ∀ k, E k → k < w0.heap.size
  sz : w0.heap.size ≤ wr.heap.size
  nw : ∀ k, v5.ownBlock = some k → w0.heap.size ≤ k
  fs : ¬ E sw
section
variable {xa tm p i r : Nat} {vL v5 : Value} {w0 : World}
theorem ClnR.ask (h : ClnR B E xa tm s c sw on nx p vL wb w0 i v5 X T wr) (hB : Below wr.heap.size wr w') : ClnR B E xa tm s c sw on nx p vL wb w0 i v5 X T w' :=
  ⟨h.ma.ask hB, h.xe, h.te, h.bk.turn (Turn.ofBelow hB) (fun e => Nat.lt_irrefl _ (Nat.lt_of_lt_of_le h.bk.lt e)), h.rl.askSw hB, h.rg.askSw hB, h.ne, fun k e => (hB.block k (Nat.lt_of_lt_of_le (h.ek k e) h.sz)).trans (h.kp k e), h.ek, Nat.le_trans h.sz hB.size, h.nw, h.fs⟩
theorem ClnR.marked (h : ClnR B E xa tm s c sw on nx p vL wb w0 i v5 X T wr) (hr : (pgL s.S p)[i]? = some r) : Calls Tryz.prog 20 #[.pointer (some ⟨tm, 0, none⟩), .int .i64 (r : Int)] wr fun e w' => e = .returned (.bool (c.ma (r : Int))) ∧ Below wr.heap.size wr w' := by
  have h1 := h.ma.marked (r : Int)
  rw [h.te, forg_at (pgL_nodup _ _) hr] at h1
  exact h1
theorem keepRow {v : Value} {l : List Int} (h : RefRow wr v l) (hk : ∀ k, v.ownBlock = some k → w'.heap[k]? = wr.heap[k]?) : RefRow w' v l := h.keepSw hk
theorem ClnR.forget (h : ClnR B E xa tm s c sw on nx p vL wb w0 i v5 X T wr) (hr : (pgL s.S p)[i]? = some r) (hm : c.ma (r : Int) = true) : Calls Tryz.prog 55 #[.pointer (some ⟨tm, 0, none⟩), .int .i64 (r : Int)] wr fun e w' =>
    e = .returned (.tuple #[]) ∧ ∃ T', ClnR B E xa tm s c sw on nx p vL wb w0 (i + 1) v5 X T' w' := by
  have h1 := h.ma.forget (r : Int)
  rw [h.te] at h1
  refine h1.mono ?_
  rintro e w1 ⟨rfl, T', hm', g, hk, hsz⟩
  have e1 : ((pgL s.S p).take (i + 1)).filter (wht c) = ((pgL s.S p).take i).filter (wht c) := by
    rw [take_snocN hr, List.filter_append]
    simp [wht, hm]
  have e2 : forgL c (((pgL s.S p).take (i + 1)).filter (blk c)) = (forgL c (((pgL s.S p).take i).filter (blk c))).forget (r : Int) := by
    rw [take_snocN hr, List.filter_append, ← forgL_snoc]
    simp [blk, hm]
  refine ⟨rfl, T', ?_, h.xe, hm', ?_, h.rl.keepSw (fun k e => hk k (.inr (.inl e))), ?_, h.ne, fun k e => (hk k (.inl (.inl e))).trans (h.kp k e), h.ek, Nat.le_trans h.sz hsz, h.nw, h.fs⟩
  · rw [e1, e2]; exact g
  · have h2 := h.bk
    unfold Blk at *
    rw [hk sw (.inl (.inr rfl))]; exact h2
  · rw [e1]; exact h.rg.keepSw (fun k e => hk k (.inr (.inr e)))
/-- Behind a cell that was given back, ahead of its telling. -/
structure ClnG (B : Nat) (E : Nat → Prop) (xa tm : Nat) (s : ArS) (c : Col) (sw : Nat) (on : Bool) (nx p : Nat) (vL : Value) (wb w0 : World) (i r : Nat) (v5 : Value) (X : ArB) (T : MkB) (wr : World) : Prop where
  ma : MaIn B (fun k => (E k ∨ k = sw) ∨ vL.ownBlock = some k ∨ v5.ownBlock = some k) X (giveL s (((pgL s.S p).take (i + 1)).filter (wht c))) T (forgL c (((pgL s.S p).take (i + 1)).filter (blk c))) wb wr
  xe : X.a = xa
  te : T.m = tm
  bk : Blk wr sw (swArr tm on nx) 70
  rl : RefRow wr vL (intsN (pgL s.S p))
  rg : RefRow wr v5 (intsN (((pgL s.S p).take i).filter (wht c)))
  ne : ∀ k, vL.ownBlock = some k → ¬ v5.ownBlock = some k
  kp : ∀ k, E k → wr.heap[k]? = w0.heap[k]?
  ek : ∀ k, E k → k < w0.heap.size
  sz : w0.heap.size ≤ wr.heap.size
  nw : ∀ k, v5.ownBlock = some k → w0.heap.size ≤ k
  fs : ¬ E sw
  e1 : intsN (((pgL s.S p).take (i + 1)).filter (wht c)) = intsN (((pgL s.S p).take i).filter (wht c)) ++ [(r : Int)]
theorem ClnR.arena (h : ClnR B E xa tm s c sw on nx p vL wb w0 i v5 X T wr) : Calls Tryz.prog 41 #[.pointer (some ⟨tm, 0, none⟩)] wr fun e w' => e = .returned (.pointer (some ⟨xa, 0, none⟩)) ∧ wr = w' := by
  have h1 := h.ma.arena
  rw [h.te, h.xe] at h1
  exact h1
theorem ClnR.give (h : ClnR B E xa tm s c sw on nx p vL wb w0 i v5 X T wr) (hr : (pgL s.S p)[i]? = some r) (hm : c.ma (r : Int) = false) : Calls Tryz.prog 56 #[.pointer (some ⟨xa, 0, none⟩), .int .i64 (r : Int)] wr fun e w' =>
    (∃ q, e = .returned (.bool q)) ∧ ∃ X', ClnG B E xa tm s c sw on nx p vL wb w0 i r v5 X' T w' := by
  have h1 := h.ma.give r (by rw [forg_at (pgL_nodup _ _) hr]; exact hm)
  rw [h.xe] at h1
  refine h1.mono ?_
  rintro e w1 ⟨rfl, lo, g, hk, hsz⟩
  have e1 : giveL s (((pgL s.S p).take (i + 1)).filter (wht c)) = (giveL s (((pgL s.S p).take i).filter (wht c))).giveI (r : Int) := by
    rw [take_snocN hr, List.filter_append, ← giveL_snoc]
    simp [wht, hm]
  have e2 : ((pgL s.S p).take (i + 1)).filter (blk c) = ((pgL s.S p).take i).filter (blk c) := by
    rw [take_snocN hr, List.filter_append]
    simp [blk, hm]
  have e3 : intsN (((pgL s.S p).take (i + 1)).filter (wht c)) = intsN (((pgL s.S p).take i).filter (wht c)) ++ [(r : Int)] := by
    rw [take_snocN hr, List.filter_append, ← intsN_snoc]
    simp [wht, hm]
  refine ⟨⟨_, rfl⟩, X.with lo, ?_, h.xe, h.te, ?_, h.rl.keepSw (fun k e => hk k (.inr (.inl e))), h.rg.keepSw (fun k e => hk k (.inr (.inr e))), h.ne, fun k e => (hk k (.inl (.inl e))).trans (h.kp k e), h.ek, Nat.le_trans h.sz hsz, h.nw, h.fs, e3⟩
  · rw [e1, e2]; exact g
  · have h2 := h.bk
    unfold Blk at *
    rw [hk sw (.inl (.inr rfl))]; exact h2
theorem ClnG.ask (h : ClnG B E xa tm s c sw on nx p vL wb w0 i r v5 X T wr) (hB : Below wr.heap.size wr w') : ClnG B E xa tm s c sw on nx p vL wb w0 i r v5 X T w' :=
  ⟨h.ma.ask hB, h.xe, h.te, h.bk.turn (Turn.ofBelow hB) (fun e => Nat.lt_irrefl _ (Nat.lt_of_lt_of_le h.bk.lt e)), h.rl.askSw hB, h.rg.askSw hB, h.ne, fun k e => (hB.block k (Nat.lt_of_lt_of_le (h.ek k e) h.sz)).trans (h.kp k e), h.ek, Nat.le_trans h.sz hB.size, h.nw, h.fs, h.e1⟩
theorem ClnG.push {g n cap : Nat} (h : ClnG B E xa tm s c sw on nx p vL wb w0 i r v5 X T wr) (hR : RefRow w' (.slice (some ⟨g, 0, none⟩) n cap) (intsN (((pgL s.S p).take i).filter (wht c)) ++ [(r : Int)])) (hT : Turn (fun k => v5.ownBlock = some k) wr w') (hN : v5.ownBlock = some g ∨ wr.heap.size ≤ g) :
    ClnR B E xa tm s c sw on nx p vL wb w0 (i + 1) (.slice (some ⟨g, 0, none⟩) n cap) X T w' := by
  have hg : ∀ k, (Value.slice (some ⟨g, 0, none⟩) n cap).ownBlock = some k → g = k := fun k e => own_slice e
  have hgl : g < w'.heap.size := hR.lt rfl
  have hL : ∀ k, vL.ownBlock = some k → k ≠ g := fun k e e2 => by
    subst e2
    rcases hN with e3 | e3
    · exact h.ne _ e e3
    · have := h.rl.lt e; omega
  refine ⟨h.ma.turnW hT (fun k e => .inr (.inr e)) (fun k e => ?_), h.xe, h.te, h.bk.turn hT (fun e => ?_), h.rl.turn hT (fun k e => h.ne k e), by rw [h.e1]; exact hR, fun k e e2 => hL k e (hg k e2).symm, fun k e => (hT.block k (Nat.lt_of_lt_of_le (h.ek k e) h.sz) (fun e2 => ?_)).trans (h.kp k e), h.ek, Nat.le_trans h.sz hT.size, fun k e => ?_, h.fs⟩
  · rcases e with e | e | e
    · exact .inl (.inl e)
    · exact .inl (.inr (.inl e))
    · have e2 := hg k e
      subst e2
      rcases hN with e3 | e3
      · exact .inl (.inr (.inr e3))
      · exact .inr ⟨e3, hgl⟩
  · obtain ⟨cur, hc⟩ := h.rg.own e
    exact blkT h.bk hc (by decide)
  · have h1 := h.nw k e2
    have h2 := h.ek k e
    omega
  · have e2 := hg k e
    subst e2
    rcases hN with e3 | e3
    · exact h.nw _ e3
    · have := h.sz; omega
end
set_option maxRecDepth 100000 in
set_option maxHeartbeats 4000000 in
theorem SwIn.clean (h : SwIn B E X s T c sw on nx wb wr) (p : Nat) (hp : p < s.P) : Calls Tryz.prog 34 #[.pointer (some ⟨sw, 0, none⟩), .int .i64 (p : Int)] wr fun e w' =>
    ∃ v X' T', e = .returned v ∧ RefRow w' v (swL s c p) ∧ X'.a = X.a ∧ T'.m = T.m ∧ SwIn B E X' (swS s c p) T' (swC s c p) sw on nx wb w' ∧ (∀ k, E k → w'.heap[k]? = wr.heap[k]?) ∧ wr.heap.size ≤ w'.heap.size := by
  have hp64 := h.fits.p64
  have c0 := h.blk.cell 0
  simp only [swArr, List.getElem?_toArray, List.getElem?_cons_zero, List.getElem?_cons_succ] at c0
  have cA := h.ma.arena
  have hB1 := (Below.refl _ wr).alloc (Nat.le_refl _) (.cells #[.pointer (some ⟨X.a, 0, none⟩)] 27)
  have hB2 := hB1.alloc (by simp) (.cells #[.int .i64 (p : Int)] 3)
  have k0 := (Blk.new wr #[.pointer (some ⟨X.a, 0, none⟩)] 27).alloc (.cells #[.int .i64 (p : Int)] 3)
  have k1 := Blk.new (wr.alloc (.cells #[.pointer (some ⟨X.a, 0, none⟩)] 27)) #[.int .i64 (p : Int)] 3
  rw [World.size_alloc] at k1
  have h2 := h.ask hB2
  have cC := collectCells (wr := (wr.alloc (.cells #[.pointer (some ⟨X.a, 0, none⟩)] 27)).alloc (.cells #[.int .i64 (p : Int)] 3)) h2.ma.ar.at_.toArMem p hp wr.heap.size (k0.cell 0) (k1.cell 0) (fun k hk => h.ma.ar.at_.lt k hk)
  have H := Lib.hid (And.intro h (And.intro h2 hB2))
  clear k0 k1 h h2 hB1 hB2
  go_enter Tryz.func34, Tryz.ntmps34
  go_wp2_with fail
  refine cA.mono ?_
  rintro e w1 ⟨rfl, rfl⟩
  go_wp2_with fail
  refine (cellsfn_any X.a (p : Int) wr).mono ?_
  rintro e w1 ⟨rfl, rfl⟩
  go_wp2_with fail
  refine cC.mono ?_
  rintro e w3 ⟨vL, rfl, hR, hB3, ho⟩
  have hlen := hR.lenRun 3
  obtain ⟨h, h2, hB2⟩ := H.out
  have hsz2 := hB2.size
  have hw3 := h2.watch (E' := fun k => (E k) ∨ vL.ownBlock = some k) hB3 (fun k e => by
    rcases e with e | e
    · exact .inl e
    · exact .inr ⟨ho k e, hR.lt e⟩)
  have hst : ClnR B E X.a T.m s c sw on nx p vL wb wr 0 (.slice none 0 0) X T w3 := by
    refine ⟨?_, rfl, rfl, hw3.blk, hR, World.ownsRow_nil _ _ _ _, fun k _ e => (by cases e), fun k e => ?_, fun k e => (h.ma.ownE k (.inl e)).2.1, Nat.le_trans hsz2 hB3.size, fun k e => (by cases e), h.far⟩
    · exact hw3.ma.less fun k e => by
        rcases e with (e | e) | e | e
        · exact .inl (.inl e)
        · exact .inr e
        · exact .inl (.inr e)
        · cases e
    · have h4 := (h.ma.ownE k (.inl e)).2.1
      exact (hB3.block k (by omega)).trans (hB2.block k h4)
  have HS := Lib.hid (And.intro hst h)
  rw [intsN_length] at hlen
  have hL32 := pgL_le s.S p
  obtain ⟨n, hn⟩ : ∃ n, (pgL s.S p).length = n := ⟨_, rfl⟩
  rw [hn] at hlen hL32
  have HN := Lib.hid hn
  clear cC cA H h h2 hB2 hw3 hst hR hB3 ho hsz2 hn
  go_wp2_with fail
  go_loopw [5, 17] (fun v5 v17 wr' => ∃ i X' T', i ≤ n ∧ v17 = .int .i64 (i : Int) ∧ ClnR B E X.a T.m s c sw on nx p vL wb wr i v5 X' T' wr') (fun _ v17 _ => n - (intOf v17).toNat)
  case atStart => exact ⟨0, X, T, Nat.zero_le _, rfl, HS.out.1⟩
  case round =>
    obtain ⟨i, X1, T1, hi, rfl, h1⟩ := hrel
    rename World => w5
    by_cases hlt : i < n
    · obtain ⟨r, hr⟩ : ∃ r, (pgL s.S p)[i]? = some r := ⟨_, List.getElem?_eq_getElem (by rw [HN.out]; exact hlt)⟩
      rcases h1.rl.is with ⟨_, e⟩ | ⟨g, cap, cur, hv, _⟩
      · have e2 := congrArg List.length e
        rw [intsN_length, HN.out] at e2
        simp at e2; omega
      · rw [intsN_length, HN.out] at hv
        subst hv
        have hc := row_cellSw h1.rl (intsN_at hr)
        have hsw := h1.bk.cell 0
        simp only [swArr, List.getElem?_toArray, List.getElem?_cons_zero, List.getElem?_cons_succ] at hsw
        have hi0 : (0 : Int) ≤ (i : Int) := by omega
        have hi1 : (i : Int) < (n : Int) := by omega
        have cM := h1.marked hr
        have HR := Lib.hid (And.intro h1 hr)
        clear h1 hr
        cases hm : c.ma (r : Int) with
        | true =>
          rw [hm] at cM
          have HM := Lib.hid hm
          clear hm
          go_wp2_with fail
          refine cM.mono ?_
          rintro e w6 ⟨rfl, hB6⟩
          have h6 := HR.out.1.ask hB6
          have hsw6 := h6.bk.cell 0
          simp only [swArr, List.getElem?_toArray, List.getElem?_cons_zero, List.getElem?_cons_succ] at hsw6
          have cF := h6.forget HR.out.2 HM.out
          clear cM hB6 h6 hsw hc
          go_wp2_with fail
          refine cF.mono ?_
          rintro e w7 ⟨rfl, T7, h7⟩
          have H7 := Lib.hid h7
          clear cF h7 hsw6
          go_wp2_with fail
          go_roundw
          case rel => exact ⟨i + 1, X1, T7, hlt, by go_num, H7.out⟩
          case measure => simp [intOf]; omega
        | false =>
          rw [hm] at cM
          have HM := Lib.hid hm
          clear hm
          go_wp2_with fail
          refine cM.mono ?_
          rintro e w6 ⟨rfl, hB6⟩
          have h6 := HR.out.1.ask hB6
          have hsw6 := h6.bk.cell 0
          simp only [swArr, List.getElem?_toArray, List.getElem?_cons_zero, List.getElem?_cons_succ] at hsw6
          have cR := h6.arena
          have cG := h6.give HR.out.2 HM.out
          clear cM hB6 h6 hsw hc
          go_wp2_with fail
          refine cR.mono ?_
          rintro e w' ⟨rfl, rfl⟩
          clear cR
          go_wp2_with fail
          refine cG.mono ?_
          rintro e w7 ⟨⟨q, rfl⟩, X7, h7⟩
          have h7a := h7.ask ((Below.refl _ w7).alloc (Nat.le_refl _) (.cells #[.int .i64 (r : Int)] 41))
          have hRa := h7a.rg
          have hls : (intsN (((pgL s.S p).take i).filter (wht c))).length ≤ 100000 := by
            rw [intsN_length]
            have := List.length_filter_le (wht c) ((pgL s.S p).take i)
            rw [List.length_take] at this; omega
          have H7 := Lib.hid h7a
          clear cG h7 h7a hsw6
          go_wp2_with (at_builtin; refine wpList_pushT rfl _ _ rfl hRa hls w7.heap.size 1 (r : Int) ((Blk.new w7 _ _).cell 0) rfl rfl ?_; intro g8 n8 c8 w8 hR8 hT8 hN8; have h8 := H7.out.push hR8 hT8 hN8; have H8 := Lib.hid h8; clear hR8 hT8 hN8 hRa h8)
          go_roundw
          case rel => exact ⟨i + 1, X7, T1, hlt, by go_num, H8.out⟩
          case measure => simp [intOf]; omega
    · have hi1 : ¬ (i : Int) < (n : Int) := by omega
      obtain rfl : i = n := by omega
      have HF := Lib.hid h1
      clear h1 hlt hi
      go_wp2_with fail
      go_ret
      have h1 := HF.out
      have e0 : (pgL s.S p).take i = pgL s.S p := by rw [← HN.out, List.take_length]
      have hr9 := h1.rg
      have hm9 := h1.ma
      rw [e0] at hr9 hm9
      exact ⟨_, rfl, hr9, X1, h1.xe, T1, h1.te, ⟨hm9.less (fun k e => .inl e), by rw [h1.te]; exact h1.bk, h1.fs⟩, h1.kp, h1.sz⟩
end
end Go.Proofs.YtidpmplkbgllfaaGreatDoor
