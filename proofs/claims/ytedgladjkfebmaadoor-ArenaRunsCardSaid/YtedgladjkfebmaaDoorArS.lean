/- ArenaRuns, walked, at this seat's numbers (written by wip/gen/ars.py). -/
import Derived.Test.YtedgladjkfebmaaDoorMdG
import Derived.Test.YtedgladjkfebmaaDoorArR
import Derived.Maps.OwnIn
namespace Go.Proofs.YtedgladjkfebmaaDoor
open Go Go.RowKit Go.Shelf Go.MuLone Go.RwLone Go.Maps
set_option linter.unusedSimpArgs false
set_option linter.unusedVariables false
attribute [local go_sem] Oper.semAt_some

/-- The boxes of the arena and of the model. -/
structure Two2 (xa ym ba bm : Nat) (w : World) : Prop where
  ab : Blk w ba #[.pointer (some ⟨xa, 0, none⟩)] 24
  mb : Blk w bm #[.pointer (some ⟨ym, 0, none⟩)] 26
abbrev Cells2 (xa ym ba bm : Nat) (w : World) : Prop := w.cell? ⟨ba, 0, none⟩ = some (.pointer (some ⟨xa, 0, none⟩)) ∧ w.cell? ⟨bm, 0, none⟩ = some (.pointer (some ⟨ym, 0, none⟩))
section
variable {xa ym ba bm : Nat} {w w' : World}
theorem Two2.c0 (h : Two2 xa ym ba bm w) : w.cell? ⟨ba, 0, none⟩ = some (.pointer (some ⟨xa, 0, none⟩)) := h.ab.cell 0
theorem Two2.c1 (h : Two2 xa ym ba bm w) : w.cell? ⟨bm, 0, none⟩ = some (.pointer (some ⟨ym, 0, none⟩)) := h.mb.cell 0
theorem Two2.cells (h : Two2 xa ym ba bm w) : Cells2 xa ym ba bm w := ⟨h.c0, h.c1⟩
theorem Two2.keep (h : Two2 xa ym ba bm w) (hB : Boxes w w') : Two2 xa ym ba bm w' := ⟨hB _ _ _ (by decide) h.ab, hB _ _ _ (by decide) h.mb⟩
theorem Two2.drew (h : Two2 xa ym ba bm w) : Two2 xa ym ba bm w.drew := ⟨h.ab, h.mb⟩
theorem Two2.alloc (h : Two2 xa ym ba bm w) (o : Obj) : Two2 xa ym ba bm (w.alloc o) := ⟨h.ab.alloc o, h.mb.alloc o⟩
end
section
variable {B : Nat} {X : ArB} {Y : MdB} {s t : ArS} {wb wr : World}
theorem TwoAt.giveAb (h : TwoAt B X Y s t wb wr) (r : Int) (b : Bool) (hb : inS s.S r = b) : Calls Tryd.prog 15 #[.pointer (some ⟨X.a, 0, none⟩), .int .i64 r] wr fun e w' =>
    e = .returned (.bool b) ∧ ∃ lo', TwoAt B (X.with lo') Y (s.giveI r) t wb w' ∧ Boxes wr w' := (h.giveA r).mono fun _ _ ⟨he, lo', h1, h2, _⟩ => ⟨by rw [he, hb], lo', h1, h2⟩
theorem TwoAt.giveMb (h : TwoAt B X Y s t wb wr) (r : Int) (b : Bool) (hr : (Lit.int .i64 r).wf = true) (hb : inS t.S r = b) : Calls Tryd.prog 16 #[.pointer (some ⟨Y.m, 0, none⟩), .int .i64 r] wr fun e w' =>
    e = .returned (.bool b) ∧ TwoAt B X Y s (t.giveI r) wb w' ∧ Boxes wr w' := (h.giveM r hr).mono fun _ _ ⟨he, h1, h2, _⟩ => ⟨by rw [he, hb], h1, h2⟩
theorem TwoAt.takeAb (h : TwoAt B X Y s t wb wr) (c : Int) (x : Nat) (b : Bool) (hx : seekF s c = x) (hb : decide (x ≠ 0) = b) : Calls Tryd.prog 18 #[.pointer (some ⟨X.a, 0, none⟩), .int .i64 c] wr fun e w' =>
    e = .returned (.tuple #[.int .i64 (x : Int), .bool b]) ∧ ∃ lo', TwoAt B (X.with lo') Y (s.take c) t wb w' ∧ Boxes wr w' := (h.takeA c).mono fun _ _ ⟨he, lo', h1, h2, _⟩ => ⟨by rw [he, hx, hb], lo', h1, h2⟩
theorem TwoAt.takeMb (h : TwoAt B X Y s t wb wr) (c : Int) (x : Nat) (b : Bool) (hx : seekF t c = x) (hb : decide (x ≠ 0) = b) : Calls Tryd.prog 19 #[.pointer (some ⟨Y.m, 0, none⟩), .int .i64 c] wr fun e w' =>
    e = .returned (.tuple #[.int .i64 (x : Int), .bool b]) ∧ TwoAt B X Y s (t.take c) wb w' ∧ Boxes wr w' := (h.takeM c).mono fun _ _ ⟨he, h1, h2, _⟩ => ⟨by rw [he, hx, hb], h1, h2⟩
theorem TwoAt.roomb (h : TwoAt B X Y s t wb wr) (c : Int) (x : Nat) (b : Bool) (hx : seekF s c = x) (hb : decide (x ≠ 0) = b) : Calls Tryd.prog 17 #[.pointer (some ⟨X.a, 0, none⟩), .int .i64 c] wr fun e w' =>
    e = .returned (.bool b) ∧ TwoAt B X Y s t wb w' ∧ Boxes wr w' := (h.ar.room c).mono fun _ _ ⟨he, h1⟩ => by
      refine ⟨?_, h.ask h1, Boxes.below h1⟩
      rw [he, hx]
      have : (((x : Nat) : Int) != 0) = b := by
        rw [← hb]
        by_cases e : x = 0
        · subst e; rfl
        · rw [decide_eq_true e]; exact bne_iff_ne.2 (by omega)
      rw [this]
end
theorem TwoAt.far {B : Nat} {X : ArB} {Y : MdB} {s t : ArS} {wb wr w' : World} {row : Option Nat} (h : TwoAt B X Y s t wb wr) (hg : wr.grownBy w' row) (hr : ∀ r, row = some r → B ≤ r ∧ ∃ o : Obj, wr.heap[r]? = some o ∧ o.isCells = false) (hY : ∀ r, row = some r → ¬ Y.has r) : TwoAt B X Y s t wb w' :=
  ⟨h.ar.far hg hr, h.md.turn (M := fun k => row = some k) ⟨hg.os, hg.tape, hg.output, hg.size, fun k hk hn => hg.block k hk (fun e => hn e.symm)⟩ (fun k hk e => hY k e hk), h.own, h.sep⟩
theorem Owned.ofBelow {B : Nat} {O : Nat → Prop} {W W' : World} (h : Below W.heap.size W W') (_ : B ≤ W.heap.size) : Owned B O O W W' := ⟨h.size, fun k _ hk _ => h.block k hk, fun _ h => .inl h⟩
/-- 'v, ok := m.taken[x]' inside the fence. -/
theorem wpListIn_lookM {F : Fence} {n : Nat} {ops : Array Oper} {rest : List Oper} {o : Oper} {a : Act} {Q : Exit → Act → World → Prop} {w : World} {t : Nat} {s : ArS} (hg : o.guard = none) (m x : Operand) (hop : o.op = Op.lookup 42 m x true)
    (h : MapM w t s) (y : Int) (hy : (Lit.int .i64 y).wf = true) (b : Bool) (hb : inS s.S y = b) (hm : a.eval m = .map (some t)) (hx : a.eval x = .int .i64 y)
    (hK : ∀ c : Int, wpListIn F n Tryd.prog ops Q rest (a.put o.dst (.tuple #[.int .i64 c, .bool b])) w) : wpListIn F n Tryd.prog ops Q (o :: rest) a w := by
  obtain ⟨D, hD, hf⟩ := h
  refine wpListIn_lookup_own_ok_int w hg m x 42 hop 30 3 .i64 keyRef Tryd.underlying42 Tryd.underlying3 (zeroInt w) t 4096 D hm hD (.int .i64 y) (.int .i64 y) hx (keyOf_int_mk Tryd.underlying30 hy) fun c _ _ => ?_
  rw [hf.has_ y hy, hb]
  exact hK c

/-- Between two rounds. -/
def RunsRel (B : Nat) (X : ArB) (Y : MdB) (P ba bm : Nat) (wb : World) (len : Nat) (v : Value) (wr : World) : Prop :=
  ∃ (i : Nat) (lo : Option Nat) (s : ArS), i ≤ len ∧ v = .int .i64 (i : Int) ∧ s.P = P ∧ TwoAt B (X.with lo) Y s s wb wr ∧ Two2 X.a Y.m ba bm wr

set_option maxRecDepth 100000 in
set_option maxHeartbeats 16000000 in
theorem runs_true (pages : Int) (a0 : Option Addr) (len cap : Nat) (K N : Nat → Int) (w : World) (_ : len ≤ 9223372036854775807) (hC : CallsAt w a0 len K N) (hTab : TabAt w) (hT : TableAt w) :
    Calls Tryd.prog 3 #[.int .i64 pages, .slice a0 len cap] w fun e w' => e = .returned (.bool true) ∧ Below w.heap.size w w' := by
  have hg := hT.lt
  have HCA := Lib.hid hC
  clear hC
  obtain ⟨P, hP7, hPe⟩ := i64_and_mask pages 7 (by decide)
  replace hPe : bits .and .i64 pages 7 = (P : Int) := hPe
  obtain ⟨M, hM6⟩ : ∃ M : Nat, 8 ≤ M := ⟨8, Nat.le_refl _⟩
  refine calls_of_wp_marks Tryd.func3 rfl M ?_
  simp only [Tryd.ntmps3, List.size_toArray, List.length_cons, List.length_nil, Nat.reduceAdd, Nat.reduceSub, Array.replicate_succ, Array.replicate_zero, List.push_toArray, List.append_toArray, List.nil_append, List.cons_append]
  gi_wp2_with fail
  refine ⟨trivial, fun h => (by cases h), ?_⟩
  have hR := Blk.new w #[.bool false] 4
  have hBb := (Below.refl w.heap.size w).alloc (Nat.le_refl _) (.cells #[.bool false] 4)
  have hTb : TableAt (w.alloc (.cells #[.bool false] 4)) := hT.below ((Below.refl w.heap.size w).alloc (Nat.le_refl _) _)
  have hDb : TabAt (w.alloc (.cells #[.bool false] 4)) := fun j hj => cell_allocKeep (hTab j hj) _
  have hsb : (w.alloc (.cells #[.bool false] 4)).heap.size = w.heap.size + 1 := by simp
  have hgd := hTab.lt
  generalize w.alloc (.cells #[.bool false] 4) = wb at *
  refine (callsIn_wide.2 (fit_true wb hTb)).mono ?_
  rintro e w1 ⟨rfl, hB⟩
  have hR1 : w1.cell? ⟨w.heap.size, 0, none⟩ = some (.bool false) := (hB.cell (p := ⟨w.heap.size, 0, none⟩) hR.lt).trans (hR.cell 0)
  have hZ1 : w1.frozen? ⟨w.heap.size, 0, none⟩ = false := (hB.frozen (p := ⟨w.heap.size, 0, none⟩) hR.lt).trans (hR.free 0)
  by_cases hbig : 120 < (len : Int)
  · gi_wp2_with fail
    refine ⟨.bool true, ?_, rfl, (hBb.trans (hB.mono (by omega))).setCell (p := ⟨w.heap.size, 0, none⟩) (Nat.le_refl _) (.bool true)⟩
    have hc := World.cell?_setCell_same w1 ⟨w.heap.size, 0, none⟩ (.bool true) hR1
    simp [results, Tryd.f3, go_sem, hc]
  clear hR1 hZ1
  have hP0 : (0 : Int) ≤ (P : Int) := by omega
  gi_wp2_with fail
  refine ⟨trivial, fun h => (by cases h), ?_⟩
  refine (callsIn_wide.2 (new_in (P : Int) P (by omega) wb.heap.size wb _ hB (Nat.le_refl _) hTb (by omega))).mono ?_
  rintro e w2 ⟨X, rfl, h2, _, _⟩
  clear hB hPe
  gi_wp2_with fail
  refine ⟨trivial, fun h => (by cases h), ?_⟩
  refine (callsIn_wide.2 (two_new (by omega) h2)).mono ?_
  rintro e w3 ⟨Y, rfl, h3, _⟩
  clear h2
  gi_wp2_with fail
  have hk3 : Two2 X.a Y.m w3.heap.size (w3.heap.size + 1) ((w3.alloc (.cells #[.pointer (some ⟨X.a, 0, none⟩)] 24)).alloc (.cells #[.pointer (some ⟨Y.m, 0, none⟩)] 26)) := by
    refine ⟨(Blk.new w3 _ _).alloc _, ?_⟩
    have := Blk.new (w3.alloc (.cells #[.pointer (some ⟨X.a, 0, none⟩)] 24)) #[.pointer (some ⟨Y.m, 0, none⟩)] 26
    simpa using this
  have h4 := (h3.alloc (.cells #[.pointer (some ⟨X.a, 0, none⟩)] 24)).alloc (.cells #[.pointer (some ⟨Y.m, 0, none⟩)] 26)
  clear h3
  generalize (w3.alloc (.cells #[.pointer (some ⟨X.a, 0, none⟩)] 24)).alloc (.cells #[.pointer (some ⟨Y.m, 0, none⟩)] 26) = w4 at *
  generalize w3.heap.size + 1 = bm at *
  generalize w3.heap.size = ba at *
  gi_loopw [35] (fun v wr => RunsRel wb.heap.size X Y P ba bm wb len v wr) (fun v _ => len - (intOf v).toNat)
  case atStart => exact ⟨0, X.lo, .new P, Nat.zero_le _, rfl, rfl, h4, hk3⟩
  case round =>
    clear h4 hk3
    obtain ⟨i, lo, s, hi, rfl, hsP, h1, hk1⟩ := hrel
    have HSP := Lib.hid hsP
    clear hsP
    by_cases hlt : i < len
    · obtain ⟨bk, off, rfl, hbk, hc0, hc1, hk0w, hk1w⟩ := HCA.out i hlt
      replace hc0 := ((hBb.trans (h1.ar.below.mono (by omega))).cell (p := ⟨bk, off + i * 2, none⟩) hbk).trans hc0
      replace hc1 := ((hBb.trans (h1.ar.below.mono (by omega))).cell (p := ⟨bk, off + i * 2 + 1, none⟩) hbk).trans hc1
      have i0 : 0 ≤ (i : Int) := by omega
      have i1 : (i : Int) < (len : Int) := by omega
      obtain ⟨q, hq3, hq⟩ := i64_and_mask (K i) 3 (by decide)
      replace hq : bits .and .i64 (K i) 3 = (q : Int) := hq
      obtain ⟨z, hz12, hz⟩ := i64_and_mask (K i) 12 (by decide)
      replace hz : bits .and .i64 (K i) 12 = (z : Int) := hz
      have h2 := h1.alloc (.cells #[.int .i64 (K i), .int .i64 (N i)] 29)
      have hk2 := hk1.alloc (.cells #[.int .i64 (K i), .int .i64 (N i)] 29)
      have hcx := Blk.new wr #[.int .i64 (K i), .int .i64 (N i)] 29
      have hc2 := hk2.c0
      have hc2m := hk2.c1
      clear h1 hk1
      by_cases hq4 : (q : Int) = 3
      · rw [hq4] at hq
        gi_wp2_with fail
        refine ⟨trivial, fun h => (by cases h), ?_⟩
        refine (callsIn_wide.2 (h2.nth (N i))).mono ?_
        rintro e w3 ⟨r, hr8, rfl, h4, hB3⟩
        have hk4 := hk2.keep (Boxes.below hB3)
        have hcb := hcx.below hB3
        have hcb3 : w3.cell? ⟨wr.heap.size, 0, none⟩ = some (.int .i64 (K i)) := hcb.cell 0
        have hcb4 : w3.cell? ⟨wr.heap.size, 1, none⟩ = some (.int .i64 (N i)) := hcb.cell 1
        have hwr3 : (0 : Int) ≤ (r : Int) := by omega
        clear h2 hk2 hc2 hc2m hc0 hc1 hcb hcx hB3
        by_cases hz4 : (z : Int) = 12
        · rw [hz4] at hz
          have hwr : (Lit.int .i64 (N i)).wf = true := hk1w
          obtain ⟨bb, hbb⟩ : ∃ bb, inS s.S (N i) = bb := ⟨_, rfl⟩
          have HBB := Lib.hid hbb
          have hPg : (s.giveI (N i)).P = P := by rw [giveI_P]; exact HSP.out
          have HPG := Lib.hid hPg
          have hbn : (bb != bb) = false := by simp
          clear hbb hPg
          gi_wp2_with fail
          clear hcb3 hcb4 hwr3
          have h5 := h4.drew
          have hk5 : Two2 X.a Y.m ba bm w3.drew := hk4.drew
          have hc5 := hk5.cells
          refine wpIn_wide.2 ?_
          go_region_held3 (fun W' => W'.cell? ⟨ba, 0, none⟩ = some (.pointer (some ⟨X.a, 0, none⟩)) ∧ W'.cell? ⟨bm, 0, none⟩ = some (.pointer (some ⟨Y.m, 0, none⟩))) (first | exact hka.cells | exact hkm.cells | exact hc5)
            (first
              | (go_at_call 15; first
                  | (refine (hm6.giveAb (N i) bb HBB.out).mono ?_; rintro e w5 ⟨rfl, lo5, ha5, bx5⟩; have hka := hkm.keep bx5; have hfin := ha5; have hkf := hka)
                  | (refine (h5.giveAb (N i) bb HBB.out).mono ?_; rintro e w5 ⟨rfl, lo5, ha5, bx5⟩; have hka := hk5.keep bx5; have hfin := ha5; have hkf := hka))
              | (go_at_call 16; first
                  | (refine (ha5.giveMb (N i) bb hwr HBB.out).mono ?_; rintro e w6 ⟨rfl, hm6, bx6⟩; have hkm := hka.keep bx6; have hfin := hm6; have hkf := hkm)
                  | (refine (h5.giveMb (N i) bb hwr HBB.out).mono ?_; rintro e w6 ⟨rfl, hm6, bx6⟩; have hkm := hk5.keep bx6; have hfin := hm6; have hkf := hkm)))
          all_goals
            clear h5 hk5 hc5 hk4 h4 hka hkm ha5 hm6 bx5 bx6
            obtain ⟨s2, hs2⟩ : ∃ s2, s2 = s.giveI (N i) := ⟨_, rfl⟩
            rw [← hs2] at hfin HPG
            clear hs2
            gi_wp2_with fail
            have hfd := hfin.drew
            have hkd := hkf.drew
            have hcd := hkd.cells
            have cF := hfd.ar.free
            have cM := mfree_any hfd.md
            generalize ((freeTo s2 s2.P : Nat) : Int) = fr at *
            have hfr : (fr == fr) = true := by simp
            have hfr2 : (fr != fr) = false := by simp
            refine wpIn_wide.2 ?_
            go_region_held3 (fun W' => W'.cell? ⟨ba, 0, none⟩ = some (.pointer (some ⟨X.a, 0, none⟩)) ∧ W'.cell? ⟨bm, 0, none⟩ = some (.pointer (some ⟨Y.m, 0, none⟩))) (exact hcd)
              (first
                | (go_at_call 20; refine cF.mono ?_; rintro e w7 ⟨rfl, rfl⟩)
                | (go_at_call 21; refine cM.mono ?_; rintro e w8 ⟨rfl, rfl⟩))
            all_goals
              clear cF cM hcd hfin hkf
              gi_wp2_with fail
              go_roundw
              case rel => exact ⟨i + 1, _, s2, by omega, by go_num, HPG.out, hfd, hkd⟩
              case measure => simp [intOf]; omega
        · have hzE : ((z : Int) == 12) = false := not_eqb hz4
          have hwr : (Lit.int .i64 (r : Int)).wf = true := wf_of (by omega) (by omega)
          obtain ⟨bb, hbb⟩ : ∃ bb, inS s.S (r : Int) = bb := ⟨_, rfl⟩
          have HBB := Lib.hid hbb
          have hPg : (s.giveI (r : Int)).P = P := by rw [giveI_P]; exact HSP.out
          have HPG := Lib.hid hPg
          have hbn : (bb != bb) = false := by simp
          clear hbb hPg
          gi_wp2_with fail
          clear hcb3 hcb4 hwr3
          have h5 := h4.drew
          have hk5 : Two2 X.a Y.m ba bm w3.drew := hk4.drew
          have hc5 := hk5.cells
          refine wpIn_wide.2 ?_
          go_region_held3 (fun W' => W'.cell? ⟨ba, 0, none⟩ = some (.pointer (some ⟨X.a, 0, none⟩)) ∧ W'.cell? ⟨bm, 0, none⟩ = some (.pointer (some ⟨Y.m, 0, none⟩))) (first | exact hka.cells | exact hkm.cells | exact hc5)
            (first
              | (go_at_call 15; first
                  | (refine (hm6.giveAb (r : Int) bb HBB.out).mono ?_; rintro e w5 ⟨rfl, lo5, ha5, bx5⟩; have hka := hkm.keep bx5; have hfin := ha5; have hkf := hka)
                  | (refine (h5.giveAb (r : Int) bb HBB.out).mono ?_; rintro e w5 ⟨rfl, lo5, ha5, bx5⟩; have hka := hk5.keep bx5; have hfin := ha5; have hkf := hka))
              | (go_at_call 16; first
                  | (refine (ha5.giveMb (r : Int) bb hwr HBB.out).mono ?_; rintro e w6 ⟨rfl, hm6, bx6⟩; have hkm := hka.keep bx6; have hfin := hm6; have hkf := hkm)
                  | (refine (h5.giveMb (r : Int) bb hwr HBB.out).mono ?_; rintro e w6 ⟨rfl, hm6, bx6⟩; have hkm := hk5.keep bx6; have hfin := hm6; have hkf := hkm)))
          all_goals
            clear h5 hk5 hc5 hk4 h4 hka hkm ha5 hm6 bx5 bx6
            obtain ⟨s2, hs2⟩ : ∃ s2, s2 = s.giveI (r : Int) := ⟨_, rfl⟩
            rw [← hs2] at hfin HPG
            clear hs2
            gi_wp2_with fail
            have hfd := hfin.drew
            have hkd := hkf.drew
            have hcd := hkd.cells
            have cF := hfd.ar.free
            have cM := mfree_any hfd.md
            generalize ((freeTo s2 s2.P : Nat) : Int) = fr at *
            have hfr : (fr == fr) = true := by simp
            have hfr2 : (fr != fr) = false := by simp
            refine wpIn_wide.2 ?_
            go_region_held3 (fun W' => W'.cell? ⟨ba, 0, none⟩ = some (.pointer (some ⟨X.a, 0, none⟩)) ∧ W'.cell? ⟨bm, 0, none⟩ = some (.pointer (some ⟨Y.m, 0, none⟩))) (exact hcd)
              (first
                | (go_at_call 20; refine cF.mono ?_; rintro e w7 ⟨rfl, rfl⟩)
                | (go_at_call 21; refine cM.mono ?_; rintro e w8 ⟨rfl, rfl⟩))
            all_goals
              clear cF cM hcd hfin hkf
              gi_wp2_with fail
              go_roundw
              case rel => exact ⟨i + 1, _, s2, by omega, by go_num, HPG.out, hfd, hkd⟩
              case measure => simp [intOf]; omega
      · have hqE : ((q : Int) == 3) = false := not_eqb hq4
        by_cases hz4 : (z : Int) = 12
        · rw [hz4] at hz
          obtain ⟨x, hx⟩ : ∃ x, seekF s (N i) = x := ⟨_, rfl⟩
          obtain ⟨bq, hbq⟩ : ∃ bq, decide (x ≠ 0) = bq := ⟨_, rfl⟩
          have HX := Lib.hid hx
          have HBQ := Lib.hid hbq
          have hPg : (s.take (N i)).P = P := by rw [take_P]; exact HSP.out
          have HPG := Lib.hid hPg
          have hbn : (bq != bq) = false := by simp
          have hxn : ((x : Int) != (x : Int)) = false := by simp
          clear hx hbq hPg
          gi_wp2_with fail
          refine ⟨trivial, fun h => (by cases h), ?_⟩
          refine (callsIn_wide.2 (h2.roomb (N i) x bq HX.out HBQ.out)).mono ?_
          rintro e w3 ⟨rfl, h3, bx3⟩
          have hk3 := hk2.keep bx3
          have hc3 := hk3.c0
          clear h2 hk2 bx3
          gi_wp2_with fail
          refine ⟨trivial, fun h => (by cases h), ?_⟩
          refine (callsIn_wide.2 (h3.takeAb (N i) x bq HX.out HBQ.out)).mono ?_
          rintro e w4 ⟨rfl, lo4, h4, bx4⟩
          have hk4 := hk3.keep bx4
          have hc4 := hk4.c1
          clear h3 hk3 bx4 hc3
          gi_wp2_with fail
          refine ⟨trivial, fun h => (by cases h), ?_⟩
          refine (callsIn_wide.2 (h4.takeMb (N i) x bq HX.out HBQ.out)).mono ?_
          rintro e w5 ⟨rfl, hfin, bx5⟩
          have hkf := hk4.keep bx5
          clear h4 hk4 bx5 hc4
          obtain ⟨s2, hs2⟩ : ∃ s2, s2 = s.take (N i) := ⟨_, rfl⟩
          rw [← hs2] at hfin HPG
          clear hs2
          cases bq <;> gi_wp2_with fail
          all_goals
            have hfd := hfin.drew
            have hkd := hkf.drew
            have hcd := hkd.cells
            have cF := hfd.ar.free
            have cM := mfree_any hfd.md
            generalize ((freeTo s2 s2.P : Nat) : Int) = fr at *
            have hfr : (fr == fr) = true := by simp
            have hfr2 : (fr != fr) = false := by simp
            refine wpIn_wide.2 ?_
            go_region_held3 (fun W' => W'.cell? ⟨ba, 0, none⟩ = some (.pointer (some ⟨X.a, 0, none⟩)) ∧ W'.cell? ⟨bm, 0, none⟩ = some (.pointer (some ⟨Y.m, 0, none⟩))) (exact hcd)
              (first
                | (go_at_call 20; refine cF.mono ?_; rintro e w7 ⟨rfl, rfl⟩)
                | (go_at_call 21; refine cM.mono ?_; rintro e w8 ⟨rfl, rfl⟩))
            all_goals
              clear cF cM hcd hfin hkf
              gi_wp2_with fail
              go_roundw
              case rel => exact ⟨i + 1, _, s2, by omega, by go_num, HPG.out, hfd, hkd⟩
              case measure => simp [intOf]; omega
        · have hzE : ((z : Int) == 12) = false := not_eqb hz4
          obtain ⟨x, hx⟩ : ∃ x, seekF s (q : Int) = x := ⟨_, rfl⟩
          obtain ⟨bq, hbq⟩ : ∃ bq, decide (x ≠ 0) = bq := ⟨_, rfl⟩
          have HX := Lib.hid hx
          have HBQ := Lib.hid hbq
          have hPg : (s.take (q : Int)).P = P := by rw [take_P]; exact HSP.out
          have HPG := Lib.hid hPg
          have hbn : (bq != bq) = false := by simp
          have hxn : ((x : Int) != (x : Int)) = false := by simp
          clear hx hbq hPg
          gi_wp2_with fail
          refine ⟨trivial, fun h => (by cases h), ?_⟩
          refine (callsIn_wide.2 (h2.roomb (q : Int) x bq HX.out HBQ.out)).mono ?_
          rintro e w3 ⟨rfl, h3, bx3⟩
          have hk3 := hk2.keep bx3
          have hc3 := hk3.c0
          clear h2 hk2 bx3
          gi_wp2_with fail
          refine ⟨trivial, fun h => (by cases h), ?_⟩
          refine (callsIn_wide.2 (h3.takeAb (q : Int) x bq HX.out HBQ.out)).mono ?_
          rintro e w4 ⟨rfl, lo4, h4, bx4⟩
          have hk4 := hk3.keep bx4
          have hc4 := hk4.c1
          clear h3 hk3 bx4 hc3
          gi_wp2_with fail
          refine ⟨trivial, fun h => (by cases h), ?_⟩
          refine (callsIn_wide.2 (h4.takeMb (q : Int) x bq HX.out HBQ.out)).mono ?_
          rintro e w5 ⟨rfl, hfin, bx5⟩
          have hkf := hk4.keep bx5
          clear h4 hk4 bx5 hc4
          obtain ⟨s2, hs2⟩ : ∃ s2, s2 = s.take (q : Int) := ⟨_, rfl⟩
          rw [← hs2] at hfin HPG
          clear hs2
          cases bq <;> gi_wp2_with fail
          all_goals
            have hfd := hfin.drew
            have hkd := hkf.drew
            have hcd := hkd.cells
            have cF := hfd.ar.free
            have cM := mfree_any hfd.md
            generalize ((freeTo s2 s2.P : Nat) : Int) = fr at *
            have hfr : (fr == fr) = true := by simp
            have hfr2 : (fr != fr) = false := by simp
            refine wpIn_wide.2 ?_
            go_region_held3 (fun W' => W'.cell? ⟨ba, 0, none⟩ = some (.pointer (some ⟨X.a, 0, none⟩)) ∧ W'.cell? ⟨bm, 0, none⟩ = some (.pointer (some ⟨Y.m, 0, none⟩))) (exact hcd)
              (first
                | (go_at_call 20; refine cF.mono ?_; rintro e w7 ⟨rfl, rfl⟩)
                | (go_at_call 21; refine cM.mono ?_; rintro e w8 ⟨rfl, rfl⟩))
            all_goals
              clear cF cM hcd hfin hkf
              gi_wp2_with fail
              go_roundw
              case rel => exact ⟨i + 1, _, s2, by omega, by go_num, HPG.out, hfd, hkd⟩
              case measure => simp [intOf]; omega
    · obtain rfl : i = len := by omega
      have hk2 := hk1.alloc (.cells #[.int .i64 0] 3)
      have hc2 := hk2.c0
      have hXlt := h1.ar.at_.lt
      have hYlt := h1.md.lt
      have hba := hk1.ab.lt
      have hbm := hk1.mb.lt
      have hsB := h1.ar.size
      have hF := Lib.hid h1.md.fits
      have h6 := (h1.alloc (.cells #[.int .i64 0] 3)).alloc (.cells #[.pointer (some ⟨X.a, 0, none⟩)] 24)
      have hk6 := hk2.alloc (.cells #[.pointer (some ⟨X.a, 0, none⟩)] 24)
      have hbox : Blk ((wr.alloc (.cells #[.int .i64 0] 3)).alloc (.cells #[.pointer (some ⟨X.a, 0, none⟩)] 24)) wr.heap.size #[.int .i64 0] 3 := (Blk.new wr _ _).alloc _
      have b0 : (((wr.alloc (.cells #[.int .i64 0] 3)).alloc (.cells #[.pointer (some ⟨X.a, 0, none⟩)] 24))).cell? ⟨wr.heap.size + 1, 0, none⟩ = some (.pointer (some ⟨X.a, 0, none⟩)) := by
        have := (Blk.new (wr.alloc (.cells #[.int .i64 0] 3)) #[.pointer (some ⟨X.a, 0, none⟩)] 24).cell 0
        simp only [World.size_alloc] at this
        exact this
      have hs6 : wr.heap.size + 2 ≤ (((wr.alloc (.cells #[.int .i64 0] 3)).alloc (.cells #[.pointer (some ⟨X.a, 0, none⟩)] 24))).heap.size := by simp
      clear h1 hk1
      gi_wp2_with fail
      refine ⟨trivial, fun h => (by cases h), ?_⟩
      refine (callsIn_wide.2 (allfn_any X.a _)).mono ?_
      rintro e w' ⟨rfl, rfl⟩
      clear hc2 hk2
      gi_wp2_with fail
      generalize ((wr.alloc (.cells #[.int .i64 0] 3)).alloc (.cells #[.pointer (some ⟨X.a, 0, none⟩)] 24)) = W6 at *
      generalize wr.heap.size = s0 at *
      have hD6 : TabAt W6 := fun j hj => (h6.ar.below.cell (p := ⟨1, j, none⟩) (by show (1 : Nat) < _; omega)).trans (hDb j hj)
      refine wpIn_rangeO rfl (by omega) (gf := 39) (lb := #[.pointer (some ⟨s0 + 1, 0, none⟩)]) rfl trivial (enters_of Tryd.func39 (by kernel_rfl) rfl)
        (allA_seq (X := X.with lo) (M - 1) (by omega) (s0 + 1) W6 h6.ar.at_.toArMem hD6 b0) KpAll.trans
        (fun V l o hl => KpAll.putObj (n0 := W6.heap.size) (fun k hk => by have := hXlt k hk; omega) (by omega) (by omega) V l o hl) (Below.refl _ _) (fun _ => rfl)
        (fun st V => TwoAt wb.heap.size (X.with lo) Y s s wb V ∧ Two2 X.a Y.m ba bm V ∧ Blk V s0 #[.int .i64 (st.1.length : Int)] 3 ∧ W6.heap.size ≤ V.heap.size)
        (fun _ (st : List (Fin 4096) × (Nat → Prop)) _ => ∃ (q : List (Fin 4096)) (x : Fin 4096), st.1 = q ++ [x] ∧ s.S x.val = false)
        (fun st V V' row hs hg hr => ⟨hs.1.far hg (fun k e => ⟨by have := (hr k e).1; omega, (hr k e).2⟩) (fun k e hk => by have := (hr k e).1; have := hYlt k hk; omega), ⟨hs.2.1.ab.kept hg (fun k e => (hr k e).2), hs.2.1.mb.kept hg (fun k e => (hr k e).2)⟩, hs.2.2.1.kept hg (fun k e => (hr k e).2), Nat.le_trans hs.2.2.2 hg.size⟩)
        (fun _ _ _ _ _ hs _ _ => hs) ⟨h6, hk6, hbox, Nat.le_refl _⟩ ?a1 ?assign ?body ?done ?stop
      case assign =>
        intro l0 x V K hK
        gi_wp2
        exact hK
      case body =>
        rintro l0 pre O x V ⟨hI, hkV, hbV, hsV⟩ hpl
        have hcb := hbV.cell 0
        have hzb := hbV.free 0
        simp only [List.getElem?_toArray, List.getElem?_cons_zero] at hcb
        have hc0 := hkV.c0
        have hc1 := hkV.c1
        have hm1 := hI.md.c1
        have hmap := hI.md.map
        have hRW : V.cell? ⟨w.heap.size, 0, none⟩ = some (.bool false) := (hI.ar.below.cell (p := ⟨w.heap.size, 0, none⟩) hR.lt).trans (hR.cell 0)
        have hZW : V.frozen? ⟨w.heap.size, 0, none⟩ = false := (hI.ar.below.frozen (p := ⟨w.heap.size, 0, none⟩) hR.lt).trans (hR.free 0)
        have hp0 : (pre.length : Int) ≤ 4096 := by have := hF.out.p64; omega
        have hxw : (Lit.int .i64 ((x.val : Nat) : Int)).wf = true := wf_of (by omega) (by have := x.isLt; omega)
        obtain ⟨xn, hxn⟩ : ∃ xn, xn = x.val := ⟨_, rfl⟩
        rw [← hxn] at hxw ⊢
        have HXN := Lib.hid hxn
        clear hxn
        have cH := hI.ar.has (xn : Int)
        cases hS : s.S xn with
        | false =>
          have hin : inS s.S (xn : Int) = false := by rw [inS_nat]; exact hS
          have HIN := Lib.hid hin
          have HS := Lib.hid hS
          clear hin hS cH
          gi_wp2_with (gi_at_lookup; refine wpListIn_lookM rfl _ _ rfl hmap _ hxw false HIN.out rfl rfl ?_; intro c)
          refine ⟨trivial, ?_⟩
          gi_wp2_with fail
          have hTs : Turn (fun k => k = w.heap.size) V (V.setCell ⟨w.heap.size, 0, none⟩ (.bool false)) := (Turn.refl _ V).set _ _ (.inr rfl)
          exact ⟨O, Owned.ofTurn hTs (fun k e => by omega), pre, x, rfl, by rw [← HXN.out]; exact HS.out⟩
        | true =>
          have hin : inS s.S (xn : Int) = true := by rw [inS_nat]; exact hS
          rw [hin] at cH
          have HIN := Lib.hid hin
          clear hin hS
          gi_wp2_with (gi_at_lookup; refine wpListIn_lookM rfl _ _ rfl hmap _ hxw true HIN.out rfl rfl ?_; intro c)
          refine ⟨trivial, fun h => (by cases h), ?_⟩
          refine ((callsIn_wide.2 cH).inRound l0).mono ?_
          rintro e V4 ⟨rfl, hB4⟩
          have hbV4 := hbV.below hB4
          have hcb4 := hbV4.cell 0
          have hzb4 := hbV4.free 0
          simp only [List.getElem?_toArray, List.getElem?_cons_zero] at hcb4
          clear cH hcb hzb
          gi_wp2
          have hsz := hB4.size
          have hTs : Turn (fun k => k = s0) V4 (V4.setCell ⟨s0, 0, none⟩ (.int .i64 ((pre.length : Int) + 1))) := (Turn.refl _ V4).set _ _ (.inr rfl)
          have hT4 := Turn.ofBelow hB4
          refine ⟨O, Owned.trans (Owned.ofBelow hB4 (by omega)) (Owned.ofTurn hTs (fun k e => by omega)), KpAll.trans (KpAll.ofTurn hT4 (fun k hk => by have := hXlt k hk; omega) (by omega) (by omega) (by omega) (by omega)) (KpAll.ofTurn hTs (fun k hk => by have := hXlt k hk; omega) (by omega) (by omega) (by omega) (by omega)), ?_, ?_, ?_, ?_⟩
          · have hI4 := hI.ask hB4
            exact ⟨hI4.ar.turned hTs (fun k hk e => by have := hXlt k hk; omega) (fun k hk e => by omega), hI4.md.turn hTs (fun k hk e => by have := hYlt k hk; omega), hI4.own, hI4.sep⟩
          · exact ⟨(hkV.ab.below hB4).turn hTs (by omega), (hkV.mb.below hB4).turn hTs (by omega)⟩
          · refine (hbV4.setAt 0 _).is ?_
            simp
          · simpa using Nat.le_trans hsV hsz
      case done =>
        rintro D xs O V hD hxs ⟨hI, hkV, hbV, hsV⟩ hK
        have hlen : xs.length = (elems s.S 2049).length := by
          rw [elems_end (i := 32 * s.P + 1) (m := 2049) (by have := hF.out.p64; omega) (fun k hk => by
            cases e : s.S k with
            | false => rfl
            | true => have := (hF.out.at_ k e).2.1; omega), ← hxs, List.length_map]
        rw [hlen] at hbV
        have hml := hI.md.map.len 3
        have hmlD := hI.drew.md.map.len 3
        have hcK := hbV.cell 0
        simp only [List.getElem?_toArray, List.getElem?_cons_zero] at hcK
        have hRB : Blk V w.heap.size #[.bool false] 4 := (hI.ar.below.block _ hR.lt).trans hR
        have hTs : Turn (fun k => k = w.heap.size) V (V.setCell ⟨w.heap.size, 0, none⟩ (.bool true)).drew := ((Turn.refl (fun k => k = w.heap.size) V).set ⟨w.heap.size, 0, none⟩ (.bool true) (.inr rfl)).drew
        have hMd9 := hI.md.turn hTs (fun k hk e => by have := hI.own k hk; omega)
        have hml9 := hMd9.map.len 3
        have hm9 := hMd9.c1
        have hk9 : Two2 X.a Y.m ba bm (V.setCell ⟨w.heap.size, 0, none⟩ (.bool true)).drew := ⟨hkV.ab.turn hTs (fun e => by
          have hq := hkV.ab
          rw [e] at hq
          exact blk_types hq hRB (by decide)), hkV.mb.turn hTs (fun e => by
          have hq := hkV.mb
          rw [e] at hq
          exact blk_types hq hRB (by decide))⟩
        have ha9 := hk9.c0
        have hb9 := hk9.c1
        have hcK9 := (hbV.turn hTs (by omega)).cell 0
        simp only [List.getElem?_toArray, List.getElem?_cons_zero] at hcK9
        clear hMd9 hk9
        generalize (elems s.S 2049).length = n at *
        have hc0 := hkV.c0
        have hc1 := hkV.c1
        have hm0 := hI.md.c0
        have hm1 := hI.md.c1
        have hlr := hI.md.pages.lenRun 3
        have hpg := hI.md.pages
        have hp64 := hF.out.p64
        have hR8 : V.cell? ⟨w.heap.size, 0, none⟩ = some (.bool false) := (hI.ar.below.cell (p := ⟨w.heap.size, 0, none⟩) hR.lt).trans (hR.cell 0)
        have hZ8 : V.frozen? ⟨w.heap.size, 0, none⟩ = false := (hI.ar.below.frozen (p := ⟨w.heap.size, 0, none⟩) hR.lt).trans (hR.free 0)
        have hB8 := hI.ar.below
        generalize hv : Y.v = v at *
        clear hlen hxs
        gi_wp2_with fail
        gi_loopw [130] (fun v130 wx => ∃ p : Nat, p ≤ s.P ∧ v130 = .int .i64 (p : Int) ∧ V = wx) (fun v130 _ => s.P - (intOf v130).toNat)
        case atStart => exact ⟨0, Nat.zero_le _, rfl, rfl⟩
        case round =>
          obtain ⟨p, hp, rfl, rfl⟩ := hrel
          by_cases hlt : p < s.P
          · rcases hpg with ⟨_, e⟩ | ⟨g, cp, cur, rfl, hbk, hsz, hcs⟩
            · omega
            have hcell := page_cell hbk hcs hlt
            have cC := class_any hI.ar.at_.toArMem (p : Int)
            rw [show clsI s (p : Int) = s.cls p by unfold clsI; rw [if_pos (by omega)]; rfl] at cC
            generalize s.cls p = cl at *
            have hcl : (cl != cl) = false := by simp
            clear hlr
            gi_wp2_with fail
            refine ⟨trivial, fun h => (by cases h), ?_⟩
            refine (callsIn_wide.2 cC).mono ?_
            rintro e w' ⟨rfl, rfl⟩
            clear cC
            gi_wp2_with fail
            go_roundw
            case rel => exact ⟨p + 1, by omega, by go_num, trivial⟩
            case measure => simp [intOf]; omega
          · obtain rfl : p = s.P := by omega
            have cP := pages_any hI.drew.ar.at_.toArMem
            have cS := size_any hI.drew.ar.at_.toArMem
            rw [HSP.out] at cP cS
            rw [show (((32 * P + 1 : Nat)) : Int) = 32 * (P : Int) + 1 by omega] at cS
            have hnn : ((n : Int) == (n : Int)) = true := by simp
            have hPP : ((P : Int) == (P : Int)) = true := by simp
            have hSS : ((32 * (P : Int) + 1) == (32 * (P : Int) + 1)) = true := by simp
            have hP7' : (P : Int) ≤ 7 := by omega
            have hw1 : IntKind.i64.wrap (32 * (P : Int)) = 32 * (P : Int) := IntWalk.i64_in _ (by omega)
            have hw2 : IntKind.i64.wrap (32 * (P : Int) + 1) = 32 * (P : Int) + 1 := IntWalk.i64_in _ (by omega)
            have hR9 : (V.setCell ⟨w.heap.size, 0, none⟩ (.bool true)).drew.cell? ⟨w.heap.size, 0, none⟩ = some (.bool true) := World.cell?_setCell_same _ _ _ hR8
            have hBb9 := ((hBb.trans (hB8.mono (by omega))).setCell (p := ⟨w.heap.size, 0, none⟩) (Nat.le_refl _) (.bool true)).drew
            have hK9 : (V.setCell ⟨w.heap.size, 0, none⟩ (.bool true)).drew.heap[D]? = some (.deferred (some [])) := (KeepsOthers.setCell V ⟨w.heap.size, 0, none⟩ (.bool true)).same D _ hK rfl
            clear hlr hm0 hbV
            gi_wp2_with fail
            refine wpIn_wide.2 ?_
            go_region_held3 (fun W' => W'.cell? ⟨s0, 0, none⟩ = some (.int .i64 (n : Int)) ∧ W'.cell? ⟨bm, 0, none⟩ = some (.pointer (some ⟨Y.m, 0, none⟩)) ∧ W'.cell? ⟨Y.m, 1, none⟩ = some (.map (some Y.t)) ∧ (Builtin.len_ #[42] 3 #[.map (some Y.t)]).run Tryd.prog W' = .ok (.int .i64 (n : Int)) W' ∧ W'.cell? ⟨ba, 0, none⟩ = some (.pointer (some ⟨X.a, 0, none⟩)))
              (first | exact ⟨hcK, hc1, hm1, hmlD, hc0⟩ | exact ⟨hcK, hc1, hm1, hml, hc0⟩ | exact ⟨hcK9, hb9, hm9, hml9, ha9⟩)
              (first
                | (go_at_call 25; refine cP.mono ?_; rintro e w7 ⟨rfl, rfl⟩)
                | (go_at_call 26; refine cS.mono ?_; rintro e w8 ⟨rfl, rfl⟩))
            all_goals
              clear hcK9 hb9 hm9 hml9 ha9 cP cS hml hmlD
              gi_wp2_with fail
              generalize (V.setCell ⟨w.heap.size, 0, none⟩ (.bool true)).drew = V9 at *
              have hRF : (V9.putObj D (.deferred none)).cell? ⟨w.heap.size, 0, none⟩ = some (.bool true) := (World.cell?_of_block (w := V9) (World.putObj_heap_other (by simp; omega))).trans hR9
              have hBF := take_end hK9 (w := w) (B := w.heap.size) (by omega) hBb9
              refine ⟨by simp, .inl ⟨D, _, rfl, run_takeDeferred hK9, ?_⟩⟩
              generalize V9.putObj D (.deferred none) = V2 at *
              refine ⟨.bool true, ?_, rfl, hBF⟩
              simp [results, Tryd.f3, go_sem, hRF]
      case stop =>
        rintro D c pre O V hD ⟨i, j, hj, hpre⟩ ⟨q, x, e1, e2⟩ hK
        exfalso
        have e3 : pre = q ++ [x] := e1
        rw [e3, elems_next hj, List.map_append] at hpre
        obtain ⟨h4, h5⟩ := List.append_inj' hpre rfl
        have h6 : x.val = j := by simpa using h5
        rw [h6, hj.2.1] at e2
        cases e2
end Go.Proofs.YtedgladjkfebmaaDoor
