/- Take, at this seat's numbers. -/
import Derived.Test.YtoemfehlnnbjdaaDoorArD
namespace Go.Proofs.YtoemfehlnnbjdaaDoor
open Go Go.RowKit Go.Shelf Go.MuLone Go.RwLone
set_option linter.unusedSimpArgs false
set_option linter.unusedVariables false

theorem clr_zero (f : Nat → Int) (o : Nat) : clr f o 0 = f := by funext q; simp only [clr]; rw [if_neg (by omega)]
theorem clr_upd (f : Nat → Int) (o m : Nat) : clr (upd f o 0) (o + 1) m = clr f o (m + 1) := by
  funext q
  simp only [clr, upd]
  by_cases h1 : o + 1 ≤ q ∧ q < o + 1 + m
  · rw [if_pos h1, if_pos (by omega)]
  · rw [if_neg h1]
    by_cases h2 : q = o
    · rw [if_pos h2, if_pos (by omega)]
    · rw [if_neg h2, if_neg (by omega)]
theorem Blk.zeros {b n : Nat} {T : TypeId} : ∀ (m o : Nat) (f : Nat → Int) (w : World), Blk w b (row n f) T → o + m ≤ n → Blk (w.setCells b o (List.replicate m (.int .i64 0))) b (row n (clr f o m)) T
  | 0, o, f, w, h, _ => by rw [clr_zero]; exact h
  | m + 1, o, f, w, h, hm => by
    rw [List.replicate_succ, World.setCells, ← clr_upd]
    refine Blk.zeros m (o + 1) _ _ ?_ (by omega)
    have h2 := h.setAt o (.int .i64 0)
    rw [row_set _ _ (by omega)] at h2
    exact h2
theorem Turn.setCells {M : Nat → Prop} {b : Nat} : ∀ (vs : List Value) (o : Nat) (w w' : World), Turn M w w' → M b → Turn M w (w'.setCells b o vs)
  | [], _, _, _, h, _ => h
  | v :: vs, o, w, w', h, hb => Turn.setCells vs (o + 1) w _ (h.set ⟨b, o, none⟩ v (.inr hb)) hb

theorem wordsW (c : Int) (W : Nat) (w : World) (hT : TableAt w) (h : wordsOf c = W) : Calls Tryd.prog 56 #[.int .i64 c] w fun e w' => e = .returned (.int .i64 (W : Int)) ∧ w = w' := by
  rw [← h]; exact wordsC_any c w hT
theorem zero_int (w : World) : (zeroValue 3).run Tryd.prog w = .ok (.int .i64 0) w := by kernel_rfl

section
variable {w : World} {X : ArB} {s : ArS}

theorem take_no (h : ArAt w X s) (hT : TableAt w) (c : Int) (h0 : seekF s c = 0) :
    Calls Tryd.prog 26 #[.pointer (some ⟨X.a, 0, none⟩), .int .i64 c] w (ArPost X (.tuple #[.int .i64 0, .bool false]) s w) := by
  have cS := seek_any h hT c
  unfold SeekPost at cS
  rw [h0] at cS
  clear h0
  go_enter Tryd.func26, Tryd.ntmps26
  go_wp2_with fail
  refine cS.mono ?_
  rintro e w1 ⟨rfl, hB⟩
  clear cS
  go_wp2_with fail
  go_ret2
  exact (ArStep.ofBelow X hB h.lt).post rfl (h.below hB)

set_option maxRecDepth 100000 in
set_option maxHeartbeats 4000000 in
theorem take_yes (h : ArAt w X s) (hT : TableAt w) (c : Int) (r W : Nat) (hr : seekF s c = r) (h1 : 1 ≤ r) (h2 : r + W ≤ 32 * s.P + 1) (hfree : s.S r = false) (hW : wordsOf c = W) (hW1 : 1 ≤ W) (hW8 : W ≤ 8) (hF : Fits (s.take c))
    (hs : s.take c = { s with cls := upd s.cls (pg r) c, S := putN s.S r, ws := clr s.ws r W }) :
    Calls Tryd.prog 26 #[.pointer (some ⟨X.a, 0, none⟩), .int .i64 c] w (ArPost X (.tuple #[.int .i64 (r : Int), .bool true]) (s.take c) w) := by
  have cS := seek_any h hT c
  unfold SeekPost at cS
  rw [hr] at cS
  rw [bne_iff_ne.2 (show ((r : Nat) : Int) ≠ 0 by omega)] at cS
  rw [hs] at hF ⊢
  have hp := h.fits.p64
  have HW := Lib.hid hW
  have HF := Lib.hid hF
  have HS := Lib.hid hfree
  clear hr hs hF hW hfree
  go_enter Tryd.func26, Tryd.ntmps26
  go_wp2_with fail
  refine cS.mono ?_
  rintro e w1 ⟨rfl, hB⟩
  have hA := h.below hB
  have hSt := ArStep.ofBelow X hB h.lt
  have hT1 := hT.below hB
  clear cS hB
  have k1 : w1.cell? ⟨X.a, 1, none⟩ = some (.pointer (some ⟨X.b, 0, none⟩)) := hA.c1
  go_wp2_with fail
  have cP : Calls Tryd.prog 44 #[.pointer (some ⟨X.b, 0, none⟩), .int .i64 r] w1 (TurnPost X.b X.lo (32 * s.P + 1) true (putN s.S r) w1) := put_at X.b X.lo (32 * s.P + 1) s.S (putN s.S r) true r w1 (by omega) hA.set (by rw [HS.out]; rfl) rfl
  refine cP.mono ?_
  intro e w2 hP
  obtain ⟨lo2, rfl, hlo, hTn, b1, b2, b3, b4, b5⟩ := hA.turned hP
  have hT2 := hT1.turn hTn (hT1.far hA)
  have hne2 : ¬ X.has 0 := hT1.far hA
  have hSt2 : ArStep X w1 (X.with lo2) w2 := ⟨hlo, rfl, hTn⟩
  replace hSt := hSt.trans hSt2
  replace b1 : Blk w2 X.a (arArr X s.P) 79 := b1
  replace b2 : Blk w2 X.c (row s.P s.cls) 3 := b2
  replace b3 : Blk w2 X.w (row (32 * s.P + 1) s.ws) 3 := b3
  replace b4 : SetAt w2 X.b lo2 (32 * s.P + 1) (putN s.S r) := b4
  replace b5 : ArNe (X.with lo2) := b5
  clear hP cP k1 hSt2 hlo hTn hA
  have hpg : pg r < s.P := by unfold pg; omega
  have d0 : w2.cell? ⟨X.a, 0, none⟩ = some (.slice (some ⟨X.c, 0, none⟩) s.P s.P) := b1.cell 0
  have d1 : w2.cell? ⟨X.c, pg r, none⟩ = some (.int .i64 (s.cls (pg r))) := cell_row b2 hpg
  have d2 : w2.frozen? ⟨X.c, pg r, none⟩ = false := b2.free _
  have d3 : (pg r : Int) < s.P := by omega
  have d4 : X.a ≠ X.c := b5.ac
  have d5 : (w2.setCell ⟨X.c, pg r, none⟩ (.int .i64 c)).drew.cell? ⟨X.a, 0, none⟩ = some (.slice (some ⟨X.c, 0, none⟩) s.P s.P) := (b1.setOther ⟨X.c, pg r, none⟩ (.int .i64 c) b5.ac).cell 0
  have cPg := fun n => page_head (X := X) (w := w2.drewN n) (b1.drewN n) hp r h1 (by omega)
  have cPg0 := page_head (X := X) (w := w2.drew) b1.drew hp r h1 (by omega)
  go_wp2_with fail
  clear hT hT1
  go_region_held3 (fun w' => w'.cell? ⟨X.a, 0, none⟩ = some (.slice (some ⟨X.c, 0, none⟩) s.P s.P)) (first | exact d0 | exact d5)
    (first
      | (go_at_call 43; refine cPg0.mono ?_; rintro e w' ⟨rfl, rfl⟩))
  have hT3 : TableAt ((w2.setCell ⟨X.c, pg r, none⟩ (.int .i64 c)).drew) := hT2.turn (((Turn.refl (fun k => k = X.c) w2).set ⟨X.c, pg r, none⟩ (.int .i64 c) (.inr rfl)).drew) (fun e => hne2 (.inr (.inl e)))
  have g1 : Blk ((w2.setCell ⟨X.c, pg r, none⟩ (.int .i64 c)).drew) X.a (arArr X s.P) 79 := (b1.setOther ⟨X.c, pg r, none⟩ (.int .i64 c) b5.ac)
  have g2 : Blk ((w2.setCell ⟨X.c, pg r, none⟩ (.int .i64 c)).drew) X.c (row s.P (upd s.cls (pg r) c)) 3 := by
    have := b2.setAt (pg r) (.int .i64 c)
    rw [row_set _ _ hpg] at this
    exact this
  have g3 : Blk ((w2.setCell ⟨X.c, pg r, none⟩ (.int .i64 c)).drew) X.w (row (32 * s.P + 1) s.ws) 3 := (b3.setOther ⟨X.c, pg r, none⟩ (.int .i64 c) (fun e => b5.cw e.symm))
  have hTt : Turn (fun k => k = X.c) w2 ((w2.setCell ⟨X.c, pg r, none⟩ (.int .i64 c)).drew) := ((Turn.refl (fun k => k = X.c) w2).set ⟨X.c, pg r, none⟩ (.int .i64 c) (.inr rfl)).drew
  have g4 : SetAt ((w2.setCell ⟨X.c, pg r, none⟩ (.int .i64 c)).drew) X.b lo2 (32 * s.P + 1) (putN s.S r) := b4.turn hTt (fun e => b5.cb e.symm) (fun l hl e => b5.lc (by show lo2 = some X.c; rw [hl, e]))
  have hSt3 : ArStep X w (X.with lo2) ((w2.setCell ⟨X.c, pg r, none⟩ (.int .i64 c)).drew) := ⟨hSt.lo, rfl, hSt.turn.trans hTt (fun k _ e => .inr (.inl e))⟩
  clear d0 d1 d2 d3 d4 d5 cPg cPg0 b1 b2 b3 b4 hT2 hTt hSt hpg
  generalize (w2.setCell ⟨X.c, pg r, none⟩ (.int .i64 c)).drew = w3 at *
  have e0 : w3.cell? ⟨X.a, 2, none⟩ = some (.slice (some ⟨X.w, 0, none⟩) (32 * s.P + 1) (32 * s.P + 1)) := g1.cell 2
  have hcl : ∀ ty, (Builtin.clear_ #[68] ty #[.slice (some ⟨X.w, r, none⟩) W (32 * s.P + 1 - r)]).run Tryd.prog w3.drew = .ok (.tuple #[]) (w3.drew.setCells X.w r (List.replicate W (.int .i64 0))) :=
    fun ty => Lib.run_clear_slice w3.drew _ _ ty _ Tryd.underlying68 zero_int rfl rfl X.w r W _ (by omega) (fun j hj => by
      have := cell_row g3 (k := r + j) (by omega)
      show (w3.cell? _).isSome = true
      rw [this]; rfl) (fun j hj => g3.free _)
  have e5 : (w3.drew.setCells X.w r (List.replicate W (.int .i64 0))).cell? ⟨X.a, 2, none⟩ = some (.slice (some ⟨X.w, 0, none⟩) (32 * s.P + 1) (32 * s.P + 1)) :=
    (World.cell?_setCells_out X.w _ r w3.drew ⟨X.a, 2, none⟩ (fun e _ => absurd e b5.aw)).trans e0
  have cWd := wordsW c W w3.drew hT3 HW.out
  have n1 : (r : Int) < ((32 * s.P + 1 : Nat) : Int) := by omega
  have n2 : (W : Int) ≤ ((32 * s.P + 1 - r : Nat) : Int) := by omega
  have n3 : (1 : Int) ≤ (r : Int) := by omega
  have hend : ArAt (w3.drew.setCells X.w r (List.replicate W (.int .i64 0))) (X.with lo2) { s with cls := upd s.cls (pg r) c, S := putN s.S r, ws := clr s.ws r W } := by
    have hTt : Turn (fun k => k = X.w) w3 (w3.drew.setCells X.w r (List.replicate W (.int .i64 0))) := Turn.setCells _ _ _ _ ((Turn.refl _ w3).drew) rfl
    exact ⟨⟨g1.turn hTt b5.aw, g2.turn hTt b5.cw, Blk.zeros W r s.ws w3.drew g3 (by omega), g4.turn hTt (fun e => b5.wb e.symm) (fun l hl e => b5.lw (by show lo2 = some X.w; rw [hl, e])), b5, hp⟩, HF.out⟩
  have hstep : ArStep X w (X.with lo2) (w3.drew.setCells X.w r (List.replicate W (.int .i64 0))) := ⟨hSt3.lo, rfl, Turn.setCells _ _ _ _ hSt3.turn.drew (.inr (.inr (.inl rfl)))⟩
  clear g1 g2 g3 g4 hSt3 HF h HS
  obtain ⟨N, hN⟩ : ∃ N, N = 32 * s.P + 1 := ⟨_, rfl⟩
  rw [← hN] at e0 hcl e5 n1 n2
  have n4 : N ≤ 2049 := by omega
  have n5 : ¬ N = r := by omega
  have n6 : ¬ N - r = 0 := by omega
  have n7 : r < N := by omega
  have n8 : W ≤ N - r := by omega
  have n9 : ¬ N ≤ r := by omega
  have n10 : r ≤ N := by omega
  clear hN h2
  go_wp2_with fail
  go_region_held3 (fun w' => w'.cell? ⟨X.a, 2, none⟩ = some (.slice (some ⟨X.w, 0, none⟩) N N)) (first | exact e0 | exact e5)
    (first
      | (go_at_call 56; refine cWd.mono ?_; rintro e w' ⟨rfl, rfl⟩))
  go_wp2_with fail
  go_ret2
  exact hstep.post rfl hend
end
end Go.Proofs.YtoemfehlnnbjdaaDoor
