/- engine.New: the barrier of a configuration; at this seat's numbers. (Prepared over an engine.go of our own.) -/
import Derived.Test.YtooddbhlanjfbaaGreatDoorEnW
import Derived.Test.YtooddbhlanjfbaaGreatDoorCfA
namespace Go.Proofs.YtooddbhlanjfbaaGreatDoor
open Go Go.RowKit Go.Shelf Go.MuLone Go.RwLone
set_option linter.unusedSimpArgs false
set_option linter.unusedVariables false
attribute [local go_sem] Oper.semAt_some

section
variable {e B mb n tm room : Nat} {X : ArB} {s : ArS} {obs : List Ob} {vl : Value} {f : Int → Value} {adj : Int → List Int} {E : Nat → Prop} {T : MkB} {c : Col} {wb wr : World}
/-- A barrier of one block is laid. -/
theorem BrIn.fresh {K : BrK} (h : GmIn B mb n X s obs vl f adj E T c wb wr) (hm : T.m = tm) : BrIn K B mb n X s obs vl f adj E T c wr.heap.size tm wb (wr.alloc (.cells (BrCells K tm) K.t)) ∧ (B ≤ wr.heap.size ∧ ¬ GoHas X mb vl f wr.heap.size ∧ ¬ E wr.heap.size) ∧ Below wr.heap.size wr (wr.alloc (.cells (BrCells K tm) K.t)) :=
  ⟨BrIn.made h hm, ⟨h.size, fun e => Nat.lt_irrefl _ (h.go.lt _ e), fun e => Nat.lt_irrefl _ (h.ext _ e)⟩, (Below.refl _ wr).alloc (Nat.le_refl _) _⟩
set_option maxRecDepth 100000 in
set_option maxHeartbeats 4000000 in
theorem en_new (h : GmIn B mb n X s obs vl f adj E T c wb wr) (hm : T.m = tm) (g : Cfg) (hg : g.e = ((e : Nat) : Int)) (he : e ≤ 3) (hl : g.l = ((room : Nat) : Int)) (hr : room ≤ 4096) :
    Calls Tryz.prog 13 #[g.val, .pointer (some ⟨tm, 0, none⟩)] wr fun en w' =>
      ∃ bt H, en = .returned (enV e bt) ∧ EnIn e B mb n X s obs vl f adj E T c H bt tm room EnS.none wb w' ∧ Below wr.heap.size wr w' := by
  have hB1 := (Below.refl wr.heap.size wr).alloc (Nat.le_refl _) (.cells g.arr 30)
  have hC := Blk.new wr g.arr 30
  have h1 := h.ask hB1
  have c0 : (wr.alloc (.cells g.arr 30)).cell? ⟨wr.heap.size, 0, none⟩ = some (.int .i64 g.e) := hC.cell 0
  have c9 : (wr.alloc (.cells g.arr 30)).cell? ⟨wr.heap.size, 9, none⟩ = some (.int .i64 g.l) := hC.cell 9
  rw [hg] at c0
  rw [hl] at c9
  have cSt := st_new h1
  rw [hm] at cSt
  have cDj := dj_new tm (wr.alloc (.cells g.arr 30))
  have cYu := yu_new tm (wr.alloc (.cells g.arr 30))
  have cVy := vy_new (room := room) h1 hm (room : Int) (by omega) (by omega)
  have HB := Lib.hid (And.intro hB1 (And.intro h1 hm))
  clear hB1 hC h1 h hm hg hl
  go_enter Tryz.func13, Tryz.ntmps13
  rcases (show e = 0 ∨ e = 1 ∨ e = 2 ∨ e = 3 by omega) with rfl | rfl | rfl | rfl
  · go_wp2_with fail
    refine cSt.mono ?_
    rintro en w1 ⟨Z, rfl, h2, hB2⟩
    clear cSt cDj cYu cVy c0 c9
    go_wp2_with fail
    go_ret
    exact ⟨Z.t, Z.has, rfl, EnIn.ofSt (σ := EnS.none) h2 rfl HB.out.2.2, HB.out.1.trans (hB2.mono HB.out.1.size)⟩
  · go_wp2_with fail
    refine cDj.mono ?_
    rintro en w1 ⟨rfl, rfl⟩
    obtain ⟨h2, h3, hB2⟩ := BrIn.fresh (K := djK) HB.out.2.1 HB.out.2.2
    have H2 := Lib.hid (And.intro h2 (And.intro h3 (HB.out.1.trans (hB2.mono HB.out.1.size))))
    clear cSt cDj cYu cVy c0 c9 h2 h3 hB2
    generalize (wr.alloc (.cells g.arr 30)).alloc (.cells (BrCells djK tm) djK.t) = w2 at *
    generalize (wr.alloc (.cells g.arr 30)).heap.size = bt at *
    go_wp2_with fail
    go_ret
    exact ⟨_, _, rfl, EnIn.ofDj (σ := EnS.none) H2.out.1 H2.out.2.1, H2.out.2.2⟩
  · go_wp2_with fail
    refine cYu.mono ?_
    rintro en w1 ⟨rfl, rfl⟩
    obtain ⟨h2, h3, hB2⟩ := BrIn.fresh (K := yuK) HB.out.2.1 HB.out.2.2
    have H2 := Lib.hid (And.intro h2 (And.intro h3 (HB.out.1.trans (hB2.mono HB.out.1.size))))
    clear cSt cDj cYu cVy c0 c9 h2 h3 hB2
    generalize (wr.alloc (.cells g.arr 30)).alloc (.cells (BrCells yuK tm) yuK.t) = w2 at *
    generalize (wr.alloc (.cells g.arr 30)).heap.size = bt at *
    go_wp2_with fail
    go_ret
    exact ⟨_, _, rfl, EnIn.ofYu (σ := EnS.none) H2.out.1 H2.out.2.1, H2.out.2.2⟩
  · go_wp2_with fail
    refine cVy.mono ?_
    rintro en w1 ⟨bt, rfl, h2, hB2⟩
    clear cSt cDj cYu cVy c0 c9
    obtain ⟨H, h3⟩ := EnIn.ofVy (σ := EnS.none) h2
    go_wp2_with fail
    go_ret
    exact ⟨bt, H, rfl, h3, HB.out.1.trans (hB2.mono HB.out.1.size)⟩
end
end Go.Proofs.YtooddbhlanjfbaaGreatDoor
