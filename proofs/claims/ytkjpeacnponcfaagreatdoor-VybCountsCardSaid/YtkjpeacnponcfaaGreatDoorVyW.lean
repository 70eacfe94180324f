/- law 15's write: a write of raw numbers; at this seat's numbers. -/
import Derived.Test.YtkjpeacnponcfaaGreatDoorUv
import Derived.Test.YtkjpeacnponcfaaGreatDoorMrC
namespace Go.Proofs.YtkjpeacnponcfaaGreatDoor
open Go Go.RowKit Go.Shelf Go.MuLone Go.RwLone
set_option linter.unusedSimpArgs false
set_option linter.unusedVariables false
attribute [local go_sem] Oper.semAt_some

theorem mod_run {q L : Nat} (hL : 0 < L) (hq : q < 256) : ∃ i : Nat, (q : Int).tmod (L : Int) = (i : Int) ∧ i < L ∧ IntKind.i64.wrap (q : Int) = (q : Int) :=
  ⟨q % L, by rw [Int.tmod_eq_emod_of_nonneg (by omega)]; omega, Nat.mod_lt _ hL, by simp [IntKind.wrap, IntKind.bits, IntKind.signed]; omega⟩
/-- What write answers. -/
def WriteIs (R : List Int) (w : World) (e : Ending) (w' : World) : Prop :=
  ∃ (x o y : Int) (p : Bool), e = .returned (.agg #[.int .i64 x, .int .i64 o, .int .i64 y, .bool p, .bool false]) ∧ x ∈ R ∧ (o ∈ R ∨ o = 0) ∧ (y ∈ R ∨ y = 0) ∧ Below w.heap.size w w'
set_option maxRecDepth 100000 in
set_option maxHeartbeats 4000000 in
theorem write_any {L g cap : Nat} {R : List Int} {w : World} (hR : RefRow w (.slice (some ⟨g, 0, none⟩) L cap) R) (hRL : R.length = L) (hL : 0 < L) (qa qb qc qd : Nat) (ha : qa < 256) (hb : qb < 256) (hc : qc < 256) (hd : qd < 256) :
    Calls Tryz.prog 13 #[.slice (some ⟨g, 0, none⟩) L cap, .agg #[.int .u8 (qa : Int), .int .u8 (qb : Int), .int .u8 (qc : Int), .int .u8 (qd : Int)]] w (WriteIs R w) := by
  obtain ⟨ia, hta, hla, hwa⟩ := mod_run (L := L) hL ha
  obtain ⟨ib, htb, hlb, hwb⟩ := mod_run (L := L) hL hb
  obtain ⟨ic, htc, hlc, hwc⟩ := mod_run (L := L) hL hc
  have hn0 : ¬ L = 0 := by omega
  have hin : ¬ (L : Int) = 0 := by omega
  have hinb : ((L : Int) == 0) = false := by simp; omega
  have hlaI : (ia : Int) < (L : Int) := by omega
  have hlbI : (ib : Int) < (L : Int) := by omega
  have hlcI : (ic : Int) < (L : Int) := by omega
  have hla0 : (0 : Int) ≤ (ia : Int) := by omega
  have hlb0 : (0 : Int) ≤ (ib : Int) := by omega
  have hlc0 : (0 : Int) ≤ (ic : Int) := by omega
  obtain ⟨x, hx⟩ : ∃ x, R[ia]? = some x := ⟨_, List.getElem?_eq_getElem (by omega)⟩
  obtain ⟨o, ho⟩ : ∃ o, R[ib]? = some o := ⟨_, List.getElem?_eq_getElem (by omega)⟩
  obtain ⟨y, hy⟩ : ∃ y, R[ic]? = some y := ⟨_, List.getElem?_eq_getElem (by omega)⟩
  have hB1 : Below w.heap.size w ((w.alloc (.cells #[.int .u8 (qa : Int), .int .u8 (qb : Int), .int .u8 (qc : Int), .int .u8 (qd : Int)] 38)).alloc (.cells #[.int .i64 0, .int .i64 0, .int .i64 0, .bool false, .bool false] 41)) := ((Below.refl w.heap.size w).alloc (Nat.le_refl _) _).alloc (by simp) _
  have hbW : Blk ((w.alloc (.cells #[.int .u8 (qa : Int), .int .u8 (qb : Int), .int .u8 (qc : Int), .int .u8 (qd : Int)] 38)).alloc (.cells #[.int .i64 0, .int .i64 0, .int .i64 0, .bool false, .bool false] 41)) w.heap.size #[.int .u8 (qa : Int), .int .u8 (qb : Int), .int .u8 (qc : Int), .int .u8 (qd : Int)] 38 := (Blk.new w _ _).alloc _
  have hbZ : Blk ((w.alloc (.cells #[.int .u8 (qa : Int), .int .u8 (qb : Int), .int .u8 (qc : Int), .int .u8 (qd : Int)] 38)).alloc (.cells #[.int .i64 0, .int .i64 0, .int .i64 0, .bool false, .bool false] 41)) (w.heap.size + 1) #[.int .i64 0, .int .i64 0, .int .i64 0, .bool false, .bool false] 41 := by
    have := Blk.new (w.alloc (.cells #[.int .u8 (qa : Int), .int .u8 (qb : Int), .int .u8 (qc : Int), .int .u8 (qd : Int)] 38)) #[.int .i64 0, .int .i64 0, .int .i64 0, .bool false, .bool false] 41
    rw [World.size_alloc] at this; exact this
  have hsz : (((w.alloc (.cells #[.int .u8 (qa : Int), .int .u8 (qb : Int), .int .u8 (qc : Int), .int .u8 (qd : Int)] 38)).alloc (.cells #[.int .i64 0, .int .i64 0, .int .i64 0, .bool false, .bool false] 41))).heap.size = w.heap.size + 2 := by simp
  have hR2 := hR.turn (Turn.ofBelow hB1) (fun k e e2 => Nat.lt_irrefl _ (Nat.lt_of_lt_of_le (hR.lt e) e2))
  have hX := Lib.hid (And.intro (List.mem_of_getElem? hx) (And.intro (List.mem_of_getElem? ho) (And.intro (List.mem_of_getElem? hy) (And.intro hx (And.intro ho hy)))))
  have hS0 := Lib.hid (And.intro hB1 (And.intro hbW (And.intro hbZ (And.intro hsz hR2))))
  have hR0lt : ∀ k, (Value.slice (some ⟨g, 0, none⟩) L cap).ownBlock = some k → k < w.heap.size := fun k e => hR.lt e
  clear hB1 hbW hbZ hsz hR2 hx ho hy hR
  go_enter Tryz.func13, Tryz.ntmps13
  go_wp2_with fail
  obtain ⟨hB1, hbW, hbZ, hsz, hR2⟩ := hS0.out
  generalize ((w.alloc (.cells #[.int .u8 (qa : Int), .int .u8 (qb : Int), .int .u8 (qc : Int), .int .u8 (qd : Int)] 38)).alloc (.cells #[.int .i64 0, .int .i64 0, .int .i64 0, .bool false, .bool false] 41)) = W1 at *
  have a0 := hbW.cell 0
  have a3 := hbW.cell 3
  simp only [List.getElem?_toArray, List.getElem?_cons_zero, List.getElem?_cons_succ] at a0 a3
  have rx := row_cellB hR2 hX.out.2.2.2.1
  have hB2 : Below W1.heap.size W1 (W1.alloc (.cells #[.int .i64 0, .int .i64 0, .int .i64 0, .bool false, .bool false] 41)) := (Below.refl _ W1).alloc (Nat.le_refl _) _
  have hR3 := hR2.turn (Turn.ofBelow hB2) (fun k e e2 => Nat.lt_irrefl _ (Nat.lt_of_lt_of_le (hR2.lt e) e2))
  have hbW3 := hbW.turn (Turn.ofBelow hB2) (by omega)
  have hbZ3 := hbZ.turn (Turn.ofBelow hB2) (by omega)
  have rx3 := row_cellB hR3 hX.out.2.2.2.1
  have ro3 := row_cellB hR3 hX.out.2.2.2.2.1
  have ry3 := row_cellB hR3 hX.out.2.2.2.2.2
  have b0 := hbW3.cell 0
  have b1 := hbW3.cell 1
  have b2 := hbW3.cell 2
  have b3 := hbW3.cell 3
  simp only [List.getElem?_toArray, List.getElem?_cons_zero, List.getElem?_cons_succ] at b0 b1 b2 b3
  go_region
  all_goals
    generalize decide (0 < bits .and .u8 (qd : Int) 3) = p at *
    clear hB2 hR3 hbW3 hbZ3 rx3 ro3 ry3 b0 b1 b2 b3 a0 a3 rx
    have hB2 : Below W1.heap.size W1 (W1.alloc (.cells #[.int .i64 x, .int .i64 0, .int .i64 0, .bool p, .bool false] 41)) := (Below.refl _ W1).alloc (Nat.le_refl _) _
    have hbV := Blk.new W1 #[.int .i64 x, .int .i64 0, .int .i64 0, .bool p, .bool false] 41
    rw [hsz] at hbV
    have hR3 := hR2.turn (Turn.ofBelow hB2) (fun k e e2 => Nat.lt_irrefl _ (Nat.lt_of_lt_of_le (hR2.lt e) e2))
    have hbW3 := hbW.turn (Turn.ofBelow hB2) (by omega)
    have hbZ3 := hbZ.turn (Turn.ofBelow hB2) (by omega)
    have haB : Below w.heap.size w (W1.alloc (.cells #[.int .i64 x, .int .i64 0, .int .i64 0, .bool p, .bool false] 41)).drew := (hB1.trans (hB2.mono (by omega))).drew
    have haR : RefRow (W1.alloc (.cells #[.int .i64 x, .int .i64 0, .int .i64 0, .bool p, .bool false] 41)).drew (.slice (some ⟨g, 0, none⟩) L cap) R := hR3
    have haW : Blk (W1.alloc (.cells #[.int .i64 x, .int .i64 0, .int .i64 0, .bool p, .bool false] 41)).drew w.heap.size #[.int .u8 (qa : Int), .int .u8 (qb : Int), .int .u8 (qc : Int), .int .u8 (qd : Int)] 38 := hbW3
    have haZ : Blk (W1.alloc (.cells #[.int .i64 x, .int .i64 0, .int .i64 0, .bool p, .bool false] 41)).drew (w.heap.size + 1) #[.int .i64 0, .int .i64 0, .int .i64 0, .bool false, .bool false] 41 := hbZ3
    have haX : Blk (W1.alloc (.cells #[.int .i64 x, .int .i64 0, .int .i64 0, .bool p, .bool false] 41)).drew (w.heap.size + 2) #[.int .i64 x, .int .i64 0, .int .i64 0, .bool p, .bool false] 41 := hbV
    clear hB2 hbV hR3 hbW3 hbZ3
    generalize (W1.alloc (.cells #[.int .i64 x, .int .i64 0, .int .i64 0, .bool p, .bool false] 41)).drew = Va at *
    have hlR : ∀ k, (Value.slice (some ⟨g, 0, none⟩) L cap).ownBlock = some k → k < w.heap.size := hR0lt
    obtain ⟨m4, hm4⟩ : ∃ m4, bits .and .u8 (qd : Int) 4 = m4 := ⟨_, rfl⟩
    obtain ⟨m5, hm5⟩ : ∃ m5, bits .and .u8 (qd : Int) 24 = m5 := ⟨_, rfl⟩
    have ax0 := haX.cell 0
    have ax1 := haX.cell 1
    have ax2 := haX.cell 2
    have ax3 := haX.cell 3
    have ax4 := haX.cell 4
    have af1 := haX.free 1
    have af2 := haX.free 2
    have az0 := haZ.cell 0
    have az1 := haZ.cell 1
    have az2 := haZ.cell 2
    have az3 := haZ.cell 3
    have az4 := haZ.cell 4
    have ag0 := haZ.free 0
    have ag1 := haZ.free 1
    have ag2 := haZ.free 2
    have ag3 := haZ.free 3
    have ag4 := haZ.free 4
    have ab1 := haW.cell 1
    have ab2 := haW.cell 2
    have ab3 := haW.cell 3
    have aro := row_cellB haR hX.out.2.2.2.2.1
    have ary := row_cellB haR hX.out.2.2.2.2.2
    simp only [List.getElem?_toArray, List.getElem?_cons_zero, List.getElem?_cons_succ] at ax0 ax1 ax2 ax3 ax4 az0 az1 az2 az3 az4 ab1 ab2 ab3
    by_cases h4 : 0 < m4
    · skip
      have hbB := haB.setCell (p := ⟨w.heap.size + 2, 1, none⟩) (by show w.heap.size ≤ w.heap.size + 2; omega) (.int .i64 o)
      have hbX : Blk (Va.setCell ⟨w.heap.size + 2, 1, none⟩ (.int .i64 o)) (w.heap.size + 2) #[.int .i64 x, .int .i64 o, .int .i64 0, .bool p, .bool false] 41 := (haX.setAt 1 (.int .i64 o)).is (by simp)
      have hbZ := haZ.setOther ⟨w.heap.size + 2, 1, none⟩ (.int .i64 o) (by show w.heap.size + 1 ≠ w.heap.size + 2; omega)
      have hbW := haW.setOther ⟨w.heap.size + 2, 1, none⟩ (.int .i64 o) (by show w.heap.size ≠ w.heap.size + 2; omega)
      have hbR := haR.turn ((Turn.refl (fun k => k = w.heap.size + 2) Va).set ⟨w.heap.size + 2, 1, none⟩ (.int .i64 o) (.inr rfl)) (fun k e e2 => by have := hlR k e; omega)
      generalize hVb : Va.setCell ⟨w.heap.size + 2, 1, none⟩ (.int .i64 o) = Vb at *
      have bx0 := hbX.cell 0
      have bx1 := hbX.cell 1
      have bx2 := hbX.cell 2
      have bx3 := hbX.cell 3
      have bx4 := hbX.cell 4
      have bf1 := hbX.free 1
      have bf2 := hbX.free 2
      have bz0 := hbZ.cell 0
      have bg0 := hbZ.free 0
      have bz1 := hbZ.cell 1
      have bg1 := hbZ.free 1
      have bz2 := hbZ.cell 2
      have bg2 := hbZ.free 2
      have bz3 := hbZ.cell 3
      have bg3 := hbZ.free 3
      have bz4 := hbZ.cell 4
      have bg4 := hbZ.free 4
      have bb1 := hbW.cell 1
      have bb2 := hbW.cell 2
      have bb3 := hbW.cell 3
      have bro := row_cellB hbR hX.out.2.2.2.2.1
      have bry := row_cellB hbR hX.out.2.2.2.2.2
      simp only [List.getElem?_toArray, List.getElem?_cons_zero, List.getElem?_cons_succ] at bx0 bx1 bx2 bx3 bx4 bz0 bz1 bz2 bz3 bz4 bb1 bb2 bb3
      by_cases h5 : 0 < m5
      · skip
        have hcB := hbB.setCell (p := ⟨w.heap.size + 2, 2, none⟩) (by show w.heap.size ≤ w.heap.size + 2; omega) (.int .i64 y)
        have hcX : Blk (Vb.setCell ⟨w.heap.size + 2, 2, none⟩ (.int .i64 y)) (w.heap.size + 2) #[.int .i64 x, .int .i64 o, .int .i64 y, .bool p, .bool false] 41 := (hbX.setAt 2 (.int .i64 y)).is (by simp)
        have hcZ := hbZ.setOther ⟨w.heap.size + 2, 2, none⟩ (.int .i64 y) (by show w.heap.size + 1 ≠ w.heap.size + 2; omega)
        have hcW := hbW.setOther ⟨w.heap.size + 2, 2, none⟩ (.int .i64 y) (by show w.heap.size ≠ w.heap.size + 2; omega)
        have hcR := hbR.turn ((Turn.refl (fun k => k = w.heap.size + 2) Vb).set ⟨w.heap.size + 2, 2, none⟩ (.int .i64 y) (.inr rfl)) (fun k e e2 => by have := hlR k e; omega)
        generalize hVc : Vb.setCell ⟨w.heap.size + 2, 2, none⟩ (.int .i64 y) = Vc at *
        have cx0 := hcX.cell 0
        have cx1 := hcX.cell 1
        have cx2 := hcX.cell 2
        have cx3 := hcX.cell 3
        have cx4 := hcX.cell 4
        have cf1 := hcX.free 1
        have cf2 := hcX.free 2
        have cz0 := hcZ.cell 0
        have cg0 := hcZ.free 0
        have cz1 := hcZ.cell 1
        have cg1 := hcZ.free 1
        have cz2 := hcZ.cell 2
        have cg2 := hcZ.free 2
        have cz3 := hcZ.cell 3
        have cg3 := hcZ.free 3
        have cz4 := hcZ.cell 4
        have cg4 := hcZ.free 4
        have cb1 := hcW.cell 1
        have cb2 := hcW.cell 2
        have cb3 := hcW.cell 3
        have cro := row_cellB hcR hX.out.2.2.2.2.1
        have cry := row_cellB hcR hX.out.2.2.2.2.2
        simp only [List.getElem?_toArray, List.getElem?_cons_zero, List.getElem?_cons_succ] at cx0 cx1 cx2 cx3 cx4 cz0 cz1 cz2 cz3 cz4 cb1 cb2 cb3
        have hF : Blk (((((Vc.setCell ⟨w.heap.size + 1, 0, none⟩ (.int .i64 x)).setCell ⟨w.heap.size + 1, 1, none⟩ (.int .i64 o)).setCell ⟨w.heap.size + 1, 2, none⟩ (.int .i64 y)).setCell ⟨w.heap.size + 1, 3, none⟩ (.bool p)).setCell ⟨w.heap.size + 1, 4, none⟩ (.bool false)) (w.heap.size + 1) #[.int .i64 x, .int .i64 o, .int .i64 y, .bool p, .bool false] 41 := ((((((hcZ.setAt 0 (.int .i64 x)).setAt 1 (.int .i64 o)).setAt 2 (.int .i64 y)).setAt 3 (.bool p)).setAt 4 (.bool false))).is (by simp)
        have HF := Lib.hid (And.intro hF ((((((hcB.setCell (p := ⟨w.heap.size + 1, 0, none⟩) (by show w.heap.size ≤ w.heap.size + 1; omega) (.int .i64 x)).setCell (p := ⟨w.heap.size + 1, 1, none⟩) (by show w.heap.size ≤ w.heap.size + 1; omega) (.int .i64 o)).setCell (p := ⟨w.heap.size + 1, 2, none⟩) (by show w.heap.size ≤ w.heap.size + 1; omega) (.int .i64 y)).setCell (p := ⟨w.heap.size + 1, 3, none⟩) (by show w.heap.size ≤ w.heap.size + 1; omega) (.bool p)).setCell (p := ⟨w.heap.size + 1, 4, none⟩) (by show w.heap.size ≤ w.heap.size + 1; omega) (.bool false))))
        clear hF hcB
        go_wp2_with fail
        obtain ⟨hF, hFB⟩ := HF.out
        have q0 := hF.cell 0
        have q1 := hF.cell 1
        have q2 := hF.cell 2
        have q3 := hF.cell 3
        have q4 := hF.cell 4
        simp only [List.getElem?_toArray, List.getElem?_cons_zero, List.getElem?_cons_succ] at q0 q1 q2 q3 q4
        refine bodyPost_end (v := .agg #[.int .i64 x, .int .i64 o, .int .i64 y, .bool p, .bool false]) ?_ rfl ⟨x, o, y, p, rfl, hX.out.1, .inl hX.out.2.1, .inl hX.out.2.2.1, hFB⟩
        simp [results, Tryz.f13, go_sem, q0, q1, q2, q3, q4]
      · skip
        have hF : Blk (((((Vb.setCell ⟨w.heap.size + 1, 0, none⟩ (.int .i64 x)).setCell ⟨w.heap.size + 1, 1, none⟩ (.int .i64 o)).setCell ⟨w.heap.size + 1, 2, none⟩ (.int .i64 0)).setCell ⟨w.heap.size + 1, 3, none⟩ (.bool p)).setCell ⟨w.heap.size + 1, 4, none⟩ (.bool false)) (w.heap.size + 1) #[.int .i64 x, .int .i64 o, .int .i64 0, .bool p, .bool false] 41 := ((((((hbZ.setAt 0 (.int .i64 x)).setAt 1 (.int .i64 o)).setAt 2 (.int .i64 0)).setAt 3 (.bool p)).setAt 4 (.bool false))).is (by simp)
        have HF := Lib.hid (And.intro hF ((((((hbB.setCell (p := ⟨w.heap.size + 1, 0, none⟩) (by show w.heap.size ≤ w.heap.size + 1; omega) (.int .i64 x)).setCell (p := ⟨w.heap.size + 1, 1, none⟩) (by show w.heap.size ≤ w.heap.size + 1; omega) (.int .i64 o)).setCell (p := ⟨w.heap.size + 1, 2, none⟩) (by show w.heap.size ≤ w.heap.size + 1; omega) (.int .i64 0)).setCell (p := ⟨w.heap.size + 1, 3, none⟩) (by show w.heap.size ≤ w.heap.size + 1; omega) (.bool p)).setCell (p := ⟨w.heap.size + 1, 4, none⟩) (by show w.heap.size ≤ w.heap.size + 1; omega) (.bool false))))
        clear hF hbB
        go_wp2_with fail
        obtain ⟨hF, hFB⟩ := HF.out
        have q0 := hF.cell 0
        have q1 := hF.cell 1
        have q2 := hF.cell 2
        have q3 := hF.cell 3
        have q4 := hF.cell 4
        simp only [List.getElem?_toArray, List.getElem?_cons_zero, List.getElem?_cons_succ] at q0 q1 q2 q3 q4
        refine bodyPost_end (v := .agg #[.int .i64 x, .int .i64 o, .int .i64 0, .bool p, .bool false]) ?_ rfl ⟨x, o, 0, p, rfl, hX.out.1, .inl hX.out.2.1, .inr rfl, hFB⟩
        simp [results, Tryz.f13, go_sem, q0, q1, q2, q3, q4]
    · by_cases h5 : 0 < m5
      · skip
        have hcB := haB.setCell (p := ⟨w.heap.size + 2, 2, none⟩) (by show w.heap.size ≤ w.heap.size + 2; omega) (.int .i64 y)
        have hcX : Blk (Va.setCell ⟨w.heap.size + 2, 2, none⟩ (.int .i64 y)) (w.heap.size + 2) #[.int .i64 x, .int .i64 0, .int .i64 y, .bool p, .bool false] 41 := (haX.setAt 2 (.int .i64 y)).is (by simp)
        have hcZ := haZ.setOther ⟨w.heap.size + 2, 2, none⟩ (.int .i64 y) (by show w.heap.size + 1 ≠ w.heap.size + 2; omega)
        have hcW := haW.setOther ⟨w.heap.size + 2, 2, none⟩ (.int .i64 y) (by show w.heap.size ≠ w.heap.size + 2; omega)
        have hcR := haR.turn ((Turn.refl (fun k => k = w.heap.size + 2) Va).set ⟨w.heap.size + 2, 2, none⟩ (.int .i64 y) (.inr rfl)) (fun k e e2 => by have := hlR k e; omega)
        generalize hVc : Va.setCell ⟨w.heap.size + 2, 2, none⟩ (.int .i64 y) = Vc at *
        have cx0 := hcX.cell 0
        have cx1 := hcX.cell 1
        have cx2 := hcX.cell 2
        have cx3 := hcX.cell 3
        have cx4 := hcX.cell 4
        have cf1 := hcX.free 1
        have cf2 := hcX.free 2
        have cz0 := hcZ.cell 0
        have cg0 := hcZ.free 0
        have cz1 := hcZ.cell 1
        have cg1 := hcZ.free 1
        have cz2 := hcZ.cell 2
        have cg2 := hcZ.free 2
        have cz3 := hcZ.cell 3
        have cg3 := hcZ.free 3
        have cz4 := hcZ.cell 4
        have cg4 := hcZ.free 4
        have cb1 := hcW.cell 1
        have cb2 := hcW.cell 2
        have cb3 := hcW.cell 3
        have cro := row_cellB hcR hX.out.2.2.2.2.1
        have cry := row_cellB hcR hX.out.2.2.2.2.2
        simp only [List.getElem?_toArray, List.getElem?_cons_zero, List.getElem?_cons_succ] at cx0 cx1 cx2 cx3 cx4 cz0 cz1 cz2 cz3 cz4 cb1 cb2 cb3
        have hF : Blk (((((Vc.setCell ⟨w.heap.size + 1, 0, none⟩ (.int .i64 x)).setCell ⟨w.heap.size + 1, 1, none⟩ (.int .i64 0)).setCell ⟨w.heap.size + 1, 2, none⟩ (.int .i64 y)).setCell ⟨w.heap.size + 1, 3, none⟩ (.bool p)).setCell ⟨w.heap.size + 1, 4, none⟩ (.bool false)) (w.heap.size + 1) #[.int .i64 x, .int .i64 0, .int .i64 y, .bool p, .bool false] 41 := ((((((hcZ.setAt 0 (.int .i64 x)).setAt 1 (.int .i64 0)).setAt 2 (.int .i64 y)).setAt 3 (.bool p)).setAt 4 (.bool false))).is (by simp)
        have HF := Lib.hid (And.intro hF ((((((hcB.setCell (p := ⟨w.heap.size + 1, 0, none⟩) (by show w.heap.size ≤ w.heap.size + 1; omega) (.int .i64 x)).setCell (p := ⟨w.heap.size + 1, 1, none⟩) (by show w.heap.size ≤ w.heap.size + 1; omega) (.int .i64 0)).setCell (p := ⟨w.heap.size + 1, 2, none⟩) (by show w.heap.size ≤ w.heap.size + 1; omega) (.int .i64 y)).setCell (p := ⟨w.heap.size + 1, 3, none⟩) (by show w.heap.size ≤ w.heap.size + 1; omega) (.bool p)).setCell (p := ⟨w.heap.size + 1, 4, none⟩) (by show w.heap.size ≤ w.heap.size + 1; omega) (.bool false))))
        clear hF hcB
        go_wp2_with fail
        obtain ⟨hF, hFB⟩ := HF.out
        have q0 := hF.cell 0
        have q1 := hF.cell 1
        have q2 := hF.cell 2
        have q3 := hF.cell 3
        have q4 := hF.cell 4
        simp only [List.getElem?_toArray, List.getElem?_cons_zero, List.getElem?_cons_succ] at q0 q1 q2 q3 q4
        refine bodyPost_end (v := .agg #[.int .i64 x, .int .i64 0, .int .i64 y, .bool p, .bool false]) ?_ rfl ⟨x, 0, y, p, rfl, hX.out.1, .inr rfl, .inl hX.out.2.2.1, hFB⟩
        simp [results, Tryz.f13, go_sem, q0, q1, q2, q3, q4]
      · skip
        have hF : Blk (((((Va.setCell ⟨w.heap.size + 1, 0, none⟩ (.int .i64 x)).setCell ⟨w.heap.size + 1, 1, none⟩ (.int .i64 0)).setCell ⟨w.heap.size + 1, 2, none⟩ (.int .i64 0)).setCell ⟨w.heap.size + 1, 3, none⟩ (.bool p)).setCell ⟨w.heap.size + 1, 4, none⟩ (.bool false)) (w.heap.size + 1) #[.int .i64 x, .int .i64 0, .int .i64 0, .bool p, .bool false] 41 := ((((((haZ.setAt 0 (.int .i64 x)).setAt 1 (.int .i64 0)).setAt 2 (.int .i64 0)).setAt 3 (.bool p)).setAt 4 (.bool false))).is (by simp)
        have HF := Lib.hid (And.intro hF ((((((haB.setCell (p := ⟨w.heap.size + 1, 0, none⟩) (by show w.heap.size ≤ w.heap.size + 1; omega) (.int .i64 x)).setCell (p := ⟨w.heap.size + 1, 1, none⟩) (by show w.heap.size ≤ w.heap.size + 1; omega) (.int .i64 0)).setCell (p := ⟨w.heap.size + 1, 2, none⟩) (by show w.heap.size ≤ w.heap.size + 1; omega) (.int .i64 0)).setCell (p := ⟨w.heap.size + 1, 3, none⟩) (by show w.heap.size ≤ w.heap.size + 1; omega) (.bool p)).setCell (p := ⟨w.heap.size + 1, 4, none⟩) (by show w.heap.size ≤ w.heap.size + 1; omega) (.bool false))))
        clear hF haB
        go_wp2_with fail
        obtain ⟨hF, hFB⟩ := HF.out
        have q0 := hF.cell 0
        have q1 := hF.cell 1
        have q2 := hF.cell 2
        have q3 := hF.cell 3
        have q4 := hF.cell 4
        simp only [List.getElem?_toArray, List.getElem?_cons_zero, List.getElem?_cons_succ] at q0 q1 q2 q3 q4
        refine bodyPost_end (v := .agg #[.int .i64 x, .int .i64 0, .int .i64 0, .bool p, .bool false]) ?_ rfl ⟨x, 0, 0, p, rfl, hX.out.1, .inr rfl, .inr rfl, hFB⟩
        simp [results, Tryz.f13, go_sem, q0, q1, q2, q3, q4]
end Go.Proofs.YtkjpeacnponcfaaGreatDoor
