/- All, walked; at this seat's numbers. -/
import Derived.Test.YtaoankajpknncaaDoorCfE
namespace Go.Proofs.YtaoankajpknncaaDoor
open Go Go.RowKit
set_option linter.unusedSimpArgs false
set_option linter.unusedVariables false
attribute [local go_sem] Oper.semAt_some

structure AllI (c : Cfg) (w : World) (n : Nat) (v : Value) (wr : World) : Prop where
  box : ∃ e k, Blk wr w.heap.size (c.at e k).arr 23
  row : CfgRow wr v (allC c n)
  own : ∀ k, v.ownBlock = some k → w.heap.size + 1 ≤ k
  below : Below w.heap.size w wr
theorem AllI.alloc {c : Cfg} {w : World} {n : Nat} {v : Value} {wr : World} (h : AllI c w n v wr) (o : Obj) : AllI c w n v (wr.alloc o) := by
  obtain ⟨e, k, hb⟩ := h.box
  exact ⟨⟨e, k, hb.alloc o⟩, h.row.turn ((Turn.refl (fun _ => False) wr).alloc o) (fun _ _ h => h), h.own, h.below.alloc h.below.size o⟩
def boolCells : Array Value := #[.bool false, .bool true]
def boolT : TypeId := 4

set_option maxRecDepth 100000 in
set_option maxHeartbeats 8000000 in
theorem all_any (c : Cfg) (w : World) : Calls Tryd.prog 14 #[c.val] w fun e w' => ∃ v, e = .returned v ∧ CfgRow w' v (allC c 8) ∧ (∀ k, v.ownBlock = some k → w.heap.size ≤ k) ∧ Below w.heap.size w w' := by
  have hI0 : AllI c w 0 (.slice none 0 0) (w.alloc (.cells c.arr 23)) := ⟨⟨c.e, c.k, Blk.new w c.arr 23⟩, CfgRow.nil _, fun k h => (by cases h), (Below.refl w.heap.size w).alloc (Nat.le_refl _) _⟩
  have HI0 := Lib.hid hI0
  clear hI0
  go_enter Tryd.func14, Tryd.ntmps14
  go_wp2_with fail
  have hI0 := HI0.out
  clear HI0
  generalize (w.alloc (.cells c.arr 23)) = V at *
  go_loopw [3, 7] (fun v3 v7 wr => ∃ e : Nat, e ≤ 4 ∧ v7 = .int .i64 (e : Int) ∧ AllI c w (e * 2) v3 wr) (fun _ v7 _ => 4 - (intOf v7).toNat)
  case atStart => exact ⟨0, by decide, rfl, hI0⟩
  case round =>
    clear hI0
    obtain ⟨e, he4, rfl, hI⟩ := hrel
    by_cases hlt : e < 4
    · have hltI : (e : Int) < 4 := by omega
      have hI1 := hI.alloc (.cells #[.bool false, .bool true] 4)
      have hb1 := Blk.new wr #[.bool false, .bool true] 4
      have hsz := hI.below.size
      have HI := Lib.hid (And.intro hI1 (And.intro hb1 hsz))
      clear hI hI1 hb1 hsz
      go_wp2_with fail
      obtain ⟨hI1, hb1, hsz⟩ := HI.out
      clear HI
      generalize wr.heap.size = bb at *
      generalize wr.alloc (.cells #[.bool false, .bool true] 4) = V1 at *
      go_loopw [3, 12] (fun v3 v12 wx => ∃ j : Nat, j ≤ 2 ∧ v12 = .int .i64 (j : Int) ∧ AllI c w (e * 2 + j) v3 wx ∧ Blk wx bb #[.bool false, .bool true] 4) (fun _ v12 _ => 2 - (intOf v12).toNat)
      case atStart => exact ⟨0, by decide, rfl, hI1, hb1⟩
      case round =>
        clear hI1 hb1
        obtain ⟨j, hj2, rfl, hI, hb1⟩ := hrel
        by_cases hjl : j < 2
        · have hjI : (j : Int) < 2 := by omega
          obtain ⟨bj, hbj, hcj⟩ : ∃ bj : Bool, bj = (j == 1) ∧ wr.cell? ⟨bb, j, none⟩ = some (.bool bj) := by
            refine ⟨_, rfl, ?_⟩
            rw [hb1.cell j]
            match j, hjl with
            | 0, _ => rfl
            | 1, _ => rfl
          obtain ⟨e1, k1, hbx⟩ := hI.box
          have hne : bb ≠ w.heap.size := fun h => blk_typesC hb1 (h ▸ hbx) (by decide)
          have hbx2 : Blk ((wr.setCell ⟨w.heap.size, 0, none⟩ (.int .i64 (e : Int))).setCell ⟨w.heap.size, 1, none⟩ (.bool bj)) w.heap.size #[.int .i64 (e : Int), .bool bj, .int .i64 c.p, .int .i64 c.t, .int .i64 c.r, .int .i64 c.s, .int .i64 c.g, .int .i64 c.f, .int .i64 c.m, .int .i64 c.l, .int .i64 c.b] 23 := ((hbx.setAt 0 (.int .i64 (e : Int))).setAt 1 (.bool bj)).is (by simp [Cfg.at])
          have hb2 : Blk ((wr.setCell ⟨w.heap.size, 0, none⟩ (.int .i64 (e : Int))).setCell ⟨w.heap.size, 1, none⟩ (.bool bj)) bb #[.bool false, .bool true] 4 := (hb1.setOther _ _ hne).setOther _ _ hne
          have hT2 : Turn (fun k => k = w.heap.size) wr ((wr.setCell ⟨w.heap.size, 0, none⟩ (.int .i64 (e : Int))).setCell ⟨w.heap.size, 1, none⟩ (.bool bj)) := ((Turn.refl (fun k => k = w.heap.size) wr).set _ _ (.inr rfl)).set _ _ (.inr rfl)
          have hr2 := hI.row.turn hT2 (fun k hk h => by have := hI.own k hk; omega)
          have hB2 : Below w.heap.size w ((wr.setCell ⟨w.heap.size, 0, none⟩ (.int .i64 (e : Int))).setCell ⟨w.heap.size, 1, none⟩ (.bool bj)) := hI.below.trans (hT2.below w.heap.size hI.below.size (fun k hk h => by omega))
          have cK : Calls Tryd.prog 10 #[.agg #[.int .i64 (e : Int), .bool bj, .int .i64 c.p, .int .i64 c.t, .int .i64 c.r, .int .i64 c.s, .int .i64 c.g, .int .i64 c.f, .int .i64 c.m, .int .i64 c.l, .int .i64 c.b]] ((wr.setCell ⟨w.heap.size, 0, none⟩ (.int .i64 (e : Int))).setCell ⟨w.heap.size, 1, none⟩ (.bool bj)) _ := check_any (c.at (e : Int) bj) _
          have g0 := hbx.cell 0
          have g1 := hbx.cell 1
          have y0 := hbx.free 0
          have y1 := hbx.free 1
          have z1 := (hbx.setAt 0 (.int .i64 (e : Int))).free 1
          have f0 := hbx2.cell 0
          have f1 := hbx2.cell 1
          have f2 := hbx2.cell 2
          have f3 := hbx2.cell 3
          have f4 := hbx2.cell 4
          have f5 := hbx2.cell 5
          have f6 := hbx2.cell 6
          have f7 := hbx2.cell 7
          have f8 := hbx2.cell 8
          have f9 := hbx2.cell 9
          have f10 := hbx2.cell 10
          simp only [List.getElem?_toArray, List.getElem?_cons_succ, List.getElem?_cons_zero] at g0 g1 f0 f1 f2 f3 f4 f5 f6 f7 f8 f9 f10
          have hown := hI.own
          have HH := Lib.hid (And.intro hbx2 (And.intro hb2 (And.intro hr2 (And.intro hB2 (And.intro hown hbj)))))
          clear hI hb1 hbx hbx2 hb2 hT2 hr2 hB2 hown hbj
          go_wp2_with fail
          refine cK.mono ?_
          rintro e5 w3 ⟨rfl, hB3⟩
          obtain ⟨hbx, hb2, hr2, hB2, hown, hbj⟩ := HH.out
          have hbx3 := hbx.turn (Turn.ofBelow hB3) (fun h => absurd hbx.lt (Nat.not_lt.2 h))
          have hb3 := hb2.turn (Turn.ofBelow hB3) (fun h => absurd hb2.lt (Nat.not_lt.2 h))
          have hr3 := hr2.turn (Turn.ofBelow hB3) (fun k hk h => absurd (hr2.lt hk) (Nat.not_lt.2 h))
          have hB4 := hB2.trans (hB3.mono hB2.size)
          have hbxlt := hbx3.lt
          have hw3 := hB4.size
          have hdiv : (e * 2 + j) / 2 = e := by omega
          have hmod : (e * 2 + j) % 2 = j := by omega
          clear HH cK hbx hb2 hr2 hB2 hB3 y0 y1 z1 g0 g1 f0 f1 f2 f3 f4 f5 f6 f7 f8 f9 f10
          generalize ((wr.setCell ⟨w.heap.size, 0, none⟩ (.int .i64 (e : Int))).setCell ⟨w.heap.size, 1, none⟩ (.bool bj)) = W2 at *
          cases hq : (c.at (e : Int) bj).may
          · rw [show chkV false = 11 from rfl]
            have hI2 : AllI c w (e * 2 + (j + 1)) u3 w3 := ⟨⟨_, _, hbx3⟩, by
              show CfgRow w3 u3 (allC c ((e * 2 + j) + 1))
              unfold allC
              rw [hdiv, hmod, ← hbj, if_neg (by rw [hq]; decide), List.append_nil]
              exact hr3, hown, hB4⟩
            have HI2 := Lib.hid (And.intro hI2 hb3)
            clear hI2 hr3 hown hB4 hbx3 hb3 hdiv hmod hq hbj
            go_wp2_with fail
            go_roundw
            case rel => exact ⟨j + 1, by omega, by go_num, HI2.out⟩
            case measure => simp [intOf]; omega
          · rw [show chkV true = 0 from rfl]
            have f0 := hbx3.cell 0
            have f1 := hbx3.cell 1
            have f2 := hbx3.cell 2
            have f3 := hbx3.cell 3
            have f4 := hbx3.cell 4
            have f5 := hbx3.cell 5
            have f6 := hbx3.cell 6
            have f7 := hbx3.cell 7
            have f8 := hbx3.cell 8
            have f9 := hbx3.cell 9
            have f10 := hbx3.cell 10
            simp only [List.getElem?_toArray, List.getElem?_cons_succ, List.getElem?_cons_zero] at f0 f1 f2 f3 f4 f5 f6 f7 f8 f9 f10
            have hvb : Blk (w3.alloc (.cells #[.int .i64 (e : Int), .bool bj, .int .i64 c.p, .int .i64 c.t, .int .i64 c.r, .int .i64 c.s, .int .i64 c.g, .int .i64 c.f, .int .i64 c.m, .int .i64 c.l, .int .i64 c.b] 23)) w3.heap.size (c.at (e : Int) bj).arr 23 := Blk.new w3 _ _
            have hr4 : CfgRow (w3.alloc (.cells #[.int .i64 (e : Int), .bool bj, .int .i64 c.p, .int .i64 c.t, .int .i64 c.r, .int .i64 c.s, .int .i64 c.g, .int .i64 c.f, .int .i64 c.m, .int .i64 c.l, .int .i64 c.b] 23)) u3 (allC c (e * 2 + j)) := hr3.turn ((Turn.refl (fun _ => False) w3).alloc _) (fun _ _ h => h)
            have hlen : (allC c (e * 2 + j)).length ≤ 100000 := by have := allC_le c (e * 2 + j); omega
            have HI2 := Lib.hid (And.intro hbx3 (And.intro hb3 (And.intro hown (And.intro hB4 (And.intro hdiv (And.intro hmod (And.intro hq hbj)))))))
            clear hr3 hown hB4 hbx3 hb3 hdiv hmod hq hbj
            go_wp2_with (at_builtin; refine wpList_pushC rfl _ _ rfl hr4 hlen w3.heap.size 1 (c.at (e : Int) bj) hvb rfl rfl ?_; intro g n cap w5 hR hT hN)
            go_roundw
            case rel =>
              obtain ⟨hbx3, hb3, hown, hB4, hdiv, hmod, hq, hbj⟩ := HI2.out
              refine ⟨j + 1, by omega, by go_num, ⟨⟨_, _, (hbx3.alloc _).turn hT (fun h => by have := hown _ h; omega)⟩, ?_, ?_, ?_⟩, ?_⟩
              · show CfgRow w5 _ (allC c ((e * 2 + j) + 1))
                unfold allC
                rw [hdiv, hmod, ← hbj, if_pos hq]
                exact hR
              · intro k hk
                have e2 := own_sliceC hk
                subst e2
                rcases hN with h | h
                · exact hown _ h
                · simp at h; omega
              · exact (hB4.alloc hB4.size _).trans (hT.below w.heap.size (by simp; omega) (fun k hk h => by have := hown _ h; omega))
              · refine (hb3.alloc _).turn hT (fun h => ?_)
                obtain ⟨_, hbk⟩ := hr4.own h
                exact blk_typesC hbk (hb3.alloc _) (by decide)
            case measure => simp [intOf]; omega
        · obtain rfl : j = 2 := by omega
          have HI2 := Lib.hid hI
          have hN : ¬ ((2 : Nat) : Int) < 2 := by omega
          clear hI hb1 hj2 hjl
          go_wp2_with fail
          go_roundw
          case rel => exact ⟨e + 1, by omega, by go_num, by have := HI2.out; rw [show (e + 1) * 2 = e * 2 + 2 by omega]; exact this⟩
          case measure => simp [intOf]; omega
    · obtain rfl : e = 4 := by omega
      have hN : ¬ ((4 : Nat) : Int) < 4 := by omega
      have HI := Lib.hid hI
      clear hI hlt he4
      go_wp2_with fail
      go_ret
      obtain ⟨_, h1, h2, h3⟩ := HI.out
      exact ⟨u3, rfl, h1, fun k hk => by have := h2 k hk; omega, h3⟩
end Go.Proofs.YtaoankajpknncaaDoor
