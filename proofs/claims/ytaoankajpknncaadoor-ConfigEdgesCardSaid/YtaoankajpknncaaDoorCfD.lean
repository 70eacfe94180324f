/- Check, walked; at this seat's numbers. -/
import Derived.Test.YtaoankajpknncaaDoorCfC
namespace Go.Proofs.YtaoankajpknncaaDoor
open Go Go.RowKit
set_option linter.unusedSimpArgs false
set_option linter.unusedVariables false
theorem run_store_func (P : Program) (w : World) (a : Addr) (m : Mode) (f : Fn) (x y : Array Value) : (store a (.func f x y) m).run P w = stored P w a (.func f x y) m := run_store P w a _ m rfl
attribute [local go_sem] Oper.semAt_some run_store_func

structure ChkI (c : Cfg) (w : World) (i : Nat) (wr : World) : Prop where
  le : i ≤ 10
  all : ∀ j, j < i → inB (c.num j) (lowB j) (highB j) = true
  cfg : Blk wr w.heap.size c.arr 23
  row : Blk wr (w.heap.size + 1) boundCells 51
  below : Below w.heap.size w wr
def chkV (q : Bool) : Int := if q then 0 else 11

set_option maxRecDepth 100000 in
set_option maxHeartbeats 4000000 in
theorem check_any (c : Cfg) (w : World) : Calls Tryd.prog 10 #[c.val] w fun e w' => e = .returned (.int .i64 (chkV c.may)) ∧ Below w.heap.size w w' := by
  have c0 := bounds_any (w.alloc (.cells c.arr 23))
  have hB0 := (Below.refl w.heap.size w).alloc (Nat.le_refl _) (.cells c.arr 23)
  have hb0 := Blk.new w c.arr 23
  have hI0 : ChkI c w 0 ((w.alloc (.cells c.arr 23)).alloc (.cells boundCells 51)) := ⟨Nat.zero_le _, fun j hj => absurd hj (Nat.not_lt_zero _), hb0.alloc _, by
    have := Blk.new (w.alloc (.cells c.arr 23)) boundCells 51
    simpa using this, hB0.alloc (by simp) _⟩
  have HI0 := Lib.hid hI0
  clear hB0 hb0 hI0
  go_enter Tryd.func10, Tryd.ntmps10
  go_wp2_with fail
  refine c0.mono ?_
  rintro e w1 ⟨rfl, rfl⟩
  have hI0 := HI0.out
  clear c0 HI0
  generalize (w.alloc (.cells c.arr 23)).alloc (.cells boundCells 51) = V at *
  go_wp2_with fail
  go_loopw [7] (fun v7 wr => ∃ i : Nat, v7 = .int .i64 (i : Int) ∧ ChkI c w i wr) (fun v7 _ => 10 - (intOf v7).toNat)
  case atStart => exact ⟨0, rfl, hI0⟩
  case round =>
    clear hI0
    obtain ⟨i, rfl, hI⟩ := hrel
    have hi := hI.le
    by_cases hlt : i < 10
    · have hltI : (i : Int) < 10 := by omega
      obtain ⟨d0, d1, d2⟩ := bound_cells i hlt
      have hc0 := (hI.row.cell (i * 3)).trans d0
      have hc1 := (hI.row.cell (i * 3 + 1)).trans d1
      have hc2 := (hI.row.cell (i * 3 + 2)).trans d2
      clear d0 d1 d2
      have hnew := Blk.new wr #[.func (.func (fnB i)) #[] #[], .int .i64 (lowB i), .int .i64 (highB i)] 51
      have hcf := hI.cfg.alloc (.cells #[.func (.func (fnB i)) #[] #[], .int .i64 (lowB i), .int .i64 (highB i)] 51)
      have hrw := hI.row.alloc (.cells #[.func (.func (fnB i)) #[] #[], .int .i64 (lowB i), .int .i64 (highB i)] 51)
      have hbe := hI.below.alloc hI.below.size (.cells #[.func (.func (fnB i)) #[] #[], .int .i64 (lowB i), .int .i64 (highB i)] 51)
      have cH := holds_any c i hlt _ rfl (wr.alloc (.cells #[.func (.func (fnB i)) #[] #[], .int .i64 (lowB i), .int .i64 (highB i)] 51))
      have e0 := hnew.cell 0
      have e1 := hnew.cell 1
      have e2 := hnew.cell 2
      have f0 := hcf.cell 0
      have f1 := hcf.cell 1
      have f2 := hcf.cell 2
      have f3 := hcf.cell 3
      have f4 := hcf.cell 4
      have f5 := hcf.cell 5
      have f6 := hcf.cell 6
      have f7 := hcf.cell 7
      have f8 := hcf.cell 8
      have f9 := hcf.cell 9
      have f10 := hcf.cell 10
      simp only [List.getElem?_toArray, List.getElem?_cons_succ, List.getElem?_cons_zero] at e0 e1 e2 f0 f1 f2 f3 f4 f5 f6 f7 f8 f9 f10
      have HH := Lib.hid (And.intro hI.all (And.intro hcf (And.intro hrw hbe)))
      clear hI hnew hcf hrw hbe
      generalize hlo : lowB i = lo at *
      generalize hhi : highB i = hi2 at *
      have HLO := Lib.hid (And.intro hlo hhi)
      clear hlo hhi
      go_wp2_with fail
      refine cH.mono ?_
      rintro e w2 ⟨rfl, hB2⟩
      obtain ⟨ha, hcf, hrw, hbe⟩ := HH.out
      obtain ⟨hlo, hhi⟩ := HLO.out
      have hcf2 := hcf.turn (Turn.ofBelow hB2) (fun h => absurd hcf.lt (Nat.not_lt.2 h))
      have hrw2 := hrw.turn (Turn.ofBelow hB2) (fun h => absurd hrw.lt (Nat.not_lt.2 h))
      have hbe2 := hbe.trans (hB2.mono hbe.size)
      clear cH HH HLO hcf hrw hbe hB2 e0 e1 e2 f0 f1 f2 f3 f4 f5 f6 f7 f8 f9 f10 hc0 hc1 hc2
      cases hq : inB (c.num i) lo hi2
      · have hm : c.may = false := by
          rw [← Bool.not_eq_true, c.may_nums]
          intro h
          have := h.1 i hlt
          rw [hlo, hhi, hq] at this
          cases this
        have HB := Lib.hid (And.intro hm hbe2)
        clear hm hbe2 hq ha hcf2 hrw2 hlo hhi
        go_wp2_with fail
        go_ret
        obtain ⟨hm, hbe2⟩ := HB.out
        exact ⟨by rw [hm]; rfl, hbe2⟩
      · have H2 : ChkI c w (i + 1) w2 := ⟨hlt, fun j hj => by
          by_cases hji : j = i
          · subst hji; rw [hlo, hhi]; exact hq
          · exact ha j (by omega), hcf2, hrw2, hbe2⟩
        have H2' := Lib.hid H2
        clear H2 hbe2 hq ha hcf2 hrw2 hlo hhi
        go_wp2_with fail
        go_roundw
        case rel => exact ⟨i + 1, by go_num, H2'.out⟩
        case measure => simp [intOf]; omega
    · obtain rfl : i = 10 := by omega
      have hN : ¬ ((10 : Nat) : Int) < 10 := by omega
      have hb := hI.cfg
      have f0 := hb.cell 0
      have f1 := hb.cell 1
      simp only [List.getElem?_toArray, List.getElem?_cons_succ, List.getElem?_cons_zero] at f0 f1
      have hm : c.may = !(decide (c.e = 2) && !c.k) := by
        cases hx : c.may
        · cases hy : c.k
          · by_cases he : c.e = 2
            · simp [he]
            · exfalso
              have := c.may_nums.2 ⟨hI.all, fun h => absurd h he⟩
              rw [hx] at this; cases this
          · exfalso
            have := c.may_nums.2 ⟨hI.all, fun h => hy⟩
            rw [hx] at this; cases this
        · have := (c.may_nums.1 hx).2
          by_cases he : c.e = 2
          · simp [he, this he]
          · simp [he]
      have hbe := hI.below
      clear hI hb hlt hi
      by_cases he : c.e = 2
      · cases hk : c.k
        · rw [he] at f0
          rw [hk] at f1
          have HB := Lib.hid (And.intro (show c.may = false by rw [hm, he, hk]; rfl) hbe)
          clear hm hk hbe he
          go_wp2_with fail
          go_ret
          exact ⟨by rw [HB.out.1]; rfl, HB.out.2⟩
        · rw [he] at f0
          rw [hk] at f1
          have HB := Lib.hid (And.intro (show c.may = true by rw [hm, he, hk]; rfl) hbe)
          clear hm hk hbe he
          go_wp2_with fail
          go_ret
          exact ⟨by rw [HB.out.1]; rfl, HB.out.2⟩
      · have he2 : (c.e == 2) = false := by simpa using he
        have HB := Lib.hid (And.intro (show c.may = true by rw [hm]; simp [he]) hbe)
        clear hm hbe
        go_wp2_with fail
        go_ret
        exact ⟨by rw [HB.out.1]; rfl, HB.out.2⟩
end Go.Proofs.YtaoankajpknncaaDoor
