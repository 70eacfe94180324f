/- The sweeper's Page; at this seat's numbers. -/
import Derived.Test.YtidpmplkbgllfaaGreatDoorSwD
namespace Go.Proofs.YtidpmplkbgllfaaGreatDoor
open Go Go.RowKit Go.Shelf Go.MuLone Go.RwLone
set_option linter.unusedSimpArgs false
set_option linter.unusedVariables false
attribute [local go_sem] Oper.semAt_some

section
variable {B : Nat} {E E' : Nat → Prop} {X X' : ArB} {s s' : ArS} {T T' : MkB} {c c' : Col} {sw nx : Nat} {on : Bool} {wb wr w' : World}
theorem SwIn.pageNo (h : SwIn B E X s T c sw false nx wb wr) : Calls Tryz.prog 12 #[.pointer (some ⟨sw, 0, none⟩)] wr fun e w' => e = .returned (.slice none 0 0) ∧ wr = w' := by
  have c1 := h.blk.cell 1
  simp only [swArr, List.getElem?_toArray, List.getElem?_cons_zero, List.getElem?_cons_succ] at c1
  clear h
  go_enter Tryz.func12, Tryz.ntmps12
  go_wp2_with fail
  go_ret
  exact ⟨rfl, rfl⟩
/-- Its cells are stored to. -/
theorem SwIn.set (h : SwIn B E X s T c sw on nx wb wr) (j : Nat) (v : Value) {on' : Bool} {nx' : Nat} (hj : (swArr T.m on nx).setIfInBounds j v = swArr T.m on' nx') : SwIn B E X s T c sw on' nx' wb (wr.setCell ⟨sw, j, none⟩ v) :=
  ⟨h.ma.turnE ((Turn.refl (fun k => k = sw) wr).set ⟨sw, j, none⟩ v (.inr rfl)) (fun k e => .inr e), (h.blk.setAt j v).is hj, h.far⟩
set_option maxRecDepth 100000 in
set_option maxHeartbeats 4000000 in
theorem SwIn.page (h : SwIn B E X s T c sw true nx wb wr) (hn : nx < s.P) : Calls Tryz.prog 12 #[.pointer (some ⟨sw, 0, none⟩)] wr fun e w' =>
    ∃ v X' T', e = .returned v ∧ RefRow w' v (swL s c nx) ∧ X'.a = X.a ∧ T'.m = T.m ∧ SwIn B E X' (swS s c nx) T' (swC s c nx) sw (decide (nx + 1 < s.P)) (nx + 1) wb w' ∧ (∀ k, E k → w'.heap[k]? = wr.heap[k]?) ∧ wr.heap.size ≤ w'.heap.size := by
  have hp := h.fits.p64
  have c1 := h.blk.cell 1
  have c2 := h.blk.cell 2
  simp only [swArr, List.getElem?_toArray, List.getElem?_cons_zero, List.getElem?_cons_succ] at c1 c2
  have cC := h.clean nx hn
  have hx0 : (0 : Int) ≤ (nx : Int) := by omega
  have hx1 : (nx : Int) < 64 := by omega
  have H := Lib.hid (And.intro h.ma.ownE h.far)
  clear h
  go_enter Tryz.func12, Tryz.ntmps12
  go_wp2_with fail
  refine cC.mono ?_
  rintro e w1 ⟨v, X1, T1, rfl, hR, hXa, hTm, h1, hk, hsz⟩
  have d2 := h1.blk.cell 2
  have z2 := h1.blk.free 2
  simp only [swArr, List.getElem?_toArray, List.getElem?_cons_zero, List.getElem?_cons_succ] at d2
  have h2 := h1.set 2 (.int .i64 ((nx : Int) + 1)) (on' := true) (nx' := nx + 1) (by simp [swArr])
  have e1 := h2.blk.cell 1
  have e2 := h2.blk.cell 2
  have y1 := h2.blk.free 1
  have cP := h2.drew.pages
  rw [swS_P] at cP
  have H2 := Lib.hid (And.intro hR (And.intro hXa (And.intro hTm (And.intro h1 (And.intro h2 (And.intro hk hsz))))))
  simp only [swArr, List.getElem?_toArray, List.getElem?_cons_zero, List.getElem?_cons_succ] at e1 e2
  have hc : ((nx + 1 : Nat) : Int) = (nx : Int) + 1 := by omega
  rw [hc] at e2
  obtain ⟨q, hq⟩ : ∃ q, decide (nx + 1 < s.P) = q := ⟨_, rfl⟩
  have hqI : decide ((nx : Int) + 1 < (s.P : Int)) = q := by rw [← hq]; exact decide_eq_decide.2 (by omega)
  have HQ := Lib.hid hq
  clear hR hXa hTm h1 h2 hk hsz cC c1 c2 hc hq
  go_wp2_with fail
  go_region_with (first
        | (go_at_call 35; refine cP.mono ?_; rintro e w2 ⟨rfl, rfl⟩))
  all_goals
    go_wp2_with fail
    go_ret
    obtain ⟨hR, hXa, hTm, h1, h2, hk, hsz⟩ := H2.out
    have h3 := (h2.set 1 (.bool q) (on' := q) (nx' := nx + 1) (by simp [swArr])).drew
    have hT := (((Turn.refl (fun k => k = sw) w1).set ⟨sw, 2, none⟩ (.int .i64 ((nx : Int) + 1)) (.inr rfl)).set ⟨sw, 1, none⟩ (.bool q) (.inr rfl)).drew
    exact ⟨v, X1, T1, rfl, hR.turn hT (fun k e => by
      obtain ⟨cur, hc⟩ := hR.own e
      exact fun e2 => by subst e2; exact blkT h1.blk hc (by decide)), hXa, hTm, by rw [HQ.out]; exact h3, fun k e => (hT.block k (Nat.lt_of_lt_of_le (H.out.1 k (.inl e)).2.1 hsz) (fun e2 => H.out.2 (e2 ▸ e))).trans (hk k e), Nat.le_trans hsz hT.size⟩
end
end Go.Proofs.YtidpmplkbgllfaaGreatDoor
