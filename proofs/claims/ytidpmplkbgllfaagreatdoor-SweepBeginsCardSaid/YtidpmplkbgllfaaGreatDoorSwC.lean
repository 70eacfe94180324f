/- The sweeper's small calls; at this seat's numbers. -/
import Derived.Test.YtidpmplkbgllfaaGreatDoorSwA
import Derived.Deep.RegionHeld3
import Derived.Deep.QuietTactic
import Derived.BigQuiet
namespace Go.Proofs.YtidpmplkbgllfaaGreatDoor
open Go Go.RowKit Go.Shelf Go.MuLone Go.RwLone
set_option linter.unusedSimpArgs false
set_option linter.unusedVariables false
attribute [local go_sem] Oper.semAt_some

def swArr (m : Nat) (on : Bool) (nx : Nat) : Array Value := #[.pointer (some ⟨m, 0, none⟩), .bool on, .int .i64 (nx : Int)]
/-- A sweeper over a marker. -/
structure SwIn (B : Nat) (E : Nat → Prop) (X : ArB) (s : ArS) (T : MkB) (c : Col) (sw : Nat) (on : Bool) (nx : Nat) (wb wr : World) : Prop where
  ma : MaIn B (fun k => E k ∨ k = sw) X s T c wb wr
  blk : Blk wr sw (swArr T.m on nx) 70
  far : ¬ E sw
section
variable {B : Nat} {E E' : Nat → Prop} {X X' : ArB} {s s' : ArS} {T T' : MkB} {c c' : Col} {sw nx : Nat} {on : Bool} {wb wr w' : World}
theorem SwIn.ask (h : SwIn B E X s T c sw on nx wb wr) (hB : Below wr.heap.size wr w') : SwIn B E X s T c sw on nx wb w' :=
  ⟨h.ma.ask hB, h.blk.turn (Turn.ofBelow hB) (fun e => Nat.lt_irrefl _ (Nat.lt_of_lt_of_le h.blk.lt e)), h.far⟩
theorem SwIn.alloc (h : SwIn B E X s T c sw on nx wb wr) (o : Obj) : SwIn B E X s T c sw on nx wb (wr.alloc o) := h.ask ((Below.refl _ wr).alloc (Nat.le_refl _) o)
theorem SwIn.drew (h : SwIn B E X s T c sw on nx wb wr) : SwIn B E X s T c sw on nx wb wr.drew := h.ask (Below.refl _ wr).drew
theorem SwIn.size (h : SwIn B E X s T c sw on nx wb wr) : B ≤ wr.heap.size := h.ma.size
theorem SwIn.fits (h : SwIn B E X s T c sw on nx wb wr) : Fits s := h.ma.fits
/-- Behind a call on the marker, or on the arena. -/
theorem SwIn.went (h : SwIn B E X s T c sw on nx wb wr) (hm : T'.m = T.m) (g : MaIn B (fun k => E k ∨ k = sw) X' s' T' c' wb w') (hk : ∀ k, (E k ∨ k = sw) → w'.heap[k]? = wr.heap[k]?) : SwIn B E X' s' T' c' sw on nx wb w' :=
  ⟨g, by have h1 := h.blk; unfold Blk at *; rw [hk sw (.inr rfl), hm]; exact h1, h.far⟩
theorem SwIn.watch (h : SwIn B E X s T c sw on nx wb wr) (hB : Below wr.heap.size wr w') (hE : ∀ k, E' k → E k ∨ (wr.heap.size ≤ k ∧ k < w'.heap.size)) : SwIn B E' X s T c sw on nx wb w' := by
  have h1 := h.ask hB
  refine ⟨h.ma.watch hB fun k e => ?_, h1.blk, fun e => ?_⟩
  · rcases e with e | e
    · rcases hE k e with e2 | e2
      · exact .inl (.inl e2)
      · exact .inr e2
    · exact .inl (.inr e)
  · rcases hE sw e with e2 | e2
    · exact h.far e2
    · have := h.blk.lt; omega
theorem SwIn.turnE {M : Nat → Prop} (h : SwIn B E X s T c sw on nx wb wr) (hT : Turn M wr w') (hM : ∀ k, M k → E k) : SwIn B E X s T c sw on nx wb w' :=
  ⟨h.ma.turnE hT (fun k e => .inl (hM k e)), h.blk.turn hT (fun e => h.far (hM _ e)), h.far⟩
theorem sw_new (h : MaIn B E X s T c wb wr) : Calls Tryz.prog 10 #[.pointer (some ⟨T.m, 0, none⟩)] wr fun e w' =>
    ∃ sw, e = .returned (.pointer (some ⟨sw, 0, none⟩)) ∧ SwIn B E X s T c sw false 0 wb w' ∧ Below wr.heap.size wr w' := by
  have hB := (Below.refl _ wr).alloc (Nat.le_refl _) (.cells #[.pointer (some ⟨T.m, 0, none⟩), .bool false, .int .i64 0] 70)
  have hb := Blk.new wr #[.pointer (some ⟨T.m, 0, none⟩), .bool false, .int .i64 0] 70
  have h1 := h.watch (E' := fun k => E k ∨ k = wr.heap.size) hB (fun k e => by
    rcases e with e | e
    · exact .inl e
    · right; subst e; simp)
  have hf : ¬ E wr.heap.size := fun e => by have := (h.ownE _ e).2.1; omega
  go_enter Tryz.func10, Tryz.ntmps10
  go_wp2_with fail
  go_ret
  exact ⟨wr.heap.size, rfl, ⟨h1, hb, hf⟩, hB⟩
theorem SwIn.begin (h : SwIn B E X s T c sw on nx wb wr) : Calls Tryz.prog 11 #[.pointer (some ⟨sw, 0, none⟩)] wr fun e w' =>
    e = .returned (.tuple #[]) ∧ SwIn B E X s T c sw true 0 wb w' ∧ (∀ k, E k → w'.heap[k]? = wr.heap[k]?) ∧ wr.heap.size ≤ w'.heap.size := by
  have hb := h.blk
  have c1 := hb.cell 1
  have c2 := hb.cell 2
  have z1 := hb.free 1
  have z2 := hb.free 2
  have hb1 := hb.setAt 1 (.bool true)
  have hb2 := hb1.setAt 2 (.int .i64 0)
  have z3 := hb1.free 2
  have c3 := hb1.cell 2
  have hT := ((Turn.refl (fun k => k = sw) wr).set ⟨sw, 1, none⟩ (.bool true) (.inr rfl)).set ⟨sw, 2, none⟩ (.int .i64 0) (.inr rfl)
  have g := h.ma.turnE hT (fun k e => .inr e)
  have hk : ∀ k, E k → ((wr.setCell ⟨sw, 1, none⟩ (.bool true)).setCell ⟨sw, 2, none⟩ (.int .i64 0)).heap[k]? = wr.heap[k]? := fun k e => hT.block k (h.ma.ownE k (.inl e)).2.1 (fun e2 => h.far (e2 ▸ e))
  have H := Lib.hid (And.intro (And.intro g (hb2.is (show _ = swArr T.m true 0 by simp [swArr]))) (And.intro (And.intro hk hT.size) h.far))
  simp only [swArr, List.getElem?_toArray, List.getElem?_cons_zero, List.getElem?_cons_succ] at c1 c2 c3
  clear hb hb1 hb2 hT g hk h
  go_enter Tryz.func11, Tryz.ntmps11
  go_wp2_with fail
  refine bodyPost_end (results_none rfl _ _ _) rfl ?_
  exact ⟨rfl, ⟨H.out.1.1, H.out.1.2, H.out.2.2⟩, H.out.2.1.1, H.out.2.1.2⟩
theorem SwIn.on_ (h : SwIn B E X s T c sw on nx wb wr) : Calls Tryz.prog 18 #[.pointer (some ⟨sw, 0, none⟩)] wr fun e w' => e = .returned (.bool on) ∧ wr = w' := by
  have c1 := h.blk.cell 1
  simp only [swArr, List.getElem?_toArray, List.getElem?_cons_zero, List.getElem?_cons_succ] at c1
  clear h
  go_enter Tryz.func18, Tryz.ntmps18
  go_wp2_with fail
  go_ret
  exact ⟨rfl, rfl⟩
theorem SwIn.pages (h : SwIn B E X s T c sw on nx wb wr) : Calls Tryz.prog 35 #[.pointer (some ⟨sw, 0, none⟩)] wr fun e w' => e = .returned (.int .i64 (s.P : Int)) ∧ wr = w' := by
  have c0 := h.blk.cell 0
  simp only [swArr, List.getElem?_toArray, List.getElem?_cons_zero, List.getElem?_cons_succ] at c0
  have cA := h.ma.arena
  have cP := pages_any h.ma.ar.at_.toArMem
  clear h
  go_enter Tryz.func35, Tryz.ntmps35
  go_wp2_with fail
  refine cA.mono ?_
  rintro e w1 ⟨rfl, rfl⟩
  go_wp2_with fail
  refine cP.mono ?_
  rintro e w1 ⟨rfl, rfl⟩
  go_wp2_with fail
  go_ret
  exact ⟨rfl, rfl⟩
theorem SwIn.left (h : SwIn B E X s T c sw on nx wb wr) (hn : nx ≤ 64) : Calls Tryz.prog 25 #[.pointer (some ⟨sw, 0, none⟩)] wr fun e w' => e = .returned (.int .i64 (if on = true then (s.P : Int) - (nx : Int) else 0)) ∧ Below wr.heap.size wr w' := by
  have c1 := h.blk.cell 1
  simp only [swArr, List.getElem?_toArray, List.getElem?_cons_zero, List.getElem?_cons_succ] at c1
  have hp := h.fits.p64
  cases on with
  | false =>
    clear h
    go_enter Tryz.func25, Tryz.ntmps25
    go_wp2_with fail
    go_ret
    exact ⟨rfl, Below.refl _ _⟩
  | true =>
    have hD := h.drew
    have c2 := hD.blk.cell 2
    simp only [swArr, List.getElem?_toArray, List.getElem?_cons_zero, List.getElem?_cons_succ] at c2
    have cP := hD.pages
    have hw : IntKind.i64.wrap ((s.P : Int) - (nx : Int)) = (s.P : Int) - (nx : Int) := by simp [IntKind.wrap, IntKind.bits, IntKind.signed]; omega
    clear h hD
    go_enter Tryz.func25, Tryz.ntmps25
    go_wp2_with fail
    go_region_held3 (fun w' => w'.cell? ⟨sw, 2, none⟩ = some (.int .i64 (nx : Int))) (exact c2)
      (first
        | (go_at_call 35; refine cP.mono ?_; rintro e w2 ⟨rfl, rfl⟩))
    all_goals
      go_wp2_with fail
      go_ret
      exact ⟨by simp [hw], (Below.refl _ _).drew⟩
theorem pgI_range {r : Int} (hF : Fits s) : -1 ≤ pgI s r ∧ pgI s r < 64 := by
  have := hF.p64
  unfold pgI pg
  split <;> omega
theorem below_drewSw (w : World) (n : Nat) : Below w.heap.size w (w.drewN n) := ⟨rfl, rfl, rfl, Nat.le_refl _, fun _ _ => rfl⟩
theorem SwIn.ahead (h : SwIn B E X s T c sw on nx wb wr) (r : Int) : Calls Tryz.prog 15 #[.pointer (some ⟨sw, 0, none⟩), .int .i64 r] wr fun e w' => e = .returned (.bool (on && decide ((nx : Int) ≤ pgI s r))) ∧ Below wr.heap.size wr w' := by
  have c0 := h.blk.cell 0
  have c1 := h.blk.cell 1
  have c2 := h.blk.cell 2
  simp only [swArr, List.getElem?_toArray, List.getElem?_cons_zero, List.getElem?_cons_succ] at c0 c1 c2
  have cA : ∀ n : Nat, Calls Tryz.prog 41 #[.pointer (some ⟨T.m, 0, none⟩)] (wr.drewN n) _ := fun n => (h.ask (below_drewSw wr n)).ma.arena
  have cP : ∀ n : Nat, Calls Tryz.prog 16 #[.pointer (some ⟨X.a, 0, none⟩), .int .i64 r] (wr.drewN n) _ := fun n => page_any (h.ask (below_drewSw wr n)).ma.ar.at_.toArMem r
  clear h
  generalize pgI s r = q at *
  cases on with
  | false =>
    go_enter Tryz.func15, Tryz.ntmps15
    go_wp2_with fail
    go_quiet (fail)
    go_wp2_with fail
    go_ret
    exact ⟨rfl, below_drewSw _ _⟩
  | true =>
    go_enter Tryz.func15, Tryz.ntmps15
    go_wp2_with fail
    go_quiet ((first
        | (go_at_call 41; exact quiet_left (cA _))
        | (go_at_call 16; exact quiet_left (cP _))))
    go_wp2_with fail
    go_ret
    exact ⟨by simp, below_drewSw _ _⟩
end
end Go.Proofs.YtidpmplkbgllfaaGreatDoor
