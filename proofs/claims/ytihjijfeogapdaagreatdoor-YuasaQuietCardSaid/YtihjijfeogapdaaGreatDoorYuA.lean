/- Yuasa's barrier: its calls; at this seat's numbers. (Prepared over a yuasa.go of our own.) -/
import Derived.Test.YtihjijfeogapdaaGreatDoorBrA
namespace Go.Proofs.YtihjijfeogapdaaGreatDoor
open Go Go.RowKit Go.Shelf
set_option linter.unusedSimpArgs false
set_option linter.unusedVariables false
attribute [local go_sem] Oper.semAt_some

def yuK : BrK := ⟨73, fun tm => .func (.func 19) #[.pointer (some ⟨tm, 0, none⟩)] #[]⟩
theorem yu_new (tm : Nat) (w : World) : Calls Tryz.prog 10 #[.pointer (some ⟨tm, 0, none⟩)] w fun e w' => e = .returned (.pointer (some ⟨w.heap.size, 0, none⟩)) ∧ w.alloc (.cells (BrCells yuK tm) yuK.t) = w' := by
  have hmf : ∀ (fn : Fn) (first cap : Array Value) (w : World), (Instr.makeFunc fn first cap).run Tryz.prog w = .ok (.func fn first cap) w := fun _ _ _ _ => rfl
  go_enter Tryz.func10, Tryz.ntmps10
  go_wp2_with fail
  go_ret
  exact ⟨rfl, rfl⟩
theorem yu_remark (b : Nat) (w : World) : Calls Tryz.prog 16 #[.pointer (some ⟨b, 0, none⟩)] w fun e w' => e = .returned (.tuple #[]) ∧ w = w' := by
  go_enter Tryz.func16, Tryz.ntmps16
  go_wp2_with fail
  refine bodyPost_end (results_none rfl _ _ _) rfl ?_
  exact ⟨rfl, rfl⟩
theorem yu_reset (b : Nat) (w : World) : Calls Tryz.prog 17 #[.pointer (some ⟨b, 0, none⟩)] w fun e w' => e = .returned (.tuple #[]) ∧ w = w' := by
  go_enter Tryz.func17, Tryz.ntmps17
  go_wp2_with fail
  refine bodyPost_end (results_none rfl _ _ _) rfl ?_
  exact ⟨rfl, rfl⟩
theorem yu_rescans (b : Nat) (w : World) : Calls Tryz.prog 25 #[.pointer (some ⟨b, 0, none⟩)] w fun e w' => e = .returned (.bool false) ∧ w = w' := by
  go_enter Tryz.func25, Tryz.ntmps25
  go_wp2_with fail
  go_ret
  exact ⟨rfl, rfl⟩
section
variable {B mb n : Nat} {X : ArB} {s : ArS} {obs : List Ob} {vl : Value} {f : Int → Value} {adj : Int → List Int} {E E' : Nat → Prop} {T T' : MkB} {c c' : Col} {b tm : Nat} {wb wr w' : World}
/-- What is taken away is shaded. -/
theorem yu_pre (h : BrIn yuK B mb n X s obs vl f adj E T c b tm wb wr) (x o : Int) (ho : o ∈ refsI obs ∨ o = 0) (hb : ∀ y ∈ refsI obs, 1 ≤ y ∧ y ≤ 2048) :
    Calls Tryz.prog 11 #[.pointer (some ⟨b, 0, none⟩), .int .i64 x, .int .i64 o] wr fun e w' =>
    e = .returned (.tuple #[]) ∧ ∃ T', BrIn yuK B mb n X s obs vl f adj E T' (c.shadeZ o) b tm wb w' ∧ ∀ k, E k → w'.heap[k]? = wr.heap[k]? := by
  have c1 : wr.cell? ⟨b, 0, none⟩ = some (.func (.func 19) #[.pointer (some ⟨tm, 0, none⟩)] #[]) := h.cell
  have cC := h.shade o ho hb
  go_enter Tryz.func11, Tryz.ntmps11
  go_wp2_with fail
  refine cC.mono ?_
  rintro e w2 ⟨qq, rfl, T', hS, hE⟩
  clear cC c1
  go_wp2_with fail
  refine bodyPost_end (results_none rfl _ _ _) rfl ?_
  exact ⟨rfl, T', hS, fun k e => hE k (.inl e)⟩
/-- A write is told: what was taken away is shaded; early on what is written is, too. -/
theorem yu_post (h : BrIn yuK B mb n X s obs vl f adj E T c b tm wb wr) (x o y : Int) (p q : Bool) (ho : o ∈ refsI obs ∨ o = 0) (hy : y ∈ refsI obs ∨ y = 0) (hb : ∀ y ∈ refsI obs, 1 ≤ y ∧ y ≤ 2048) :
    Calls Tryz.prog 12 #[.pointer (some ⟨b, 0, none⟩), .agg #[.int .i64 x, .int .i64 o, .int .i64 y, .bool p, .bool q]] wr fun e w' =>
    e = .returned (.tuple #[]) ∧ ∃ T', BrIn yuK B mb n X s obs vl f adj E T' ((c.shadeZ o).shadeZ (if q then y else 0)) b tm wb w' ∧ ∀ k, E k → w'.heap[k]? = wr.heap[k]? := by
  have hB1 := (Below.refl wr.heap.size wr).alloc (Nat.le_refl _) (.cells #[.int .i64 x, .int .i64 o, .int .i64 y, .bool p, .bool q] 44)
  have hW := Blk.new wr #[.int .i64 x, .int .i64 o, .int .i64 y, .bool p, .bool q] 44
  have c1 : (wr.alloc (.cells #[.int .i64 x, .int .i64 o, .int .i64 y, .bool p, .bool q] 44)).cell? ⟨b, 0, none⟩ = some (.func (.func 19) #[.pointer (some ⟨tm, 0, none⟩)] #[]) := (h.ask hB1).cell
  have c2 := hW.cell 1
  have d2 := hW.cell 2
  have d4 := hW.cell 4
  simp only [List.getElem?_toArray, List.getElem?_cons_zero, List.getElem?_cons_succ] at c2 d2 d4
  have cC := (h.box (.cells #[.int .i64 x, .int .i64 o, .int .i64 y, .bool p, .bool q] 44)).drew.shade o ho hb
  have HD := Lib.hid (And.intro d2 d4)
  clear hW d2 d4
  go_enter Tryz.func12, Tryz.ntmps12
  go_wp2_with fail
  go_region_held3 (fun w' => w'.cell? ⟨b, 0, none⟩ = some (.func (.func 19) #[.pointer (some ⟨tm, 0, none⟩)] #[]) ∧ w'.cell? ⟨wr.heap.size, 1, none⟩ = some (.int .i64 o)) (first | exact hS9 | exact ⟨c1, c2⟩)
    (first
      | (go_at_call 19; refine cC.mono ?_; rintro e w2 ⟨qq, rfl, T', hS, hE⟩; have hS9 : w2.cell? ⟨b, 0, none⟩ = some (.func (.func 19) #[.pointer (some ⟨tm, 0, none⟩)] #[]) ∧ w2.cell? ⟨wr.heap.size, 1, none⟩ = some (.int .i64 o) := ⟨hS.cell, (World.cell?_of_block (a := ⟨wr.heap.size, 1, none⟩) (hE _ (.inl (.inr rfl)))).trans c2⟩))
  all_goals
    have hkW := hE _ (.inl (.inr rfl))
    have e2 := (World.cell?_of_block (a := ⟨wr.heap.size, 2, none⟩) hkW).trans HD.out.1
    have e4 := (World.cell?_of_block (a := ⟨wr.heap.size, 4, none⟩) hkW).trans HD.out.2
    have hE' : ∀ k, E k → w2.heap[k]? = wr.heap[k]? := fun k e => (hE k (.inl (.inl e))).trans (hB1.block k (h.gm.ext k (.inl e)))
    have HS := Lib.hid (And.intro (hS.less (E' := E) (fun k e => .inl e)) hE')
    have f1 : w2.cell? ⟨b, 0, none⟩ = some (.func (.func 19) #[.pointer (some ⟨tm, 0, none⟩)] #[]) := hS.cell
    have cC2 := hS.drew.shade y hy hb
    clear cC c1 c2 hS9 hS hE hkW hE'
    cases q with
    | false =>
      clear cC2
      go_wp2_with fail
      refine bodyPost_end (results_none rfl _ _ _) rfl ?_
      rw [Col.shadeZ_no]
      exact ⟨rfl, ⟨T', HS.out.1⟩, HS.out.2⟩
    | true =>
      go_wp2_with fail
      go_region_held3 (fun w' => w'.cell? ⟨b, 0, none⟩ = some (.func (.func 19) #[.pointer (some ⟨tm, 0, none⟩)] #[]) ∧ w'.cell? ⟨wr.heap.size, 2, none⟩ = some (.int .i64 y)) (first | exact hS8 | exact ⟨f1, e2⟩)
        (first
          | (go_at_call 19; refine cC2.mono ?_; rintro e w3 ⟨qq3, rfl, T3, hS3, hE3⟩; have hS8 : w3.cell? ⟨b, 0, none⟩ = some (.func (.func 19) #[.pointer (some ⟨tm, 0, none⟩)] #[]) ∧ w3.cell? ⟨wr.heap.size, 2, none⟩ = some (.int .i64 y) := ⟨hS3.cell, (World.cell?_of_block (a := ⟨wr.heap.size, 2, none⟩) (hE3 _ (.inl (.inr rfl)))).trans e2⟩))
      all_goals
        go_wp2_with fail
        refine bodyPost_end (results_none rfl _ _ _) rfl ?_
        exact ⟨rfl, ⟨T3, hS3.less (fun k e => .inl e)⟩, fun k e => (hE3 k (.inl (.inl e))).trans (HS.out.2 k e)⟩
end
end Go.Proofs.YtihjijfeogapdaaGreatDoor
