/- Dijkstra's barrier: its calls; at this seat's numbers. (Prepared over a dijkstra.go of our own.) -/
import Derived.Test.YtdgkgcfnddmofaaGreatDoorBrA
namespace Go.Proofs.YtdgkgcfnddmofaaGreatDoor
open Go Go.RowKit Go.Shelf
set_option linter.unusedSimpArgs false
set_option linter.unusedVariables false
attribute [local go_sem] Oper.semAt_some

theorem dj_new (tm : Nat) (w : World) : Calls Tryz.prog 12 #[.pointer (some ⟨tm, 0, none⟩)] w fun e w' => e = .returned (.pointer (some ⟨w.heap.size, 0, none⟩)) ∧ w.alloc (.cells (BrCells tm) 73) = w' := by
  go_enter Tryz.func12, Tryz.ntmps12
  go_wp2_with fail
  go_ret
  exact ⟨rfl, rfl⟩
theorem dj_pre (b : Nat) (x y : Int) (w : World) : Calls Tryz.prog 13 #[.pointer (some ⟨b, 0, none⟩), .int .i64 x, .int .i64 y] w fun e w' => e = .returned (.tuple #[]) ∧ w = w' := by
  go_enter Tryz.func13, Tryz.ntmps13
  go_wp2_with fail
  refine bodyPost_end (results_none rfl _ _ _) rfl ?_
  exact ⟨rfl, rfl⟩
theorem dj_remark (b : Nat) (w : World) : Calls Tryz.prog 15 #[.pointer (some ⟨b, 0, none⟩)] w fun e w' => e = .returned (.tuple #[]) ∧ w = w' := by
  go_enter Tryz.func15, Tryz.ntmps15
  go_wp2_with fail
  refine bodyPost_end (results_none rfl _ _ _) rfl ?_
  exact ⟨rfl, rfl⟩
theorem dj_reset (b : Nat) (w : World) : Calls Tryz.prog 16 #[.pointer (some ⟨b, 0, none⟩)] w fun e w' => e = .returned (.tuple #[]) ∧ w = w' := by
  go_enter Tryz.func16, Tryz.ntmps16
  go_wp2_with fail
  refine bodyPost_end (results_none rfl _ _ _) rfl ?_
  exact ⟨rfl, rfl⟩
theorem dj_rescans (b : Nat) (w : World) : Calls Tryz.prog 26 #[.pointer (some ⟨b, 0, none⟩)] w fun e w' => e = .returned (.bool true) ∧ w = w' := by
  go_enter Tryz.func26, Tryz.ntmps26
  go_wp2_with fail
  go_ret
  exact ⟨rfl, rfl⟩
section
variable {B mb n : Nat} {X : ArB} {s : ArS} {obs : List Ob} {vl : Value} {f : Int → Value} {adj : Int → List Int} {E E' : Nat → Prop} {T T' : MkB} {c c' : Col} {b tm : Nat} {wb wr w' : World}
/-- A write is told: what is written is shaded. -/
theorem dj_post (h : BrIn 73 B mb n X s obs vl f adj E T c b tm wb wr) (x o y : Int) (p q : Bool) (hy : y ∈ refsI obs ∨ y = 0) (hb : ∀ y ∈ refsI obs, 1 ≤ y ∧ y ≤ 2048) :
    Calls Tryz.prog 14 #[.pointer (some ⟨b, 0, none⟩), .agg #[.int .i64 x, .int .i64 o, .int .i64 y, .bool p, .bool q]] wr fun e w' =>
    e = .returned (.tuple #[]) ∧ ∃ T', BrIn 73 B mb n X s obs vl f adj E T' (c.shadeZ y) b tm wb w' ∧ ∀ k, E k → w'.heap[k]? = wr.heap[k]? := by
  have hB1 := (Below.refl wr.heap.size wr).alloc (Nat.le_refl _) (.cells #[.int .i64 x, .int .i64 o, .int .i64 y, .bool p, .bool q] 45)
  have hW := Blk.new wr #[.int .i64 x, .int .i64 o, .int .i64 y, .bool p, .bool q] 45
  have c1 := (h.ask hB1).cell
  have c2 := hW.cell 2
  simp only [List.getElem?_toArray, List.getElem?_cons_zero, List.getElem?_cons_succ] at c2
  have cC := (h.box (.cells #[.int .i64 x, .int .i64 o, .int .i64 y, .bool p, .bool q] 45)).drew.shade y hy hb
  clear hW
  go_enter Tryz.func14, Tryz.ntmps14
  go_wp2_with fail
  go_region_held3 (fun w' => w'.cell? ⟨b, 0, none⟩ = some (.pointer (some ⟨tm, 0, none⟩)) ∧ w'.cell? ⟨wr.heap.size, 2, none⟩ = some (.int .i64 y)) (first | exact hS9 | exact ⟨c1, c2⟩)
    (first
      | (go_at_call 10; refine cC.mono ?_; rintro e w2 ⟨qq, rfl, T', hS, hE⟩; have hS9 : w2.cell? ⟨b, 0, none⟩ = some (.pointer (some ⟨tm, 0, none⟩)) ∧ w2.cell? ⟨wr.heap.size, 2, none⟩ = some (.int .i64 y) := ⟨hS.cell, (World.cell?_of_block (a := ⟨wr.heap.size, 2, none⟩) (hE _ (.inl (.inr rfl)))).trans c2⟩))
  all_goals
    go_wp2_with fail
    refine bodyPost_end (results_none rfl _ _ _) rfl ?_
    exact ⟨rfl, T', hS.less (fun k e => .inl e), fun k e => (hE k (.inl (.inl e))).trans (hB1.block k (h.gm.ext k (.inl e)))⟩
end
end Go.Proofs.YtdgkgcfnddmofaaGreatDoor
