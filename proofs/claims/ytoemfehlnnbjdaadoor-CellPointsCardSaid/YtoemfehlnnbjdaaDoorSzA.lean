/- Some of package size's functions (Words, Cells, Offset) at this seat's numbers, over the table of the classes' words. -/
import Derived.Test.YtoemfehlnnbjdaaDoorProg
import Derived.Test.YtoemfehlnnbjdaaDoorHeap
import Derived.WalkKit
import Derived.Outline
import Derived.Below
import Derived.Laws.Rows
import Derived.Lib.Hide
import Derived.Deep.QuietTactic
import Derived.BigQuiet
import Derived.IntWalk
import Derived.KernelRfl
namespace Go.Proofs.YtoemfehlnnbjdaaDoor
open Go Go.RowKit

/-- The table of the classes' words. -/
abbrev wordsRow : Array Value := #[.int .i64 2, .int .i64 4, .int .i64 8]
def TableAt (w : World) : Prop := ∃ T fr, w.heap[(0 : Nat)]? = some (.cells wordsRow T fr)
theorem TableAt.cell {w : World} (h : TableAt w) (j : Nat) : w.cell? ⟨0, j, none⟩ = wordsRow[j]? := by
  obtain ⟨T, fr, h⟩ := h
  simp [World.cell?, h]

/-- How many words a cell of a class has; 0: there is none. -/
def wordsOf (c : Int) : Int := if c = 0 then 2 else if c = 1 then 4 else if c = 2 then 8 else 0
def cellsOfC (c : Int) : Int := if c = 0 then 16 else if c = 1 then 8 else if c = 2 then 4 else 0

theorem ret_num {k : IntKind} {a b : Int} (h : a = b) : Ending.returned (.int k a) = .returned (.int k b) := by rw [h]
theorem words_cases (c : Int) : c = 0 ∨ c = 1 ∨ c = 2 ∨ (c < 0 ∨ 3 ≤ c) := by omega

set_option maxHeartbeats 400000 in
theorem wordsC_any (c : Int) (w : World) (hT : TableAt w) : Calls Tryd.prog 56 #[.int .i64 c] w fun e w' => e = .returned (.int .i64 (wordsOf c)) ∧ w = w' := by
  have h0 := hT.cell 0
  have h1 := hT.cell 1
  have h2 := hT.cell 2
  simp at h0 h1 h2
  rcases words_cases c with rfl | rfl | rfl | h | h
  · go_enter Tryd.func56, Tryd.ntmps56
    go_wp2
    go_ret
    exact ⟨rfl, rfl⟩
  · go_enter Tryd.func56, Tryd.ntmps56
    go_wp2
    go_ret
    exact ⟨rfl, rfl⟩
  · go_enter Tryd.func56, Tryd.ntmps56
    go_wp2
    go_ret
    exact ⟨rfl, rfl⟩
  · have e : wordsOf c = 0 := by unfold wordsOf; rw [if_neg (by omega), if_neg (by omega), if_neg (by omega)]
    rw [e]; clear e
    go_enter Tryd.func56, Tryd.ntmps56
    go_wp2
    go_ret
    exact ⟨rfl, rfl⟩
  · have e : wordsOf c = 0 := by unfold wordsOf; rw [if_neg (by omega), if_neg (by omega), if_neg (by omega)]
    rw [e]; clear e
    have h' : ¬ c < 0 := by omega
    go_enter Tryd.func56, Tryd.ntmps56
    go_wp2
    go_ret
    exact ⟨rfl, rfl⟩

theorem cells_words (c : Int) : wordsOf c = 0 ∧ cellsOfC c = 0 ∨ (wordsOf c = 2 ∧ cellsOfC c = 16 ∨ wordsOf c = 4 ∧ cellsOfC c = 8 ∨ wordsOf c = 8 ∧ cellsOfC c = 4) := by
  unfold wordsOf cellsOfC
  rcases words_cases c with rfl | rfl | rfl | h
  · simp
  · simp
  · simp
  · left
    constructor
    · rw [if_neg (by omega), if_neg (by omega), if_neg (by omega)]
    · rw [if_neg (by omega), if_neg (by omega), if_neg (by omega)]

set_option maxHeartbeats 400000 in
theorem cellsC_any (c : Int) (w : World) (hT : TableAt w) : Calls Tryd.prog 90 #[.int .i64 c] w fun e w' => e = .returned (.int .i64 (cellsOfC c)) ∧ w = w' := by
  have cW := wordsC_any c w hT
  rcases cells_words c with ⟨h1, h2⟩ | ⟨h1, h2⟩ | ⟨h1, h2⟩ | ⟨h1, h2⟩
  all_goals
    rw [h1] at cW
    rw [h2]
    clear h1 h2
    go_enter Tryd.func90, Tryd.ntmps90
    go_wp2_with fail
    refine cW.mono ?_
    rintro e w' ⟨rfl, rfl⟩
    go_wp2_with fail
    go_ret
    exact ⟨rfl, rfl⟩

set_option maxHeartbeats 400000 in
theorem offset_yes (c k : Int) (w : World) (hT : TableAt w) (h0 : 0 ≤ k) (h1 : k < cellsOfC c) : Calls Tryd.prog 91 #[.int .i64 c, .int .i64 k] w fun e w' => e = .returned (.tuple #[.int .i64 (k * wordsOf c), .bool true]) ∧ w = w' := by
  have cW := wordsC_any c w hT
  have cC := cellsC_any c w hT
  rcases cells_words c with ⟨e1, e2⟩ | ⟨e1, e2⟩ | ⟨e1, e2⟩ | ⟨e1, e2⟩
  · omega
  all_goals
    rw [e1] at cW
    rw [e2] at cC h1
    rw [e1]
    clear e1 e2
    go_enter Tryd.func91, Tryd.ntmps91
    go_wp2_with fail
    refine cC.mono ?_
    rintro e w' ⟨rfl, rfl⟩
    go_wp2_with fail
    refine cW.mono ?_
    rintro e w' ⟨rfl, rfl⟩
    go_wp2_with fail
    go_ret2
    exact ⟨rfl, rfl⟩

theorem offset_no (c k : Int) (w : World) (hT : TableAt w) (h : k < 0 ∨ cellsOfC c ≤ k) : Calls Tryd.prog 91 #[.int .i64 c, .int .i64 k] w fun e w' => e = .returned (.tuple #[.int .i64 0, .bool false]) ∧ w = w' := by
  have cC := cellsC_any c w hT
  generalize cellsOfC c = C at *
  by_cases hk : k < 0
  · clear cC
    go_enter Tryd.func91, Tryd.ntmps91
    go_wp2
    go_ret2
    exact ⟨rfl, rfl⟩
  · have hC : C ≤ k := by omega
    clear h
    go_enter Tryd.func91, Tryd.ntmps91
    go_wp2_with fail
    refine cC.mono ?_
    rintro e w' ⟨rfl, rfl⟩
    go_wp2_with fail
    go_ret2
    exact ⟨rfl, rfl⟩

theorem TableAt.drewN {w : World} (h : TableAt w) (n : Nat) : TableAt (w.drewN n) := h
end Go.Proofs.YtoemfehlnnbjdaaDoor
