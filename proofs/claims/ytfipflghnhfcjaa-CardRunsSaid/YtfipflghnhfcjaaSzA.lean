/- Some of package size's functions (Words, Cells, Offset) at this seat's numbers, over the table of the classes' words. -/
import Derived.Test.YtfipflghnhfcjaaProg
import Derived.Test.YtfipflghnhfcjaaHeap
import Derived.WalkKit
import Derived.Outline
import Derived.Below
import Derived.Laws.Rows
import Derived.Lib.Hide
import Derived.Deep.QuietTactic
import Derived.BigQuiet
import Derived.IntWalk
import Derived.KernelRfl
namespace Go.Proofs.Ytfipflghnhfcjaa
open Go Go.RowKit

/-- The table of the classes' words. -/
abbrev wordsRow : Array Value := #[.int .i64 2, .int .i64 4, .int .i64 8]
/-- How many words a cell of a class has; 0: there is none. -/
def wordsOf (c : Int) : Int := if c = 0 then 2 else if c = 1 then 4 else if c = 2 then 8 else 0
def cellsOfC (c : Int) : Int := if c = 0 then 16 else if c = 1 then 8 else if c = 2 then 4 else 0

theorem ret_num {k : IntKind} {a b : Int} (h : a = b) : Ending.returned (.int k a) = .returned (.int k b) := by rw [h]
theorem words_cases (c : Int) : c = 0 ∨ c = 1 ∨ c = 2 ∨ (c < 0 ∨ 3 ≤ c) := by omega

theorem cells_words (c : Int) : wordsOf c = 0 ∧ cellsOfC c = 0 ∨ (wordsOf c = 2 ∧ cellsOfC c = 16 ∨ wordsOf c = 4 ∧ cellsOfC c = 8 ∨ wordsOf c = 8 ∧ cellsOfC c = 4) := by
  unfold wordsOf cellsOfC
  rcases words_cases c with rfl | rfl | rfl | h
  · simp
  · simp
  · simp
  · left
    constructor
    · rw [if_neg (by omega), if_neg (by omega), if_neg (by omega)]
    · rw [if_neg (by omega), if_neg (by omega), if_neg (by omega)]

end Go.Proofs.Ytfipflghnhfcjaa
