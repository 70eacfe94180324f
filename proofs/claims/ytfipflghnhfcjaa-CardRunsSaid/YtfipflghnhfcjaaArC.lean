/- seek at no class, Room, Free, hasWord, Word, Set, at this seat's numbers. -/
import Derived.Test.YtfipflghnhfcjaaArB
namespace Go.Proofs.Ytfipflghnhfcjaa
open Go Go.RowKit Go.Shelf Go.MuLone Go.RwLone
set_option linter.unusedSimpArgs false
set_option linter.unusedVariables false

theorem cells_none {c : Int} (h : okC c = false) : cellsOfC c = ((0 : Nat) : Int) := by
  have : c < 0 ∨ 2 < c := by simp [okC] at h; omega
  unfold cellsOfC
  rw [if_neg (by omega), if_neg (by omega), if_neg (by omega)]; rfl

section
variable {w : World} {X : ArB} {s : ArS}

/-- How many of the first pages are free. -/
def freeTo (s : ArS) (p : Nat) : Nat := (List.range p).countP fun q => s.cls q == -1
theorem freeTo_succ (s : ArS) (p : Nat) : freeTo s (p + 1) = freeTo s p + if s.cls p = -1 then 1 else 0 := by
  unfold freeTo
  rw [List.range_succ, List.countP_append]
  by_cases h : s.cls p = -1 <;> simp [h]
theorem freeTo_le (s : ArS) (p : Nat) : freeTo s p ≤ p := by
  unfold freeTo
  have := List.countP_le_length (p := fun q => s.cls q == -1) (l := List.range p)
  simpa using this

/-- Has the arena a word i of a cell r? -/
def hasWd (s : ArS) (r i : Int) : Bool := inS s.S r && (decide (0 ≤ i) && decide (i < wordsOf (s.cls (pg r.toNat))))

end
end Go.Proofs.Ytfipflghnhfcjaa
