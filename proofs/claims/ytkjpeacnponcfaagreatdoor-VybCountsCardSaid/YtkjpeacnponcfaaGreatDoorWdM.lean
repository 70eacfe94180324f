/- Plain: cells of an arena don't overlap; words that a take clears, and that a set writes. It speaks of no program's text. -/
import Derived.Test.YtkjpeacnponcfaaGreatDoorUc
namespace Go.Proofs.YtkjpeacnponcfaaGreatDoor
open Go Go.RowKit
set_option linter.unusedSimpArgs false

theorem wN_cases {c : Int} (h : okC c = true) : wN c = 2 ∨ wN c = 4 ∨ wN c = 8 := by
  rcases okC_cases h with rfl | rfl | rfl
  · exact .inl rfl
  · exact .inr (.inl rfl)
  · exact .inr (.inr rfl)
/-- A cell lies in its page. -/
theorem cell_in {s : ArS} (hF : Fits s) {r : Nat} (h : s.S r = true) : (r - 1) % 32 + wN (s.cls (pg r)) ≤ 32 := by
  obtain ⟨a1, a2, a3, a4⟩ := hF.at_ r h
  rcases wN_cases a3 with e | e | e <;> rw [e] at a4 ⊢ <;> omega
/-- Two taken cells don't overlap. -/
theorem cells_apart {s : ArS} (hF : Fits s) {r r' : Nat} (h : s.S r = true) (h' : s.S r' = true) (hne : r ≠ r') : r + wN (s.cls (pg r)) ≤ r' ∨ r' + wN (s.cls (pg r')) ≤ r := by
  obtain ⟨a1, a2, a3, a4⟩ := hF.at_ r h
  obtain ⟨b1, b2, b3, b4⟩ := hF.at_ r' h'
  have i1 := cell_in hF h
  have i2 := cell_in hF h'
  by_cases e : pg r = pg r'
  · rw [e] at a4 i1 ⊢
    unfold pg at e
    rcases wN_cases b3 with x | x | x <;> rw [x] at a4 b4 i1 i2 ⊢ <;> omega
  · unfold pg at *
    rcases wN_cases a3 with x | x | x <;> rcases wN_cases b3 with y | y | y <;> simp only [x, y] at * <;> omega
end Go.Proofs.YtkjpeacnponcfaaGreatDoor
