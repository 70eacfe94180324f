/- seek, at this seat's numbers. -/
import Derived.Test.YtfipflghnhfcjaaArA
import Derived.WalkMore
import Derived.Deep.LoopGhost
namespace Go.Proofs.Ytfipflghnhfcjaa
open Go Go.RowKit Go.Shelf Go.MuLone Go.RwLone
set_option linter.unusedSimpArgs false
set_option linter.unusedVariables false

theorem free_next {s : ArS} {c : Int} {p k W C : Nat} (hW : wN c = W) (hCW : C * W = 32) (hk : k < C) (hW1 : W = 2 ∨ W = 4 ∨ W = 8) (h : ∀ r, r ≤ 32 * p + k * W → free1 s c r = false) (hS : s.S (32 * p + k * W + 1) = true) :
    ∀ r, r ≤ 32 * p + (k + 1) * W → free1 s c r = false := fun r hr => by
  by_cases h1 : r ≤ 32 * p + k * W
  · exact h r h1
  · cases e : free1 s c r with
    | false => rfl
    | true =>
      obtain ⟨a1, a2, a3, a4, a5⟩ := free1_open e
      rw [hW] at a4
      have : r = 32 * p + k * W + 1 := by
        rcases hW1 with rfl | rfl | rfl <;> omega
      rw [this, hS] at a5; cases a5
theorem free_cell {s : ArS} {c : Int} {p k W C : Nat} (hW : wN c = W) (hCW : C * W = 32) (hk : k < C) (hW1 : W = 2 ∨ W = 4 ∨ W = 8) (hp : p < s.P) (hc : s.cls p = c) (h : ∀ r, r ≤ 32 * p + k * W → free1 s c r = false) (hS : s.S (32 * p + k * W + 1) = false) :
    free1 s c (32 * p + k * W + 1) = true ∧ ∀ r, r < 32 * p + k * W + 1 → free1 s c r = false := by
  refine ⟨free1_mk (by omega) ?_ ?_ ?_ hS, fun r hr => h r (by omega)⟩
  · rcases hW1 with rfl | rfl | rfl <;> omega
  · rw [show pg (32 * p + k * W + 1) = p by unfold pg; rcases hW1 with rfl | rfl | rfl <;> omega]; exact hc
  · rw [hW]; rcases hW1 with rfl | rfl | rfl <;> omega
theorem free_other {s : ArS} {c : Int} {p : Nat} (hc : s.cls p ≠ c) (h : ∀ r, r ≤ 32 * p → free1 s c r = false) : ∀ r, r ≤ 32 * (p + 1) → free1 s c r = false := fun r hr => by
  by_cases h1 : r ≤ 32 * p
  · exact h r h1
  · cases e : free1 s c r with
    | false => rfl
    | true =>
      obtain ⟨a1, a2, a3, a4, a5⟩ := free1_open e
      rw [show pg r = p by unfold pg; omega] at a3
      exact absurd a3 hc

/-- Between two rounds over the pages. -/
def SeekO (s : ArS) (w : World) (c : Int) (v6 v18 : Value) (wr : World) : Prop :=
  ∃ p : Nat, p ≤ s.P ∧ v18 = .int .i64 (p : Int) ∧ v6 = .int .i64 ((spare s p : Nat) : Int) ∧ Below w.heap.size w wr ∧ ∀ r, r ≤ 32 * p → free1 s c r = false
/-- Between two rounds over a page's cells. -/
def SeekI (s : ArS) (w : World) (c : Int) (p W C : Nat) (v6 v25 : Value) (wr : World) : Prop :=
  ∃ k : Nat, k ≤ C ∧ v25 = .int .i64 (k : Int) ∧ v6 = .int .i64 ((spare s p : Nat) : Int) ∧ Below w.heap.size w wr ∧ ∀ r, r ≤ 32 * p + k * W → free1 s c r = false

theorem kW_le {k W C : Nat} (hCW : C * W = 32) (hW1 : W = 2 ∨ W = 4 ∨ W = 8) (hk : k < C) : k * W + W ≤ 32 := by
  rcases hW1 with rfl | rfl | rfl <;> omega
theorem SeekI.mk {s : ArS} {w w1 w2 : World} {c : Int} {p W C k : Nat} (x : Int) (hx : x = k) (hk : k ≤ C) (h1 : Below w.heap.size w w1) (h2 : Below w1.heap.size w1 w2) (hf : ∀ r, r ≤ 32 * p + k * W → free1 s c r = false) :
    SeekI s w c p W C (.int .i64 ((spare s p : Nat) : Int)) (.int .i64 x) w2 := ⟨k, hk, by rw [hx], rfl, below_step h1 h2, hf⟩
theorem SeekO.mk {s : ArS} {w w1 : World} {c : Int} {p : Nat} (x y : Int) (hx : x = p) (hy : y = (spare s p : Nat)) (hp : p ≤ s.P) (h1 : Below w.heap.size w w1) (hf : ∀ r, r ≤ 32 * p → free1 s c r = false) :
    SeekO s w c (.int .i64 y) (.int .i64 x) w1 := ⟨p, hp, by rw [hx], by rw [hy], h1, hf⟩
/-- What seek leaves: the Ref, and all that there was. -/
def SeekPost (s : ArS) (c : Int) (w : World) (e : Ending) (w' : World) : Prop :=
  e = .returned (.tuple #[.int .i64 ((seekF s c : Nat) : Int), .bool (((seekF s c : Nat) : Int) != 0)]) ∧ Below w.heap.size w w'
theorem seek_post {s : ArS} {c : Int} {w w1 : World} {r : Nat} {x : Int} {b : Bool} {e : Ending} (he : e = .returned (.tuple #[.int .i64 x, .bool b])) (hx : x = r) (hb : b = ((r : Int) != 0)) (h1 : Below w.heap.size w w1) (hr : seekF s c = r) :
    SeekPost s c w e w1 := by
  subst hx hb
  unfold SeekPost
  rw [hr]
  exact ⟨he, h1⟩
theorem spare_up {s : ArS} {p : Nat} (h : s.cls p ≠ -1 ∨ spare s p ≠ 0) : spare s (p + 1) = spare s p := by
  rw [spare_step, if_neg (by omega)]
theorem spare_at {s : ArS} {p : Nat} (h : s.cls p = -1) (h2 : spare s p = 0) : spare s (p + 1) = 32 * p + 1 := by
  rw [spare_step, if_pos ⟨h, h2⟩]
theorem not_eqb {a b : Int} (h : a ≠ b) : (a == b) = false := by simpa using h

end Go.Proofs.Ytfipflghnhfcjaa
