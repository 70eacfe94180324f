/- The phases' machine in memory: one block of fourteen cells; its questions; at this seat's numbers. -/
import Derived.Test.YtacnikibmhlmiaaPhM
import Derived.Test.YtacnikibmhlmiaaProg
import Derived.WalkKit
import Derived.IntWalk
import Derived.Lib.Hide
import Derived.Deep.LoopGhost
import Derived.Deep.RegionHeld3
import Derived.WalkSmall
import Derived.OwnWalk
namespace Go.Proofs.Ytacnikibmhlmiaa
open Go Go.RowKit
set_option linter.unusedSimpArgs false
set_option linter.unusedVariables false
attribute [local go_sem] Oper.semAt_some

def phCells (S : Phs) : Array Value := #[.int .i64 (S.now : Int), .int .i64 (S.rounds : Int), .bool (S.l 0), .bool (S.a 0), .bool (S.k 0), .bool (S.l 1), .bool (S.a 1), .bool (S.k 1), .bool (S.l 2), .bool (S.a 2), .bool (S.k 2), .bool (S.l 3), .bool (S.a 3), .bool (S.k 3)]
def PhAt (w : World) (p : Nat) (S : Phs) : Prop := Blk w p (phCells S) 46
section
variable {w w' : World} {p : Nat} {S : Phs}
theorem PhAt.lt (h : PhAt w p S) : p < w.heap.size := Blk.lt h
theorem PhAt.turn {M : Nat → Prop} (h : PhAt w p S) (hT : Turn M w w') (hn : ¬ M p) : PhAt w' p S := Blk.turn h hT hn
theorem PhAt.c0 (h : PhAt w p S) : w.cell? ⟨p, 0, none⟩ = some (.int .i64 (S.now : Int)) := Blk.cell h 0
theorem PhAt.c1 (h : PhAt w p S) : w.cell? ⟨p, 1, none⟩ = some (.int .i64 (S.rounds : Int)) := Blk.cell h 1
theorem phNew (w : World) : Calls Try.prog 10 #[] w fun e w' =>
    e = .returned (.pointer (some ⟨w.heap.size, 0, none⟩)) ∧ PhAt w' w.heap.size Phs.init ∧ Below w.heap.size w w' := by
  go_enter Try.func10, Try.ntmps10
  go_wp2_with fail
  go_ret
  exact ⟨rfl, Blk.new w _ _, (Below.refl _ w).alloc (Nat.le_refl _) _⟩
theorem PhAt.nowC (h : PhAt w p S) : Calls Try.prog 13 #[.pointer (some ⟨p, 0, none⟩)] w fun e w' => e = .returned (.int .i64 (S.now : Int)) ∧ w = w' := by
  have c0 := h.c0
  go_enter Try.func13, Try.ntmps13
  go_wp2_with fail
  go_ret
  exact ⟨rfl, rfl⟩
theorem PhAt.roundsC (h : PhAt w p S) : Calls Try.prog 14 #[.pointer (some ⟨p, 0, none⟩)] w fun e w' => e = .returned (.int .i64 (S.rounds : Int)) ∧ w = w' := by
  have c1 := h.c1
  go_enter Try.func14, Try.ntmps14
  go_wp2_with fail
  go_ret
  exact ⟨rfl, rfl⟩
theorem hasNumberC (t : Int) (h0 : 0 ≤ t) (h4 : t < 4) (w : World) : Calls Try.prog 25 #[.int .i64 t] w fun e w' => e = .returned (.bool true) ∧ w = w' := by
  go_enter Try.func25, Try.ntmps25
  go_wp2_with fail
  go_ret
  exact ⟨rfl, rfl⟩
theorem hasNumberN (t : Int) (h : t < 0 ∨ 4 ≤ t) (w : World) : Calls Try.prog 25 #[.int .i64 t] w fun e w' => e = .returned (.bool false) ∧ w = w' := by
  rcases h with h | h
  · have h1 : ¬ 0 ≤ t := by omega
    go_enter Try.func25, Try.ntmps25
    go_wp2_with fail
    go_ret
    exact ⟨rfl, rfl⟩
  · have h1 : 0 ≤ t := by omega
    have h2 : ¬ t < 4 := by omega
    go_enter Try.func25, Try.ntmps25
    go_wp2_with fail
    go_ret
    exact ⟨rfl, rfl⟩
theorem PhAt.asksC (h : PhAt w p S) : Calls Try.prog 26 #[.pointer (some ⟨p, 0, none⟩)] w fun e w' => e = .returned (.bool S.asks) ∧ w = w' := by
  have c0 := h.c0
  by_cases h1 : S.now = 1
  · rw [Phs.asks_yes (.inl h1)]
    rw [h1] at c0
    clear h1 h
    go_enter Try.func26, Try.ntmps26
    go_wp2_with fail
    go_ret
    exact ⟨rfl, rfl⟩
  · by_cases h2 : S.now = 2
    · rw [Phs.asks_yes (.inr h2)]
      rw [h2] at c0
      clear h1 h2 h
      go_enter Try.func26, Try.ntmps26
      go_wp2_with fail
      go_ret
      exact ⟨rfl, rfl⟩
    · rw [Phs.asks_no h1 h2]
      have e1 : ((S.now : Int) == 1) = false := by simp; omega
      have e2 : ((S.now : Int) == 2) = false := by simp; omega
      generalize (S.now : Int) = n at *
      clear h1 h2 h
      go_enter Try.func26, Try.ntmps26
      go_wp2_with fail
      go_ret
      exact ⟨rfl, rfl⟩
theorem PhAt.cL (h : PhAt w p S) {t : Nat} (ht : t < 4) : w.cell? ⟨p, 2 + t * 3, none⟩ = some (.bool (S.l t)) := by
  obtain rfl | rfl | rfl | rfl : t = 0 ∨ t = 1 ∨ t = 2 ∨ t = 3 := by omega
  all_goals exact Blk.cell h _
theorem PhAt.cA (h : PhAt w p S) {t : Nat} (ht : t < 4) : w.cell? ⟨p, 2 + t * 3 + 1, none⟩ = some (.bool (S.a t)) := by
  obtain rfl | rfl | rfl | rfl : t = 0 ∨ t = 1 ∨ t = 2 ∨ t = 3 := by omega
  all_goals exact Blk.cell h _
theorem PhAt.cK (h : PhAt w p S) {t : Nat} (ht : t < 4) : w.cell? ⟨p, 2 + t * 3 + 2, none⟩ = some (.bool (S.k t)) := by
  obtain rfl | rfl | rfl | rfl : t = 0 ∨ t = 1 ∨ t = 2 ∨ t = 3 := by omega
  all_goals exact Blk.cell h _
theorem PhAt.armedC (h : PhAt w p S) {t : Nat} (ht : t < 4) : Calls Try.prog 15 #[.pointer (some ⟨p, 0, none⟩), .int .i64 (t : Int)] w fun e w' => e = .returned (.bool (S.a t)) ∧ w = w' := by
  have c0 := h.cA ht
  have h1 : (t : Int) < 4 := by omega
  have h0 : (0 : Int) ≤ (t : Int) := by omega
  clear h
  go_enter Try.func15, Try.ntmps15
  go_wp2_with fail
  refine (hasNumberC _ h0 h1 _).mono ?_
  rintro e w1 ⟨rfl, rfl⟩
  go_wp2_with fail
  go_ret
  exact ⟨rfl, rfl⟩
end
end Go.Proofs.Ytacnikibmhlmiaa
