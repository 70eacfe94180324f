/- Package size's functions at this seat's numbers, over the table of the classes' words. -/
import Derived.Test.YtbahichdoafliabDoorProg
import Derived.Test.YtbahichdoafliabDoorHeap
import Derived.WalkKit
import Derived.Outline
import Derived.Below
import Derived.Laws.Rows
import Derived.Lib.Hide
import Derived.Deep.QuietTactic
import Derived.BigQuiet
import Derived.IntWalk
import Derived.KernelRfl
namespace Go.Proofs.YtbahichdoafliabDoor
open Go Go.RowKit

/-- The table of the classes' words. -/
abbrev wordsRow : Array Value := #[.int .i64 2, .int .i64 4, .int .i64 8]
def TableAt (w : World) : Prop := ∃ T fr, w.heap[(0 : Nat)]? = some (.cells wordsRow T fr)
theorem TableAt.cell {w : World} (h : TableAt w) (j : Nat) : w.cell? ⟨0, j, none⟩ = wordsRow[j]? := by
  obtain ⟨T, fr, h⟩ := h
  simp [World.cell?, h]

/-- How many words a cell of a class has; 0: there is none. -/
def wordsOf (c : Int) : Int := if c = 0 then 2 else if c = 1 then 4 else if c = 2 then 8 else 0
def cellsOfC (c : Int) : Int := if c = 0 then 16 else if c = 1 then 8 else if c = 2 then 4 else 0
def classOf (n : Int) : Int := if n ≤ 0 then 0 else if n ≤ 2 then 1 else 2

theorem ret_num {k : IntKind} {a b : Int} (h : a = b) : Ending.returned (.int k a) = .returned (.int k b) := by rw [h]
theorem words_cases (c : Int) : c = 0 ∨ c = 1 ∨ c = 2 ∨ (c < 0 ∨ 3 ≤ c) := by omega

set_option maxHeartbeats 400000 in
theorem words_any (c : Int) (w : World) (hT : TableAt w) : Calls Tryd.prog 11 #[.int .i64 c] w fun e w' => e = .returned (.int .i64 (wordsOf c)) ∧ w = w' := by
  have h0 := hT.cell 0
  have h1 := hT.cell 1
  have h2 := hT.cell 2
  simp at h0 h1 h2
  rcases words_cases c with rfl | rfl | rfl | h | h
  · go_enter Tryd.func11, Tryd.ntmps11
    go_wp2
    go_ret
    exact ⟨rfl, rfl⟩
  · go_enter Tryd.func11, Tryd.ntmps11
    go_wp2
    go_ret
    exact ⟨rfl, rfl⟩
  · go_enter Tryd.func11, Tryd.ntmps11
    go_wp2
    go_ret
    exact ⟨rfl, rfl⟩
  · have e : wordsOf c = 0 := by unfold wordsOf; rw [if_neg (by omega), if_neg (by omega), if_neg (by omega)]
    rw [e]; clear e
    go_enter Tryd.func11, Tryd.ntmps11
    go_wp2
    go_ret
    exact ⟨rfl, rfl⟩
  · have e : wordsOf c = 0 := by unfold wordsOf; rw [if_neg (by omega), if_neg (by omega), if_neg (by omega)]
    rw [e]; clear e
    have h' : ¬ c < 0 := by omega
    go_enter Tryd.func11, Tryd.ntmps11
    go_wp2
    go_ret
    exact ⟨rfl, rfl⟩

theorem cells_words (c : Int) : wordsOf c = 0 ∧ cellsOfC c = 0 ∨ (wordsOf c = 2 ∧ cellsOfC c = 16 ∨ wordsOf c = 4 ∧ cellsOfC c = 8 ∨ wordsOf c = 8 ∧ cellsOfC c = 4) := by
  unfold wordsOf cellsOfC
  rcases words_cases c with rfl | rfl | rfl | h
  · simp
  · simp
  · simp
  · left
    constructor
    · rw [if_neg (by omega), if_neg (by omega), if_neg (by omega)]
    · rw [if_neg (by omega), if_neg (by omega), if_neg (by omega)]

set_option maxHeartbeats 400000 in
theorem cells_any (c : Int) (w : World) (hT : TableAt w) : Calls Tryd.prog 12 #[.int .i64 c] w fun e w' => e = .returned (.int .i64 (cellsOfC c)) ∧ w = w' := by
  have cW := words_any c w hT
  rcases cells_words c with ⟨h1, h2⟩ | ⟨h1, h2⟩ | ⟨h1, h2⟩ | ⟨h1, h2⟩
  all_goals
    rw [h1] at cW
    rw [h2]
    clear h1 h2
    go_enter Tryd.func12, Tryd.ntmps12
    go_wp2_with fail
    refine cW.mono ?_
    rintro e w' ⟨rfl, rfl⟩
    go_wp2_with fail
    go_ret
    exact ⟨rfl, rfl⟩

theorem index0 (w : World) : (Instr.index 30 (.agg wordsRow) (.int .i64 0)).run Tryd.prog w = .ok (.int .i64 2) w := by kernel_rfl
theorem index1 (w : World) : (Instr.index 30 (.agg wordsRow) (.int .i64 1)).run Tryd.prog w = .ok (.int .i64 4) w := by kernel_rfl
theorem index2 (w : World) : (Instr.index 30 (.agg wordsRow) (.int .i64 2)).run Tryd.prog w = .ok (.int .i64 8) w := by kernel_rfl

theorem class_no (n : Int) (w : World) (h : n < 0 ∨ 6 < n) : Calls Tryd.prog 10 #[.int .i64 n] w fun e w' => e = .returned (.tuple #[.int .i64 0, .bool false]) ∧ w = w' := by
  rcases h with h | h
  · go_enter Tryd.func10, Tryd.ntmps10
    go_wp2
    go_ret2
    exact ⟨rfl, rfl⟩
  · have h' : ¬ n < 0 := by omega
    go_enter Tryd.func10, Tryd.ntmps10
    go_wp2
    go_ret2
    exact ⟨rfl, rfl⟩

set_option maxHeartbeats 1000000 in
theorem class_yes (n : Int) (w : World) (hT : TableAt w) (h0 : 0 ≤ n) (h6 : n ≤ 6) : Calls Tryd.prog 10 #[.int .i64 n] w fun e w' => e = .returned (.tuple #[.int .i64 (classOf n), .bool true]) ∧ w = w' := by
  obtain ⟨T, fr, hT⟩ := hT
  obtain ⟨m, hm⟩ : ∃ m, m = classOf n := ⟨_, rfl⟩
  rw [← hm]
  have HM : Hid (m = classOf n) := hm
  clear hm
  have i0 := index0
  have i1 := index1
  have i2 := index2
  go_enter Tryd.func10, Tryd.ntmps10
  go_wp2_with (refine wpList_load_row rfl 30 _ rfl 0 rfl T wordsRow fr _ hT Tryd.underlying30 rfl (by kernel_rfl) ?_)
  clear hT
  go_loop [13] (fun c => ∃ k : Nat, k ≤ 3 ∧ c = .int .i64 (k : Int) ∧ (0 < k → 1 ≤ n) ∧ (1 < k → 3 ≤ n) ∧ k < 3) (fun c => 3 - (intOf c).toNat)
  case atStart => exact ⟨0, by omega, rfl, by omega, by omega, by omega⟩
  case round =>
    obtain ⟨k, hk, rfl, g1, g2, g3⟩ := hrel
    have hkk : k = 0 ∨ k = 1 ∨ k = 2 := by omega
    rcases hkk with rfl | rfl | rfl
    · clear g1 g2 g3 hk
      by_cases hn : n ≤ 0
      · obtain rfl : m = 0 := by rw [HM.out]; unfold classOf; rw [if_pos hn]
        go_wp2
        go_ret2
        exact ⟨rfl, rfl⟩
      · go_wp2
        go_round
        case rel => exact ⟨1, by omega, rfl, by omega, by omega, by omega⟩
        case measure => simp [intOf]
    · replace g1 := g1 (by omega)
      clear g2 g3 hk
      by_cases hn : n ≤ 2
      · obtain rfl : m = 1 := by rw [HM.out]; unfold classOf; rw [if_neg (by omega), if_pos hn]
        go_wp2
        go_ret2
        exact ⟨rfl, rfl⟩
      · go_wp2
        go_round
        case rel => exact ⟨2, by omega, rfl, by omega, by omega, by omega⟩
        case measure => simp [intOf]
    · replace g1 := g1 (by omega)
      replace g2 := g2 (by omega)
      clear g3 hk
      obtain rfl : m = 2 := by rw [HM.out]; unfold classOf; rw [if_neg (by omega), if_neg (by omega)]
      go_wp2
      go_ret2
      exact ⟨rfl, rfl⟩

set_option maxHeartbeats 400000 in
theorem offset_yes (c k : Int) (w : World) (hT : TableAt w) (h0 : 0 ≤ k) (h1 : k < cellsOfC c) : Calls Tryd.prog 13 #[.int .i64 c, .int .i64 k] w fun e w' => e = .returned (.tuple #[.int .i64 (k * wordsOf c), .bool true]) ∧ w = w' := by
  have cW := words_any c w hT
  have cC := cells_any c w hT
  rcases cells_words c with ⟨e1, e2⟩ | ⟨e1, e2⟩ | ⟨e1, e2⟩ | ⟨e1, e2⟩
  · omega
  all_goals
    rw [e1] at cW
    rw [e2] at cC h1
    rw [e1]
    clear e1 e2
    go_enter Tryd.func13, Tryd.ntmps13
    go_wp2_with fail
    refine cC.mono ?_
    rintro e w' ⟨rfl, rfl⟩
    go_wp2_with fail
    refine cW.mono ?_
    rintro e w' ⟨rfl, rfl⟩
    go_wp2_with fail
    go_ret2
    exact ⟨rfl, rfl⟩

theorem offset_no (c k : Int) (w : World) (hT : TableAt w) (h : k < 0 ∨ cellsOfC c ≤ k) : Calls Tryd.prog 13 #[.int .i64 c, .int .i64 k] w fun e w' => e = .returned (.tuple #[.int .i64 0, .bool false]) ∧ w = w' := by
  have cC := cells_any c w hT
  generalize cellsOfC c = C at *
  by_cases hk : k < 0
  · clear cC
    go_enter Tryd.func13, Tryd.ntmps13
    go_wp2
    go_ret2
    exact ⟨rfl, rfl⟩
  · have hC : C ≤ k := by omega
    clear h
    go_enter Tryd.func13, Tryd.ntmps13
    go_wp2_with fail
    refine cC.mono ?_
    rintro e w' ⟨rfl, rfl⟩
    go_wp2_with fail
    go_ret2
    exact ⟨rfl, rfl⟩

/-- Does a cell begin there? -/
def begins (c o : Int) : Bool := decide (0 < wordsOf c) && (decide (0 ≤ o) && (decide (o < 32) && decide (o % wordsOf c = 0)))

theorem TableAt.drewN {w : World} (h : TableAt w) (n : Nat) : TableAt (w.drewN n) := h
theorem drawn_below {w : World} (n : Nat) : Below w.heap.size w (w.drewN n) := ⟨rfl, rfl, rfl, Nat.le_refl _, fun _ _ => rfl⟩

theorem cell_yes (c o : Int) (w : World) (hT : TableAt w) (h : begins c o = true) : Calls Tryd.prog 14 #[.int .i64 c, .int .i64 o] w fun e w' => e = .returned (.tuple #[.int .i64 (o / wordsOf c), .bool true]) ∧ ∃ n, w' = w.drewN n := by
  have cW := words_any c w hT
  have cC := fun n => cells_any c (w.drewN n) (hT.drewN n)
  simp only [begins, Bool.and_eq_true, decide_eq_true_eq] at h
  obtain ⟨h0, h1, h2, h3⟩ := h
  have hd : decide (o < 0) = false := by simp; omega
  rcases cells_words c with ⟨e1, e2⟩ | ⟨e1, e2⟩ | ⟨e1, e2⟩ | ⟨e1, e2⟩
  · omega
  all_goals
    rw [e1] at cW h3
    rw [e2] at cC
    rw [e1]
    clear e1 e2 h0
    go_enter Tryd.func14, Tryd.ntmps14
    go_wp2_with fail
    refine cW.mono ?_
    rintro e w' ⟨rfl, rfl⟩
    go_wp2_with fail
    clear cW
    first
      | (have hm : (o.tmod 8 != 0) = false := by (rw [Int.tmod_eq_emod_of_nonneg h1, h3]; rfl)
         have hw : IntKind.i64.wrap (o.tdiv 8) = o.tdiv 8 := by (rw [Int.tdiv_eq_ediv_of_nonneg h1]; exact IntWalk.i64_in _ (by omega))
         have hq : decide (4 ≤ o.tdiv 8) = false := by (rw [Int.tdiv_eq_ediv_of_nonneg h1]; simp; omega))
      | (have hm : (o.tmod 4 != 0) = false := by (rw [Int.tmod_eq_emod_of_nonneg h1, h3]; rfl)
         have hw : IntKind.i64.wrap (o.tdiv 4) = o.tdiv 4 := by (rw [Int.tdiv_eq_ediv_of_nonneg h1]; exact IntWalk.i64_in _ (by omega))
         have hq : decide (8 ≤ o.tdiv 4) = false := by (rw [Int.tdiv_eq_ediv_of_nonneg h1]; simp; omega))
      | (have hm : (o.tmod 2 != 0) = false := by (rw [Int.tmod_eq_emod_of_nonneg h1, h3]; rfl)
         have hw : IntKind.i64.wrap (o.tdiv 2) = o.tdiv 2 := by (rw [Int.tdiv_eq_ediv_of_nonneg h1]; exact IntWalk.i64_in _ (by omega))
         have hq : decide (16 ≤ o.tdiv 2) = false := by (rw [Int.tdiv_eq_ediv_of_nonneg h1]; simp; omega))
    go_quiet ((go_at_call 12; exact quiet_left (cC _)))
    clear hq hm hd hw
    go_wp2_with fail
    go_ret2
    exact ⟨rfl, _, rfl⟩

set_option maxHeartbeats 1000000 in
theorem cell_no (c o : Int) (w : World) (hT : TableAt w) (h : begins c o = false) (hlo : -9223372036854775808 ≤ o) (hhi : o ≤ 9223372036854775807) : Calls Tryd.prog 14 #[.int .i64 c, .int .i64 o] w fun e w' => e = .returned (.tuple #[.int .i64 0, .bool false]) ∧ ∃ n, w' = w.drewN n := by
  have cW := words_any c w hT
  have cC := fun n => cells_any c (w.drewN n) (hT.drewN n)
  have hh : wordsOf c = 0 ∨ o < 0 ∨ (0 ≤ o ∧ o % wordsOf c ≠ 0) ∨ (0 ≤ o ∧ o % wordsOf c = 0 ∧ 32 ≤ o) := by
    by_cases h1 : wordsOf c = 0
    · exact .inl h1
    by_cases h2 : o < 0
    · exact .inr (.inl h2)
    by_cases h3 : o % wordsOf c = 0
    · refine .inr (.inr (.inr ⟨by omega, h3, ?_⟩))
      have hp : 0 < wordsOf c := by rcases cells_words c with ⟨e, _⟩ | ⟨e, _⟩ | ⟨e, _⟩ | ⟨e, _⟩ <;> omega
      by_cases h4 : 32 ≤ o
      · exact h4
      · have hb : begins c o = true := by simp [begins, hp, h3]; omega
        rw [hb] at h; cases h
    · exact .inr (.inr (.inl ⟨by omega, h3⟩))
  clear h
  rcases cells_words c with ⟨e1, e2⟩ | he
  · rw [e1] at cW
    clear hh cC e1 e2
    go_enter Tryd.func14, Tryd.ntmps14
    go_wp2_with fail
    refine cW.mono ?_
    rintro e w' ⟨rfl, rfl⟩
    go_wp2_with fail
    go_quiet (fail)
    go_wp2_with fail
    go_ret2
    exact ⟨rfl, _, rfl⟩
  rcases hh with h0 | h0 | ⟨h0, h3⟩ | ⟨h0, h3, h32⟩
  · omega
  · have hd : decide (o < 0) = true := by simpa using h0
    rcases he with ⟨e1, e2⟩ | ⟨e1, e2⟩ | ⟨e1, e2⟩
    all_goals
      rw [e1] at cW
      clear e1 e2 cC h0
      go_enter Tryd.func14, Tryd.ntmps14
      go_wp2_with fail
      refine cW.mono ?_
      rintro e w' ⟨rfl, rfl⟩
      go_wp2_with fail
      go_quiet (fail)
      go_wp2_with fail
      go_ret2
      exact ⟨rfl, _, rfl⟩
  · have hd : decide (o < 0) = false := by simp; omega
    have h3' := h3
    rw [← Int.tmod_eq_emod_of_nonneg h0] at h3'
    rcases he with ⟨e1, e2⟩ | ⟨e1, e2⟩ | ⟨e1, e2⟩
    all_goals
      rw [e1] at cW h3'
      have hm := bne_iff_ne.2 h3'
      clear e1 e2 cC h0 h3 h3'
      go_enter Tryd.func14, Tryd.ntmps14
      go_wp2_with fail
      refine cW.mono ?_
      rintro e w' ⟨rfl, rfl⟩
      go_wp2_with fail
      go_quiet (fail)
      go_wp2_with fail
      go_ret2
      exact ⟨rfl, _, rfl⟩
  · have hd : decide (o < 0) = false := by simp; omega
    rw [← Int.tmod_eq_emod_of_nonneg h0] at h3
    rcases he with ⟨e1, e2⟩ | ⟨e1, e2⟩ | ⟨e1, e2⟩
    all_goals
      rw [e1] at cW h3
      rw [e2] at cC
      have hm : (o.tmod (wordsOf c) != 0) = false := by rw [e1, h3]; rfl
      have hw : IntKind.i64.wrap (o.tdiv (wordsOf c)) = o.tdiv (wordsOf c) := by rw [e1, Int.tdiv_eq_ediv_of_nonneg h0]; exact IntWalk.i64_in _ (by omega)
      have hq : decide (cellsOfC c ≤ o.tdiv (wordsOf c)) = true := by rw [e1, e2, Int.tdiv_eq_ediv_of_nonneg h0]; simp; omega
      rw [e1] at hm hw hq
      rw [e2] at hq
      clear e1 e2 h0 h3 h32
      go_enter Tryd.func14, Tryd.ntmps14
      go_wp2_with fail
      refine cW.mono ?_
      rintro e w' ⟨rfl, rfl⟩
      go_wp2_with fail
      go_quiet ((go_at_call 12; exact quiet_left (cC _)))
      clear hm hw hq hd
      go_wp2_with fail
      go_ret2
      exact ⟨rfl, _, rfl⟩
end Go.Proofs.YtbahichdoafliabDoor
