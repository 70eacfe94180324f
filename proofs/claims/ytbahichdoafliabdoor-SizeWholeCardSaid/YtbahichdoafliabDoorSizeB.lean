/- The laws of package size, walked at this seat's numbers: SizeClasses. -/
import Derived.Test.YtbahichdoafliabDoorSizeA
namespace Go.Proofs.YtbahichdoafliabDoor
open Go Go.RowKit

theorem words_at (c v : Int) (w : World) (hT : TableAt w) (h : wordsOf c = v) : Calls Tryd.prog 11 #[.int .i64 c] w fun e w' => e = .returned (.int .i64 v) ∧ w = w' := by
  have := words_any c w hT
  rw [h] at this; exact this
theorem cells_at (c v : Int) (w : World) (hT : TableAt w) (h : cellsOfC c = v) : Calls Tryd.prog 12 #[.int .i64 c] w fun e w' => e = .returned (.int .i64 v) ∧ w = w' := by
  have := cells_any c w hT
  rw [h] at this; exact this
theorem class_at (n v : Int) (w : World) (hT : TableAt w) (h0 : 0 ≤ n) (h6 : n ≤ 6) (h : classOf n = v) : Calls Tryd.prog 10 #[.int .i64 n] w fun e w' => e = .returned (.tuple #[.int .i64 v, .bool true]) ∧ w = w' := by
  have := class_yes n w hT h0 h6
  rw [h] at this; exact this
theorem offset_at (c k v : Int) (w : World) (hT : TableAt w) (h0 : 0 ≤ k) (h1 : k < cellsOfC c) (h : k * wordsOf c = v) : Calls Tryd.prog 13 #[.int .i64 c, .int .i64 k] w fun e w' => e = .returned (.tuple #[.int .i64 v, .bool true]) ∧ w = w' := by
  have := offset_yes c k w hT h0 h1
  rw [h] at this; exact this
theorem cell_at (c o v : Int) (w : World) (hT : TableAt w) (hb : begins c o = true) (h : o / wordsOf c = v) : Calls Tryd.prog 14 #[.int .i64 c, .int .i64 o] w fun e w' => e = .returned (.tuple #[.int .i64 v, .bool true]) ∧ ∃ n, w' = w.drewN n := by
  have := cell_yes c o w hT hb
  rw [h] at this; exact this

theorem fit_true (w : World) (hT : TableAt w) : Calls Tryd.prog 9 #[] w fun e w' => e = .returned (.bool true) ∧ w = w' := by
  go_enter Tryd.func9, Tryd.ntmps9
  go_wp2_with fail
  refine (class_at 2 1 w hT (by decide) (by decide) rfl).mono ?_
  rintro e w' ⟨rfl, rfl⟩
  go_wp2_with fail
  refine (words_at 1 4 w hT rfl).mono ?_
  rintro e w' ⟨rfl, rfl⟩
  go_wp2_with fail
  refine (cells_at 1 8 w hT rfl).mono ?_
  rintro e w' ⟨rfl, rfl⟩
  go_wp2_with fail
  go_ret
  exact ⟨rfl, rfl⟩

set_option maxHeartbeats 1000000 in
theorem classes_true (n : Int) (w : World) (hT : TableAt w) : Calls Tryd.prog 3 #[.int .i64 n] w fun e w' => e = .returned (.bool true) ∧ Below w.heap.size w w' := by
  have hcase : (n < 0 ∨ 6 < n) ∨ (n = 0 ∨ n = 1 ∨ n = 2 ∨ n = 3 ∨ n = 4 ∨ n = 5 ∨ n = 6) := by omega
  rcases hcase with h | h
  · have hd : (decide (n < 0) || decide (6 < n)) = true := by simpa using h
    go_enter Tryd.func3, Tryd.ntmps3
    go_wp2_with fail
    refine (fit_true w hT).mono ?_
    rintro e w' ⟨rfl, rfl⟩
    go_wp2_with fail
    refine (class_no n w h).mono ?_
    rintro e w' ⟨rfl, rfl⟩
    rcases h with h | h
    · go_wp2_with fail
      go_ret
      exact ⟨rfl, Below.refl _ _⟩
    · have h' : ¬ n < 0 := by omega
      clear hd
      go_wp2_with fail
      go_ret
      exact ⟨rfl, Below.refl _ _⟩
  · have hx : ∃ c v u : Int, classOf n = c ∧ wordsOf c = v ∧ wordsOf (c - 1) = u ∧ 0 ≤ n ∧ n ≤ 6 ∧ 2 + n ≤ v ∧ (c = 0 ∨ c ≠ 0 ∧ u < 2 + n) ∧ 0 ≤ c ∧ c ≤ 2 := by
      rcases h with rfl | rfl | rfl | rfl | rfl | rfl | rfl <;> exact ⟨_, _, _, rfl, rfl, rfl, by decide, by decide, by decide, by decide, by decide, by decide⟩
    clear h
    obtain ⟨c, v, u, e1, e2, e3, h0, h6, h1, h2, hc0, hc2⟩ := hx
    have c1 := class_at n c w hT h0 h6 e1
    have c2 := words_at c v w hT e2
    have c3 := words_at (c - 1) u w hT e3
    clear e1 e2 e3
    have hf := fit_true w hT
    have hle : decide (2 + n ≤ v) = true := by simpa using h1
    go_enter Tryd.func3, Tryd.ntmps3
    go_wp2_with fail
    refine hf.mono ?_
    rintro e w' ⟨rfl, rfl⟩
    go_wp2_with fail
    refine c1.mono ?_
    rintro e w' ⟨rfl, rfl⟩
    have hd : ¬ n < 0 := by omega
    have hd2 : ¬ 6 < n := by omega
    go_wp2_with fail
    refine c2.mono ?_
    rintro e w' ⟨rfl, rfl⟩
    rcases h2 with rfl | ⟨hne, h2⟩
    · go_wp2_with fail
      go_ret
      exact ⟨rfl, Below.refl _ _⟩
    · have hn2 : (c == 0) = false := by simpa using hne
      have hl : decide (u < 2 + n) = true := by simpa using h2
      go_wp2_with fail
      refine c3.mono ?_
      rintro e w' ⟨rfl, rfl⟩
      go_wp2_with fail
      go_ret
      exact ⟨rfl, Below.refl _ _⟩
end Go.Proofs.YtbahichdoafliabDoor
