/- The laws of package size, walked at this seat's numbers: SizeWhole, SizeSteps, SizeNone. -/
import Derived.Test.YtbahichdoafliabDoorSizeB
import Derived.Laws.BitsAllLaws
namespace Go.Proofs.YtbahichdoafliabDoor
open Go Go.RowKit



set_option maxHeartbeats 1000000 in
theorem whole_true (n : Int) (w : World) (hT : TableAt w) : Calls Tryd.prog 5 #[.int .i64 n] w fun e w' => e = .returned (.bool true) ∧ Below w.heap.size w w' := by
  obtain ⟨r, hr, he⟩ := i64_and_mask n 255 (by decide)
  replace he : bits .and .i64 n 255 = (r : Int) := he
  have hf := fit_true w hT
  have hc : ∃ c C W : Int, (r : Int) % 3 = c ∧ cellsOfC c = C ∧ wordsOf c = W ∧ C * W = 32 ∧ 2 ≤ W ∧ W ≤ 8 ∧ 0 ≤ C ∧ C ≤ 16 := by
    have : (r : Int) % 3 = 0 ∨ (r : Int) % 3 = 1 ∨ (r : Int) % 3 = 2 := by omega
    rcases this with h | h | h <;> rw [h] <;> exact ⟨_, _, _, rfl, rfl, rfl, by decide, by decide, by decide, by decide, by decide⟩
  obtain ⟨c, C, W, e1, e2, e3, hCW, hW2, hW8, hC0, hC16⟩ := hc
  have cC := cells_at c C w hT e2
  have cW := words_at c W w hT e3
  have cO : ∀ k v : Int, 0 ≤ k → k < C → k * W = v → Calls Tryd.prog 13 #[.int .i64 c, .int .i64 k] w fun e w' => e = .returned (.tuple #[.int .i64 v, .bool true]) ∧ w = w' := fun k v h0 h1 h2 => offset_at c k v w hT h0 (by rw [e2]; exact h1) (by rw [e3]; exact h2)
  have cN : Calls Tryd.prog 13 #[.int .i64 c, .int .i64 C] w fun e w' => e = .returned (.tuple #[.int .i64 0, .bool false]) ∧ w = w' := offset_no c C w hT (.inr (by rw [e2]; exact Int.le_refl _))
  clear e2 e3
  go_enter Tryd.func5, Tryd.ntmps5
  go_wp2_with fail
  refine hf.mono ?_
  rintro e w' ⟨rfl, rfl⟩
  go_wp2_with fail
  rw [e1]
  clear e1 he hr hf
  refine cC.mono ?_
  rintro e w' ⟨rfl, rfl⟩
  go_wp2_with fail
  have HC : Hid (C * W = 32) := hCW
  clear hCW
  go_loop [4, 17] (fun v k => ∃ j : Nat, (j : Int) ≤ C ∧ k = .int .i64 (j : Int) ∧ ∃ x : Int, v = .int .i64 x ∧ Hid (x = (j : Int) * W) ∧ 0 ≤ x ∧ x ≤ 200) (fun _ k => (C - intOf k).toNat)
  case atStart => exact ⟨0, hC0, rfl, 0, rfl, by show _ = _; simp, by omega, by omega⟩
  case round =>
    obtain ⟨j, hj, rfl, x, rfl, hx, hx0, hx1⟩ := hrel
    by_cases hlt : (j : Int) < C
    · have c1 := cO j x (by omega) hlt hx.out.symm
      have hx2 : Hid (x + W = ((j : Nat) + 1 : Nat) * W) := by
        show _ = _
        rw [hx.out, Int.natCast_add, Int.add_mul]; simp
      have hx3 : x ≤ 128 := by
        rw [hx.out]
        have : (j : Int) * W ≤ 16 * 8 := Int.mul_le_mul (by omega) hW8 (by omega) (by omega)
        omega
      clear hx cO
      go_wp2_with fail
      refine c1.mono ?_
      rintro e w' ⟨rfl, rfl⟩
      go_wp2_with fail
      refine cW.mono ?_
      rintro e w' ⟨rfl, rfl⟩
      go_wp2_with fail
      go_round
      case rel => exact ⟨j + 1, by omega, by go_num, x + W, rfl, hx2, by omega, by omega⟩
      case measure => simp [intOf]; omega
    · obtain rfl : C = (j : Int) := by omega
      obtain rfl : x = 32 := by rw [hx.out, HC.out]
      clear hx HC cO cW
      go_wp2_with fail
      refine cC.mono ?_
      rintro e w' ⟨rfl, rfl⟩
      go_wp2_with fail
      refine cN.mono ?_
      rintro e w' ⟨rfl, rfl⟩
      go_wp2_with fail
      go_ret
      exact ⟨rfl, Below.refl _ _⟩

theorem begins_of (c o : Int) (h0 : 0 < wordsOf c) (h1 : 0 ≤ o) (h2 : o < 32) (h3 : o % wordsOf c = 0) : begins c o = true := by
  simp [begins, h0, h1, h2, h3]

set_option maxHeartbeats 1000000 in
theorem steps_true (c k : Int) (w : World) (hT : TableAt w) : Calls Tryd.prog 6 #[.int .i64 c, .int .i64 k] w fun e w' => e = .returned (.bool true) ∧ Below w.heap.size w w' := by
  obtain ⟨r, hr, he⟩ := i64_and_mask c 255 (by decide)
  replace he : bits .and .i64 c 255 = (r : Int) := he
  obtain ⟨q, hq, he2⟩ := i64_and_mask k 255 (by decide)
  replace he2 : bits .and .i64 k 255 = (q : Int) := he2
  have hf := fit_true w hT
  have hc : ((r : Int) % 2 = 0) ∨ ((r : Int) % 2 = 1) := by omega
  rcases hc with e1 | e1
  · have c1 := cells_at 1 8 w hT rfl
    have c0 := cells_at 0 16 w hT rfl
    have w1 := words_at 1 4 w hT rfl
    have w0 := words_at 0 2 w hT rfl
    have hk0 : 0 ≤ (q : Int) % 8 := by omega
    have hk1 : (q : Int) % 8 < 8 := by omega
    go_enter Tryd.func6, Tryd.ntmps6
    go_wp2_with fail
    refine hf.mono ?_
    rintro e w' ⟨rfl, rfl⟩
    go_wp2_with fail
    rw [e1]
    go_wp2_with fail
    refine c1.mono ?_
    rintro e w' ⟨rfl, rfl⟩
    clear he he2 hf e1
    go_wp2_with fail
    generalize (q : Int) % 8 = j at *
    refine w1.mono ?_
    rintro e w' ⟨rfl, rfl⟩
    go_wp2_with fail
    refine w0.mono ?_
    rintro e w' ⟨rfl, rfl⟩
    go_wp2_with fail
    refine c1.mono ?_
    rintro e w' ⟨rfl, rfl⟩
    go_wp2_with fail
    refine c0.mono ?_
    rintro e w' ⟨rfl, rfl⟩
    go_wp2_with fail
    refine (offset_at 1 j (j * 4) w hT hk0 hk1 rfl).mono ?_
    rintro e w' ⟨rfl, rfl⟩
    go_wp2_with fail
    refine (offset_at 0 (2 * j) (j * 4) w hT (by omega) (by show _ < (16 : Int); omega) (by show 2 * j * 2 = j * 4; omega)).mono ?_
    rintro e w' ⟨rfl, rfl⟩
    go_wp2_with fail
    refine (cell_at 0 (j * 4) (2 * j) w hT (begins_of _ _ (by decide) (by omega) (by omega) (by show j * 4 % 2 = 0; omega)) (by show j * 4 / 2 = 2 * j; omega)).mono ?_
    rintro e w' ⟨rfl, n, rfl⟩
    go_wp2_with fail
    go_ret
    exact ⟨rfl, drawn_below n⟩
  · have c1 := cells_at 2 4 w hT rfl
    have c0 := cells_at 1 8 w hT rfl
    have w1 := words_at 2 8 w hT rfl
    have w0 := words_at 1 4 w hT rfl
    have hk0 : 0 ≤ (q : Int) % 4 := by omega
    have hk1 : (q : Int) % 4 < 4 := by omega
    go_enter Tryd.func6, Tryd.ntmps6
    go_wp2_with fail
    refine hf.mono ?_
    rintro e w' ⟨rfl, rfl⟩
    go_wp2_with fail
    rw [e1]
    go_wp2_with fail
    refine c1.mono ?_
    rintro e w' ⟨rfl, rfl⟩
    clear he he2 hf e1
    go_wp2_with fail
    generalize (q : Int) % 4 = j at *
    refine w1.mono ?_
    rintro e w' ⟨rfl, rfl⟩
    go_wp2_with fail
    refine w0.mono ?_
    rintro e w' ⟨rfl, rfl⟩
    go_wp2_with fail
    refine c1.mono ?_
    rintro e w' ⟨rfl, rfl⟩
    go_wp2_with fail
    refine c0.mono ?_
    rintro e w' ⟨rfl, rfl⟩
    go_wp2_with fail
    refine (offset_at 2 j (j * 8) w hT hk0 hk1 rfl).mono ?_
    rintro e w' ⟨rfl, rfl⟩
    go_wp2_with fail
    refine (offset_at 1 (2 * j) (j * 8) w hT (by omega) (by show _ < (8 : Int); omega) (by show 2 * j * 4 = j * 8; omega)).mono ?_
    rintro e w' ⟨rfl, rfl⟩
    go_wp2_with fail
    refine (cell_at 1 (j * 8) (2 * j) w hT (begins_of _ _ (by decide) (by omega) (by omega) (by show j * 8 % 4 = 0; omega)) (by show j * 8 / 4 = 2 * j; omega)).mono ?_
    rintro e w' ⟨rfl, n, rfl⟩
    go_wp2_with fail
    go_ret
    exact ⟨rfl, drawn_below n⟩
end Go.Proofs.YtbahichdoafliabDoor
