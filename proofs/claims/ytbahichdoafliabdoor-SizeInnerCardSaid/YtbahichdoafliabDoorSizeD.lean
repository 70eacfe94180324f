/- The laws of package size, walked at this seat's numbers: SizeInner, SizeNone. -/
import Derived.Test.YtbahichdoafliabDoorSizeC
namespace Go.Proofs.YtbahichdoafliabDoor
open Go Go.RowKit

theorem cell_none (c o : Int) (w : World) (hT : TableAt w) (h : wordsOf c = 0) : Calls Tryd.prog 14 #[.int .i64 c, .int .i64 o] w fun e w' => e = .returned (.tuple #[.int .i64 0, .bool false]) ∧ ∃ n, w' = w.drewN n := by
  have cW := words_at c 0 w hT h
  clear h
  go_enter Tryd.func14, Tryd.ntmps14
  go_wp2_with fail
  refine cW.mono ?_
  rintro e w' ⟨rfl, rfl⟩
  go_wp2_with fail
  go_quiet (fail)
  go_wp2_with fail
  go_ret2
  exact ⟨rfl, _, rfl⟩

theorem begins_not (c o : Int) (h : o < 0 ∨ 32 ≤ o ∨ o % wordsOf c ≠ 0) : begins c o = false := by
  unfold begins
  rcases h with h | h | h
  · have : decide (0 ≤ o) = false := by simp; omega
    simp [this]
  · have : decide (o < 32) = false := by simp; omega
    simp [this]
  · simp [h]

set_option maxHeartbeats 1000000 in
theorem none_walk (c n d : Int) (r : Nat) (hr : r ≤ 65535) (he : bits .and .i64 n 65535 = (r : Int)) (h : 0 ≤ c ∧ c ≤ 2 ∧ d = 3 + c ∨ (c < 0 ∨ 2 < c) ∧ d = c) (w : World) (hT : TableAt w) : Calls Tryd.prog 8 #[.int .i64 c, .int .i64 n] w fun e w' => e = .returned (.bool true) ∧ Below w.heap.size w w' := by
  have hf := fit_true w hT
  have hW0 : wordsOf d = 0 ∧ cellsOfC d = 0 := by
    have h0 : ¬ d = 0 := by omega
    have h1 : ¬ d = 1 := by omega
    have h2 : ¬ d = 2 := by omega
    unfold wordsOf cellsOfC
    simp [h0, h1, h2]
  have cO := offset_no d n w hT (by rw [hW0.2]; omega)
  have cC := cell_none d n w hT hW0.1
  have hW1 := hW0.1
  have hC1 := hW0.2
  clear hW0
  have cE : ∀ W : World, TableAt W → Calls Tryd.prog 11 #[.int .i64 d] W fun e w' => e = .returned (.int .i64 0) ∧ W = w' := fun W h => words_at d 0 W h hW1
  have cF : ∀ W : World, TableAt W → Calls Tryd.prog 12 #[.int .i64 d] W fun e w' => e = .returned (.int .i64 0) ∧ W = w' := fun W h => cells_at d 0 W h hC1
  clear hW1 hC1
  rcases h with ⟨h0, h2, rfl⟩ | ⟨h, rfl⟩
  · have h2' : ¬ 2 < c := by omega
    have h0' : ¬ c < 0 := by omega
    go_enter Tryd.func8, Tryd.ntmps8
    go_wp2_with fail
    refine hf.mono ?_
    rintro e w' ⟨rfl, rfl⟩
    go_wp2_with fail
    generalize 3 + c = d at *
    refine cO.mono ?_
    rintro e w' ⟨rfl, rfl⟩
    go_wp2_with fail
    refine cC.mono ?_
    rintro e w' ⟨rfl, m, rfl⟩
    have hT1 : TableAt (w.drewN m) := hT
    have hB1 := drawn_below (w := w) m
    generalize w.drewN m = W1 at *
    go_wp2_with fail
    refine (offset_no 1 _ W1 hT1 (.inr ?b1)).mono ?_
    case b1 => show (8 : Int) ≤ _; omega
    rintro e w' ⟨rfl, rfl⟩
    go_wp2_with fail
    refine (class_no _ W1 (.inr ?b1)).mono ?_
    case b1 => omega
    rintro e w' ⟨rfl, rfl⟩
    go_wp2_with fail
    refine (cE W1 hT1).mono ?_
    rintro e w' ⟨rfl, rfl⟩
    go_wp2_with fail
    refine (cF W1 hT1).mono ?_
    rintro e w' ⟨rfl, rfl⟩
    go_wp2_with fail
    go_ret
    exact ⟨rfl, hB1⟩
  · rcases h with h | h
    · go_enter Tryd.func8, Tryd.ntmps8
      go_wp2_with fail
      refine hf.mono ?_
      rintro e w' ⟨rfl, rfl⟩
      go_wp2_with fail
      refine cO.mono ?_
      rintro e w' ⟨rfl, rfl⟩
      go_wp2_with fail
      refine cC.mono ?_
      rintro e w' ⟨rfl, m, rfl⟩
      have hT1 : TableAt (w.drewN m) := hT
      have hB1 := drawn_below (w := w) m
      generalize w.drewN m = W1 at *
      go_wp2_with fail
      refine (offset_no 1 _ W1 hT1 (.inr ?b1)).mono ?_
      case b1 => show (8 : Int) ≤ _; omega
      rintro e w' ⟨rfl, rfl⟩
      go_wp2_with fail
      refine (class_no _ W1 (.inr ?b1)).mono ?_
      case b1 => omega
      rintro e w' ⟨rfl, rfl⟩
      go_wp2_with fail
      refine (cE W1 hT1).mono ?_
      rintro e w' ⟨rfl, rfl⟩
      go_wp2_with fail
      refine (cF W1 hT1).mono ?_
      rintro e w' ⟨rfl, rfl⟩
      go_wp2_with fail
      go_ret
      exact ⟨rfl, hB1⟩
    · have h' : ¬ d < 0 := by omega
      go_enter Tryd.func8, Tryd.ntmps8
      go_wp2_with fail
      refine hf.mono ?_
      rintro e w' ⟨rfl, rfl⟩
      go_wp2_with fail
      refine cO.mono ?_
      rintro e w' ⟨rfl, rfl⟩
      go_wp2_with fail
      refine cC.mono ?_
      rintro e w' ⟨rfl, m, rfl⟩
      have hT1 : TableAt (w.drewN m) := hT
      have hB1 := drawn_below (w := w) m
      generalize w.drewN m = W1 at *
      go_wp2_with fail
      refine (offset_no 1 _ W1 hT1 (.inr ?b1)).mono ?_
      case b1 => show (8 : Int) ≤ _; omega
      rintro e w' ⟨rfl, rfl⟩
      go_wp2_with fail
      refine (class_no _ W1 (.inr ?b1)).mono ?_
      case b1 => omega
      rintro e w' ⟨rfl, rfl⟩
      go_wp2_with fail
      refine (cE W1 hT1).mono ?_
      rintro e w' ⟨rfl, rfl⟩
      go_wp2_with fail
      refine (cF W1 hT1).mono ?_
      rintro e w' ⟨rfl, rfl⟩
      go_wp2_with fail
      go_ret
      exact ⟨rfl, hB1⟩

set_option maxHeartbeats 1000000 in
theorem inner_true (c k b : Int) (w : World) (hT : TableAt w) : Calls Tryd.prog 7 #[.int .i64 c, .int .i64 k, .int .i64 b] w fun e w' => e = .returned (.bool true) ∧ Below w.heap.size w w' := by
  obtain ⟨r, hr, he⟩ := i64_and_mask c 255 (by decide)
  replace he : bits .and .i64 c 255 = (r : Int) := he
  obtain ⟨q, hq, he2⟩ := i64_and_mask k 255 (by decide)
  replace he2 : bits .and .i64 k 255 = (q : Int) := he2
  obtain ⟨p, hp, he3⟩ := i64_and_mask b 255 (by decide)
  replace he3 : bits .and .i64 b 255 = (p : Int) := he3
  have hf := fit_true w hT
  have hc : ((r : Int) % 3 = 0) ∨ ((r : Int) % 3 = 1) ∨ ((r : Int) % 3 = 2) := by omega
  rcases hc with e1 | e1 | e1
  · have c1 := cells_at 0 16 w hT rfl
    have w1 := words_at 0 2 w hT rfl
    have hk0 : 0 ≤ (q : Int) % 16 := by omega
    have hk1 : (q : Int) % 16 < 16 := by omega
    have hp0 : 0 ≤ (0 : Int) := by omega
    have hp1 : (0 : Int) < 1 := by omega
    go_enter Tryd.func7, Tryd.ntmps7
    go_wp2_with fail
    refine hf.mono ?_
    rintro e w' ⟨rfl, rfl⟩
    go_wp2_with fail
    rw [e1]
    go_wp2_with fail
    refine c1.mono ?_
    rintro e w' ⟨rfl, rfl⟩
    clear he he2 hf e1
    go_wp2_with fail
    generalize (q : Int) % 16 = j at *
    refine (offset_at 0 j (j * 2) w hT hk0 hk1 rfl).mono ?_
    rintro e w' ⟨rfl, rfl⟩
    go_wp2_with fail
    refine w1.mono ?_
    rintro e w' ⟨rfl, rfl⟩
    go_wp2_with fail
    
    refine (cell_no 0 _ w hT (begins_not _ _ ?b1) ?b2 ?b3).mono ?_
    case b1 => right; right; show (j * 2 + 1) % 2 ≠ 0; omega
    case b2 => omega
    case b3 => omega
    rintro e w' ⟨rfl, n, rfl⟩
    have hT1 : TableAt (w.drewN n) := hT
    have hB1 := drawn_below (w := w) n
    generalize w.drewN n = W1 at *
    go_wp2_with fail
    refine (cell_no 0 _ W1 hT1 (begins_not _ _ (.inr (.inl ?b1))) ?b2 ?b3).mono ?_
    case b1 => omega
    case b2 => omega
    case b3 => omega
    rintro e w' ⟨rfl, n2, rfl⟩
    have hT2 : TableAt (W1.drewN n2) := hT1
    have hB2 := hB1.trans ((drawn_below (w := W1) n2).mono hB1.size)
    generalize W1.drewN n2 = W2 at *
    clear hT1 hB1
    go_wp2_with fail
    refine (cell_no 0 _ W2 hT2 (begins_not _ _ (.inl ?b1)) ?b2 ?b3).mono ?_
    case b1 => omega
    case b2 => omega
    case b3 => omega
    rintro e w' ⟨rfl, n3, rfl⟩
    have hB3 := hB2.trans ((drawn_below (w := W2) n3).mono hB2.size)
    generalize W2.drewN n3 = W3 at *
    clear hT2 hB2
    go_wp2_with fail
    go_ret
    exact ⟨rfl, hB3⟩
  · have c1 := cells_at 1 8 w hT rfl
    have w1 := words_at 1 4 w hT rfl
    have hk0 : 0 ≤ (q : Int) % 8 := by omega
    have hk1 : (q : Int) % 8 < 8 := by omega
    have hp0 : 0 ≤ (p : Int) % 3 := by omega
    have hp1 : (p : Int) % 3 < 3 := by omega
    go_enter Tryd.func7, Tryd.ntmps7
    go_wp2_with fail
    refine hf.mono ?_
    rintro e w' ⟨rfl, rfl⟩
    go_wp2_with fail
    rw [e1]
    go_wp2_with fail
    refine c1.mono ?_
    rintro e w' ⟨rfl, rfl⟩
    clear he he2 hf e1
    go_wp2_with fail
    generalize (q : Int) % 8 = j at *
    refine (offset_at 1 j (j * 4) w hT hk0 hk1 rfl).mono ?_
    rintro e w' ⟨rfl, rfl⟩
    go_wp2_with fail
    refine w1.mono ?_
    rintro e w' ⟨rfl, rfl⟩
    go_wp2_with fail
    generalize (p : Int) % 3 = x at *
    refine (cell_no 1 _ w hT (begins_not _ _ ?b1) ?b2 ?b3).mono ?_
    case b1 => right; right; show (j * 4 + (1 + x)) % 4 ≠ 0; omega
    case b2 => omega
    case b3 => omega
    rintro e w' ⟨rfl, n, rfl⟩
    have hT1 : TableAt (w.drewN n) := hT
    have hB1 := drawn_below (w := w) n
    generalize w.drewN n = W1 at *
    go_wp2_with fail
    refine (cell_no 1 _ W1 hT1 (begins_not _ _ (.inr (.inl ?b1))) ?b2 ?b3).mono ?_
    case b1 => omega
    case b2 => omega
    case b3 => omega
    rintro e w' ⟨rfl, n2, rfl⟩
    have hT2 : TableAt (W1.drewN n2) := hT1
    have hB2 := hB1.trans ((drawn_below (w := W1) n2).mono hB1.size)
    generalize W1.drewN n2 = W2 at *
    clear hT1 hB1
    go_wp2_with fail
    refine (cell_no 1 _ W2 hT2 (begins_not _ _ (.inl ?b1)) ?b2 ?b3).mono ?_
    case b1 => omega
    case b2 => omega
    case b3 => omega
    rintro e w' ⟨rfl, n3, rfl⟩
    have hB3 := hB2.trans ((drawn_below (w := W2) n3).mono hB2.size)
    generalize W2.drewN n3 = W3 at *
    clear hT2 hB2
    go_wp2_with fail
    go_ret
    exact ⟨rfl, hB3⟩
  · have c1 := cells_at 2 4 w hT rfl
    have w1 := words_at 2 8 w hT rfl
    have hk0 : 0 ≤ (q : Int) % 4 := by omega
    have hk1 : (q : Int) % 4 < 4 := by omega
    have hp0 : 0 ≤ (p : Int) % 7 := by omega
    have hp1 : (p : Int) % 7 < 7 := by omega
    go_enter Tryd.func7, Tryd.ntmps7
    go_wp2_with fail
    refine hf.mono ?_
    rintro e w' ⟨rfl, rfl⟩
    go_wp2_with fail
    rw [e1]
    go_wp2_with fail
    refine c1.mono ?_
    rintro e w' ⟨rfl, rfl⟩
    clear he he2 hf e1
    go_wp2_with fail
    generalize (q : Int) % 4 = j at *
    refine (offset_at 2 j (j * 8) w hT hk0 hk1 rfl).mono ?_
    rintro e w' ⟨rfl, rfl⟩
    go_wp2_with fail
    refine w1.mono ?_
    rintro e w' ⟨rfl, rfl⟩
    go_wp2_with fail
    generalize (p : Int) % 7 = x at *
    refine (cell_no 2 _ w hT (begins_not _ _ ?b1) ?b2 ?b3).mono ?_
    case b1 => right; right; show (j * 8 + (1 + x)) % 8 ≠ 0; omega
    case b2 => omega
    case b3 => omega
    rintro e w' ⟨rfl, n, rfl⟩
    have hT1 : TableAt (w.drewN n) := hT
    have hB1 := drawn_below (w := w) n
    generalize w.drewN n = W1 at *
    go_wp2_with fail
    refine (cell_no 2 _ W1 hT1 (begins_not _ _ (.inr (.inl ?b1))) ?b2 ?b3).mono ?_
    case b1 => omega
    case b2 => omega
    case b3 => omega
    rintro e w' ⟨rfl, n2, rfl⟩
    have hT2 : TableAt (W1.drewN n2) := hT1
    have hB2 := hB1.trans ((drawn_below (w := W1) n2).mono hB1.size)
    generalize W1.drewN n2 = W2 at *
    clear hT1 hB1
    go_wp2_with fail
    refine (cell_no 2 _ W2 hT2 (begins_not _ _ (.inl ?b1)) ?b2 ?b3).mono ?_
    case b1 => omega
    case b2 => omega
    case b3 => omega
    rintro e w' ⟨rfl, n3, rfl⟩
    have hB3 := hB2.trans ((drawn_below (w := W2) n3).mono hB2.size)
    generalize W2.drewN n3 = W3 at *
    clear hT2 hB2
    go_wp2_with fail
    go_ret
    exact ⟨rfl, hB3⟩

theorem none_law (c n : Int) (w : World) (hT : TableAt w) : Calls Tryd.prog 8 #[.int .i64 c, .int .i64 n] w fun e w' => e = .returned (.bool true) ∧ Below w.heap.size w w' := by
  obtain ⟨r, hr, he⟩ := i64_and_mask n 65535 (by decide)
  by_cases h : 0 ≤ c ∧ c ≤ 2
  · exact none_walk c n (3 + c) r hr he (.inl ⟨h.1, h.2, rfl⟩) w hT
  · exact none_walk c n c r hr he (.inr ⟨by omega, rfl⟩) w hT
end Go.Proofs.YtbahichdoafliabDoor
