/- The laws of package size, walked at this seat's numbers: SizeCells. -/
import Derived.Test.YtbahichdoafliabDoorSizeD
namespace Go.Proofs.YtbahichdoafliabDoor
open Go Go.RowKit

theorem off_cases (o W : Int) : o < 0 ∨ (0 ≤ o ∧ 32 ≤ o) ∨ (0 ≤ o ∧ o < 32 ∧ o % W ≠ 0) ∨ (0 ≤ o ∧ o < 32 ∧ o % W = 0) := by omega
theorem cell_cases (k C : Int) : k < 0 ∨ (0 ≤ k ∧ C ≤ k) ∨ (0 ≤ k ∧ k < C) := by omega

set_option maxHeartbeats 4000000 in
theorem cells_in0 (k o : Int) (w : World) (hT : TableAt w) (hlo : -9223372036854775808 ≤ o) (hhi : o ≤ 9223372036854775807) : Calls Tryd.prog 4 #[.int .i64 0, .int .i64 k, .int .i64 o] w fun e w' => e = .returned (.bool true) ∧ Below w.heap.size w w' := by
  have hf := fit_true w hT
  have c1 := cells_at 0 16 w hT rfl
  have w1 := words_at 0 2 w hT rfl
  have cN := fun h => cell_no 0 o w hT (begins_not 0 o h) hlo hhi
  have cY := fun h => cell_at 0 o (o / 2) w hT h rfl
  have oN := fun h => offset_no 0 k w hT h
  have oY := fun h0 h1 => offset_at 0 k (k * 2) w hT h0 h1 rfl
  have cB := fun h0 h1 (W1 : World) (hT1 : TableAt W1) => cell_at 0 (k * 2) k W1 hT1 (begins_of _ _ (by decide) h0 h1 (by show k * 2 % 2 = 0; omega)) (by show k * 2 / 2 = k; omega)
  rcases cell_cases k 16 with h | ⟨h, h'⟩ | ⟨h, h'⟩
  · replace oN := oN (.inl h)
    clear oY cB
    rcases off_cases o 2 with g | ⟨g, g'⟩ | ⟨g, g', g2⟩ | ⟨g, g', g2⟩
    · replace cN := cN (.inl g)
      clear cY
      go_enter Tryd.func4, Tryd.ntmps4
      go_wp2_with fail
      refine hf.mono ?_
      rintro e w' ⟨rfl, rfl⟩
      go_wp2_with fail
      refine w1.mono ?_
      rintro e w' ⟨rfl, rfl⟩
      go_wp2_with fail
      refine c1.mono ?_
      rintro e w' ⟨rfl, rfl⟩
      go_wp2_with fail
      refine oN.mono ?_
      rintro e w' ⟨rfl, rfl⟩
      go_wp2_with fail
      refine cN.mono ?_
      rintro e w' ⟨rfl, n, rfl⟩
      have hT1 : TableAt (w.drewN n) := hT
      have hB1 := drawn_below (w := w) n
      generalize w.drewN n = W1 at *
      go_wp2_with fail
      go_ret
      exact ⟨rfl, hB1⟩
    · replace cN := cN (.inr (.inl g'))
      clear cY
      go_enter Tryd.func4, Tryd.ntmps4
      go_wp2_with fail
      refine hf.mono ?_
      rintro e w' ⟨rfl, rfl⟩
      go_wp2_with fail
      refine w1.mono ?_
      rintro e w' ⟨rfl, rfl⟩
      go_wp2_with fail
      refine c1.mono ?_
      rintro e w' ⟨rfl, rfl⟩
      go_wp2_with fail
      refine oN.mono ?_
      rintro e w' ⟨rfl, rfl⟩
      go_wp2_with fail
      refine cN.mono ?_
      rintro e w' ⟨rfl, n, rfl⟩
      have hT1 : TableAt (w.drewN n) := hT
      have hB1 := drawn_below (w := w) n
      generalize w.drewN n = W1 at *
      go_wp2_with fail
      go_ret
      exact ⟨rfl, hB1⟩
    · replace cN := cN (.inr (.inr g2))
      have hm : (o % 2 == 0) = false := by simpa using g2
      clear cY g2
      go_enter Tryd.func4, Tryd.ntmps4
      go_wp2_with fail
      refine hf.mono ?_
      rintro e w' ⟨rfl, rfl⟩
      go_wp2_with fail
      refine w1.mono ?_
      rintro e w' ⟨rfl, rfl⟩
      go_wp2_with fail
      refine c1.mono ?_
      rintro e w' ⟨rfl, rfl⟩
      go_wp2_with fail
      refine oN.mono ?_
      rintro e w' ⟨rfl, rfl⟩
      go_wp2_with fail
      refine cN.mono ?_
      rintro e w' ⟨rfl, n, rfl⟩
      have hT1 : TableAt (w.drewN n) := hT
      have hB1 := drawn_below (w := w) n
      generalize w.drewN n = W1 at *
      go_wp2_with fail
      go_ret
      exact ⟨rfl, hB1⟩
    · replace cN := cY (begins_of _ _ (by decide) g g' g2)
      have hm : (o % 2 == 0) = true := by simpa using g2
      clear cY g2
      go_enter Tryd.func4, Tryd.ntmps4
      go_wp2_with fail
      refine hf.mono ?_
      rintro e w' ⟨rfl, rfl⟩
      go_wp2_with fail
      refine w1.mono ?_
      rintro e w' ⟨rfl, rfl⟩
      go_wp2_with fail
      refine c1.mono ?_
      rintro e w' ⟨rfl, rfl⟩
      go_wp2_with fail
      refine oN.mono ?_
      rintro e w' ⟨rfl, rfl⟩
      go_wp2_with fail
      refine cN.mono ?_
      rintro e w' ⟨rfl, n, rfl⟩
      have hT1 : TableAt (w.drewN n) := hT
      have hB1 := drawn_below (w := w) n
      generalize w.drewN n = W1 at *
      go_wp2_with fail
      go_ret
      exact ⟨rfl, hB1⟩
  · replace oN := oN (.inr h')
    clear oY cB
    rcases off_cases o 2 with g | ⟨g, g'⟩ | ⟨g, g', g2⟩ | ⟨g, g', g2⟩
    · replace cN := cN (.inl g)
      clear cY
      go_enter Tryd.func4, Tryd.ntmps4
      go_wp2_with fail
      refine hf.mono ?_
      rintro e w' ⟨rfl, rfl⟩
      go_wp2_with fail
      refine w1.mono ?_
      rintro e w' ⟨rfl, rfl⟩
      go_wp2_with fail
      refine c1.mono ?_
      rintro e w' ⟨rfl, rfl⟩
      go_wp2_with fail
      refine oN.mono ?_
      rintro e w' ⟨rfl, rfl⟩
      go_wp2_with fail
      refine cN.mono ?_
      rintro e w' ⟨rfl, n, rfl⟩
      have hT1 : TableAt (w.drewN n) := hT
      have hB1 := drawn_below (w := w) n
      generalize w.drewN n = W1 at *
      go_wp2_with fail
      go_ret
      exact ⟨rfl, hB1⟩
    · replace cN := cN (.inr (.inl g'))
      clear cY
      go_enter Tryd.func4, Tryd.ntmps4
      go_wp2_with fail
      refine hf.mono ?_
      rintro e w' ⟨rfl, rfl⟩
      go_wp2_with fail
      refine w1.mono ?_
      rintro e w' ⟨rfl, rfl⟩
      go_wp2_with fail
      refine c1.mono ?_
      rintro e w' ⟨rfl, rfl⟩
      go_wp2_with fail
      refine oN.mono ?_
      rintro e w' ⟨rfl, rfl⟩
      go_wp2_with fail
      refine cN.mono ?_
      rintro e w' ⟨rfl, n, rfl⟩
      have hT1 : TableAt (w.drewN n) := hT
      have hB1 := drawn_below (w := w) n
      generalize w.drewN n = W1 at *
      go_wp2_with fail
      go_ret
      exact ⟨rfl, hB1⟩
    · replace cN := cN (.inr (.inr g2))
      have hm : (o % 2 == 0) = false := by simpa using g2
      clear cY g2
      go_enter Tryd.func4, Tryd.ntmps4
      go_wp2_with fail
      refine hf.mono ?_
      rintro e w' ⟨rfl, rfl⟩
      go_wp2_with fail
      refine w1.mono ?_
      rintro e w' ⟨rfl, rfl⟩
      go_wp2_with fail
      refine c1.mono ?_
      rintro e w' ⟨rfl, rfl⟩
      go_wp2_with fail
      refine oN.mono ?_
      rintro e w' ⟨rfl, rfl⟩
      go_wp2_with fail
      refine cN.mono ?_
      rintro e w' ⟨rfl, n, rfl⟩
      have hT1 : TableAt (w.drewN n) := hT
      have hB1 := drawn_below (w := w) n
      generalize w.drewN n = W1 at *
      go_wp2_with fail
      go_ret
      exact ⟨rfl, hB1⟩
    · replace cN := cY (begins_of _ _ (by decide) g g' g2)
      have hm : (o % 2 == 0) = true := by simpa using g2
      clear cY g2
      go_enter Tryd.func4, Tryd.ntmps4
      go_wp2_with fail
      refine hf.mono ?_
      rintro e w' ⟨rfl, rfl⟩
      go_wp2_with fail
      refine w1.mono ?_
      rintro e w' ⟨rfl, rfl⟩
      go_wp2_with fail
      refine c1.mono ?_
      rintro e w' ⟨rfl, rfl⟩
      go_wp2_with fail
      refine oN.mono ?_
      rintro e w' ⟨rfl, rfl⟩
      go_wp2_with fail
      refine cN.mono ?_
      rintro e w' ⟨rfl, n, rfl⟩
      have hT1 : TableAt (w.drewN n) := hT
      have hB1 := drawn_below (w := w) n
      generalize w.drewN n = W1 at *
      go_wp2_with fail
      go_ret
      exact ⟨rfl, hB1⟩
  · replace oN := oY h h'
    clear oY
    replace cB := cB (by omega) (by omega)
    have hle : decide (k * 2 + 2 ≤ 32) = true := by simp; omega
    rcases off_cases o 2 with g | ⟨g, g'⟩ | ⟨g, g', g2⟩ | ⟨g, g', g2⟩
    · replace cN := cN (.inl g)
      clear cY
      go_enter Tryd.func4, Tryd.ntmps4
      go_wp2_with fail
      refine hf.mono ?_
      rintro e w' ⟨rfl, rfl⟩
      go_wp2_with fail
      refine w1.mono ?_
      rintro e w' ⟨rfl, rfl⟩
      go_wp2_with fail
      refine c1.mono ?_
      rintro e w' ⟨rfl, rfl⟩
      go_wp2_with fail
      refine oN.mono ?_
      rintro e w' ⟨rfl, rfl⟩
      go_wp2_with fail
      refine cN.mono ?_
      rintro e w' ⟨rfl, n, rfl⟩
      have hT1 : TableAt (w.drewN n) := hT
      have hB1 := drawn_below (w := w) n
      generalize w.drewN n = W1 at *
      go_wp2_with fail
      refine (cB W1 hT1).mono ?_
      rintro e w' ⟨rfl, n2, rfl⟩
      have hB2 := hB1.trans ((drawn_below (w := W1) n2).mono hB1.size)
      generalize W1.drewN n2 = W2 at *
      go_wp2_with fail
      go_ret
      exact ⟨rfl, hB2⟩
    · replace cN := cN (.inr (.inl g'))
      clear cY
      go_enter Tryd.func4, Tryd.ntmps4
      go_wp2_with fail
      refine hf.mono ?_
      rintro e w' ⟨rfl, rfl⟩
      go_wp2_with fail
      refine w1.mono ?_
      rintro e w' ⟨rfl, rfl⟩
      go_wp2_with fail
      refine c1.mono ?_
      rintro e w' ⟨rfl, rfl⟩
      go_wp2_with fail
      refine oN.mono ?_
      rintro e w' ⟨rfl, rfl⟩
      go_wp2_with fail
      refine cN.mono ?_
      rintro e w' ⟨rfl, n, rfl⟩
      have hT1 : TableAt (w.drewN n) := hT
      have hB1 := drawn_below (w := w) n
      generalize w.drewN n = W1 at *
      go_wp2_with fail
      refine (cB W1 hT1).mono ?_
      rintro e w' ⟨rfl, n2, rfl⟩
      have hB2 := hB1.trans ((drawn_below (w := W1) n2).mono hB1.size)
      generalize W1.drewN n2 = W2 at *
      go_wp2_with fail
      go_ret
      exact ⟨rfl, hB2⟩
    · replace cN := cN (.inr (.inr g2))
      have hm : (o % 2 == 0) = false := by simpa using g2
      clear cY g2
      go_enter Tryd.func4, Tryd.ntmps4
      go_wp2_with fail
      refine hf.mono ?_
      rintro e w' ⟨rfl, rfl⟩
      go_wp2_with fail
      refine w1.mono ?_
      rintro e w' ⟨rfl, rfl⟩
      go_wp2_with fail
      refine c1.mono ?_
      rintro e w' ⟨rfl, rfl⟩
      go_wp2_with fail
      refine oN.mono ?_
      rintro e w' ⟨rfl, rfl⟩
      go_wp2_with fail
      refine cN.mono ?_
      rintro e w' ⟨rfl, n, rfl⟩
      have hT1 : TableAt (w.drewN n) := hT
      have hB1 := drawn_below (w := w) n
      generalize w.drewN n = W1 at *
      go_wp2_with fail
      refine (cB W1 hT1).mono ?_
      rintro e w' ⟨rfl, n2, rfl⟩
      have hB2 := hB1.trans ((drawn_below (w := W1) n2).mono hB1.size)
      generalize W1.drewN n2 = W2 at *
      go_wp2_with fail
      go_ret
      exact ⟨rfl, hB2⟩
    · replace cN := cY (begins_of _ _ (by decide) g g' g2)
      have hm : (o % 2 == 0) = true := by simpa using g2
      clear cY g2
      go_enter Tryd.func4, Tryd.ntmps4
      go_wp2_with fail
      refine hf.mono ?_
      rintro e w' ⟨rfl, rfl⟩
      go_wp2_with fail
      refine w1.mono ?_
      rintro e w' ⟨rfl, rfl⟩
      go_wp2_with fail
      refine c1.mono ?_
      rintro e w' ⟨rfl, rfl⟩
      go_wp2_with fail
      refine oN.mono ?_
      rintro e w' ⟨rfl, rfl⟩
      go_wp2_with fail
      refine cN.mono ?_
      rintro e w' ⟨rfl, n, rfl⟩
      have hT1 : TableAt (w.drewN n) := hT
      have hB1 := drawn_below (w := w) n
      generalize w.drewN n = W1 at *
      go_wp2_with fail
      refine (cB W1 hT1).mono ?_
      rintro e w' ⟨rfl, n2, rfl⟩
      have hB2 := hB1.trans ((drawn_below (w := W1) n2).mono hB1.size)
      generalize W1.drewN n2 = W2 at *
      go_wp2_with fail
      go_ret
      exact ⟨rfl, hB2⟩

set_option maxHeartbeats 4000000 in
theorem cells_in1 (k o : Int) (w : World) (hT : TableAt w) (hlo : -9223372036854775808 ≤ o) (hhi : o ≤ 9223372036854775807) : Calls Tryd.prog 4 #[.int .i64 1, .int .i64 k, .int .i64 o] w fun e w' => e = .returned (.bool true) ∧ Below w.heap.size w w' := by
  have hf := fit_true w hT
  have c1 := cells_at 1 8 w hT rfl
  have w1 := words_at 1 4 w hT rfl
  have cN := fun h => cell_no 1 o w hT (begins_not 1 o h) hlo hhi
  have cY := fun h => cell_at 1 o (o / 4) w hT h rfl
  have oN := fun h => offset_no 1 k w hT h
  have oY := fun h0 h1 => offset_at 1 k (k * 4) w hT h0 h1 rfl
  have cB := fun h0 h1 (W1 : World) (hT1 : TableAt W1) => cell_at 1 (k * 4) k W1 hT1 (begins_of _ _ (by decide) h0 h1 (by show k * 4 % 4 = 0; omega)) (by show k * 4 / 4 = k; omega)
  rcases cell_cases k 8 with h | ⟨h, h'⟩ | ⟨h, h'⟩
  · replace oN := oN (.inl h)
    clear oY cB
    rcases off_cases o 4 with g | ⟨g, g'⟩ | ⟨g, g', g2⟩ | ⟨g, g', g2⟩
    · replace cN := cN (.inl g)
      clear cY
      go_enter Tryd.func4, Tryd.ntmps4
      go_wp2_with fail
      refine hf.mono ?_
      rintro e w' ⟨rfl, rfl⟩
      go_wp2_with fail
      refine w1.mono ?_
      rintro e w' ⟨rfl, rfl⟩
      go_wp2_with fail
      refine c1.mono ?_
      rintro e w' ⟨rfl, rfl⟩
      go_wp2_with fail
      refine oN.mono ?_
      rintro e w' ⟨rfl, rfl⟩
      go_wp2_with fail
      refine cN.mono ?_
      rintro e w' ⟨rfl, n, rfl⟩
      have hT1 : TableAt (w.drewN n) := hT
      have hB1 := drawn_below (w := w) n
      generalize w.drewN n = W1 at *
      go_wp2_with fail
      go_ret
      exact ⟨rfl, hB1⟩
    · replace cN := cN (.inr (.inl g'))
      clear cY
      go_enter Tryd.func4, Tryd.ntmps4
      go_wp2_with fail
      refine hf.mono ?_
      rintro e w' ⟨rfl, rfl⟩
      go_wp2_with fail
      refine w1.mono ?_
      rintro e w' ⟨rfl, rfl⟩
      go_wp2_with fail
      refine c1.mono ?_
      rintro e w' ⟨rfl, rfl⟩
      go_wp2_with fail
      refine oN.mono ?_
      rintro e w' ⟨rfl, rfl⟩
      go_wp2_with fail
      refine cN.mono ?_
      rintro e w' ⟨rfl, n, rfl⟩
      have hT1 : TableAt (w.drewN n) := hT
      have hB1 := drawn_below (w := w) n
      generalize w.drewN n = W1 at *
      go_wp2_with fail
      go_ret
      exact ⟨rfl, hB1⟩
    · replace cN := cN (.inr (.inr g2))
      have hm : (o % 4 == 0) = false := by simpa using g2
      clear cY g2
      go_enter Tryd.func4, Tryd.ntmps4
      go_wp2_with fail
      refine hf.mono ?_
      rintro e w' ⟨rfl, rfl⟩
      go_wp2_with fail
      refine w1.mono ?_
      rintro e w' ⟨rfl, rfl⟩
      go_wp2_with fail
      refine c1.mono ?_
      rintro e w' ⟨rfl, rfl⟩
      go_wp2_with fail
      refine oN.mono ?_
      rintro e w' ⟨rfl, rfl⟩
      go_wp2_with fail
      refine cN.mono ?_
      rintro e w' ⟨rfl, n, rfl⟩
      have hT1 : TableAt (w.drewN n) := hT
      have hB1 := drawn_below (w := w) n
      generalize w.drewN n = W1 at *
      go_wp2_with fail
      go_ret
      exact ⟨rfl, hB1⟩
    · replace cN := cY (begins_of _ _ (by decide) g g' g2)
      have hm : (o % 4 == 0) = true := by simpa using g2
      clear cY g2
      go_enter Tryd.func4, Tryd.ntmps4
      go_wp2_with fail
      refine hf.mono ?_
      rintro e w' ⟨rfl, rfl⟩
      go_wp2_with fail
      refine w1.mono ?_
      rintro e w' ⟨rfl, rfl⟩
      go_wp2_with fail
      refine c1.mono ?_
      rintro e w' ⟨rfl, rfl⟩
      go_wp2_with fail
      refine oN.mono ?_
      rintro e w' ⟨rfl, rfl⟩
      go_wp2_with fail
      refine cN.mono ?_
      rintro e w' ⟨rfl, n, rfl⟩
      have hT1 : TableAt (w.drewN n) := hT
      have hB1 := drawn_below (w := w) n
      generalize w.drewN n = W1 at *
      go_wp2_with fail
      go_ret
      exact ⟨rfl, hB1⟩
  · replace oN := oN (.inr h')
    clear oY cB
    rcases off_cases o 4 with g | ⟨g, g'⟩ | ⟨g, g', g2⟩ | ⟨g, g', g2⟩
    · replace cN := cN (.inl g)
      clear cY
      go_enter Tryd.func4, Tryd.ntmps4
      go_wp2_with fail
      refine hf.mono ?_
      rintro e w' ⟨rfl, rfl⟩
      go_wp2_with fail
      refine w1.mono ?_
      rintro e w' ⟨rfl, rfl⟩
      go_wp2_with fail
      refine c1.mono ?_
      rintro e w' ⟨rfl, rfl⟩
      go_wp2_with fail
      refine oN.mono ?_
      rintro e w' ⟨rfl, rfl⟩
      go_wp2_with fail
      refine cN.mono ?_
      rintro e w' ⟨rfl, n, rfl⟩
      have hT1 : TableAt (w.drewN n) := hT
      have hB1 := drawn_below (w := w) n
      generalize w.drewN n = W1 at *
      go_wp2_with fail
      go_ret
      exact ⟨rfl, hB1⟩
    · replace cN := cN (.inr (.inl g'))
      clear cY
      go_enter Tryd.func4, Tryd.ntmps4
      go_wp2_with fail
      refine hf.mono ?_
      rintro e w' ⟨rfl, rfl⟩
      go_wp2_with fail
      refine w1.mono ?_
      rintro e w' ⟨rfl, rfl⟩
      go_wp2_with fail
      refine c1.mono ?_
      rintro e w' ⟨rfl, rfl⟩
      go_wp2_with fail
      refine oN.mono ?_
      rintro e w' ⟨rfl, rfl⟩
      go_wp2_with fail
      refine cN.mono ?_
      rintro e w' ⟨rfl, n, rfl⟩
      have hT1 : TableAt (w.drewN n) := hT
      have hB1 := drawn_below (w := w) n
      generalize w.drewN n = W1 at *
      go_wp2_with fail
      go_ret
      exact ⟨rfl, hB1⟩
    · replace cN := cN (.inr (.inr g2))
      have hm : (o % 4 == 0) = false := by simpa using g2
      clear cY g2
      go_enter Tryd.func4, Tryd.ntmps4
      go_wp2_with fail
      refine hf.mono ?_
      rintro e w' ⟨rfl, rfl⟩
      go_wp2_with fail
      refine w1.mono ?_
      rintro e w' ⟨rfl, rfl⟩
      go_wp2_with fail
      refine c1.mono ?_
      rintro e w' ⟨rfl, rfl⟩
      go_wp2_with fail
      refine oN.mono ?_
      rintro e w' ⟨rfl, rfl⟩
      go_wp2_with fail
      refine cN.mono ?_
      rintro e w' ⟨rfl, n, rfl⟩
      have hT1 : TableAt (w.drewN n) := hT
      have hB1 := drawn_below (w := w) n
      generalize w.drewN n = W1 at *
      go_wp2_with fail
      go_ret
      exact ⟨rfl, hB1⟩
    · replace cN := cY (begins_of _ _ (by decide) g g' g2)
      have hm : (o % 4 == 0) = true := by simpa using g2
      clear cY g2
      go_enter Tryd.func4, Tryd.ntmps4
      go_wp2_with fail
      refine hf.mono ?_
      rintro e w' ⟨rfl, rfl⟩
      go_wp2_with fail
      refine w1.mono ?_
      rintro e w' ⟨rfl, rfl⟩
      go_wp2_with fail
      refine c1.mono ?_
      rintro e w' ⟨rfl, rfl⟩
      go_wp2_with fail
      refine oN.mono ?_
      rintro e w' ⟨rfl, rfl⟩
      go_wp2_with fail
      refine cN.mono ?_
      rintro e w' ⟨rfl, n, rfl⟩
      have hT1 : TableAt (w.drewN n) := hT
      have hB1 := drawn_below (w := w) n
      generalize w.drewN n = W1 at *
      go_wp2_with fail
      go_ret
      exact ⟨rfl, hB1⟩
  · replace oN := oY h h'
    clear oY
    replace cB := cB (by omega) (by omega)
    have hle : decide (k * 4 + 4 ≤ 32) = true := by simp; omega
    rcases off_cases o 4 with g | ⟨g, g'⟩ | ⟨g, g', g2⟩ | ⟨g, g', g2⟩
    · replace cN := cN (.inl g)
      clear cY
      go_enter Tryd.func4, Tryd.ntmps4
      go_wp2_with fail
      refine hf.mono ?_
      rintro e w' ⟨rfl, rfl⟩
      go_wp2_with fail
      refine w1.mono ?_
      rintro e w' ⟨rfl, rfl⟩
      go_wp2_with fail
      refine c1.mono ?_
      rintro e w' ⟨rfl, rfl⟩
      go_wp2_with fail
      refine oN.mono ?_
      rintro e w' ⟨rfl, rfl⟩
      go_wp2_with fail
      refine cN.mono ?_
      rintro e w' ⟨rfl, n, rfl⟩
      have hT1 : TableAt (w.drewN n) := hT
      have hB1 := drawn_below (w := w) n
      generalize w.drewN n = W1 at *
      go_wp2_with fail
      refine (cB W1 hT1).mono ?_
      rintro e w' ⟨rfl, n2, rfl⟩
      have hB2 := hB1.trans ((drawn_below (w := W1) n2).mono hB1.size)
      generalize W1.drewN n2 = W2 at *
      go_wp2_with fail
      go_ret
      exact ⟨rfl, hB2⟩
    · replace cN := cN (.inr (.inl g'))
      clear cY
      go_enter Tryd.func4, Tryd.ntmps4
      go_wp2_with fail
      refine hf.mono ?_
      rintro e w' ⟨rfl, rfl⟩
      go_wp2_with fail
      refine w1.mono ?_
      rintro e w' ⟨rfl, rfl⟩
      go_wp2_with fail
      refine c1.mono ?_
      rintro e w' ⟨rfl, rfl⟩
      go_wp2_with fail
      refine oN.mono ?_
      rintro e w' ⟨rfl, rfl⟩
      go_wp2_with fail
      refine cN.mono ?_
      rintro e w' ⟨rfl, n, rfl⟩
      have hT1 : TableAt (w.drewN n) := hT
      have hB1 := drawn_below (w := w) n
      generalize w.drewN n = W1 at *
      go_wp2_with fail
      refine (cB W1 hT1).mono ?_
      rintro e w' ⟨rfl, n2, rfl⟩
      have hB2 := hB1.trans ((drawn_below (w := W1) n2).mono hB1.size)
      generalize W1.drewN n2 = W2 at *
      go_wp2_with fail
      go_ret
      exact ⟨rfl, hB2⟩
    · replace cN := cN (.inr (.inr g2))
      have hm : (o % 4 == 0) = false := by simpa using g2
      clear cY g2
      go_enter Tryd.func4, Tryd.ntmps4
      go_wp2_with fail
      refine hf.mono ?_
      rintro e w' ⟨rfl, rfl⟩
      go_wp2_with fail
      refine w1.mono ?_
      rintro e w' ⟨rfl, rfl⟩
      go_wp2_with fail
      refine c1.mono ?_
      rintro e w' ⟨rfl, rfl⟩
      go_wp2_with fail
      refine oN.mono ?_
      rintro e w' ⟨rfl, rfl⟩
      go_wp2_with fail
      refine cN.mono ?_
      rintro e w' ⟨rfl, n, rfl⟩
      have hT1 : TableAt (w.drewN n) := hT
      have hB1 := drawn_below (w := w) n
      generalize w.drewN n = W1 at *
      go_wp2_with fail
      refine (cB W1 hT1).mono ?_
      rintro e w' ⟨rfl, n2, rfl⟩
      have hB2 := hB1.trans ((drawn_below (w := W1) n2).mono hB1.size)
      generalize W1.drewN n2 = W2 at *
      go_wp2_with fail
      go_ret
      exact ⟨rfl, hB2⟩
    · replace cN := cY (begins_of _ _ (by decide) g g' g2)
      have hm : (o % 4 == 0) = true := by simpa using g2
      clear cY g2
      go_enter Tryd.func4, Tryd.ntmps4
      go_wp2_with fail
      refine hf.mono ?_
      rintro e w' ⟨rfl, rfl⟩
      go_wp2_with fail
      refine w1.mono ?_
      rintro e w' ⟨rfl, rfl⟩
      go_wp2_with fail
      refine c1.mono ?_
      rintro e w' ⟨rfl, rfl⟩
      go_wp2_with fail
      refine oN.mono ?_
      rintro e w' ⟨rfl, rfl⟩
      go_wp2_with fail
      refine cN.mono ?_
      rintro e w' ⟨rfl, n, rfl⟩
      have hT1 : TableAt (w.drewN n) := hT
      have hB1 := drawn_below (w := w) n
      generalize w.drewN n = W1 at *
      go_wp2_with fail
      refine (cB W1 hT1).mono ?_
      rintro e w' ⟨rfl, n2, rfl⟩
      have hB2 := hB1.trans ((drawn_below (w := W1) n2).mono hB1.size)
      generalize W1.drewN n2 = W2 at *
      go_wp2_with fail
      go_ret
      exact ⟨rfl, hB2⟩

set_option maxHeartbeats 4000000 in
theorem cells_in2 (k o : Int) (w : World) (hT : TableAt w) (hlo : -9223372036854775808 ≤ o) (hhi : o ≤ 9223372036854775807) : Calls Tryd.prog 4 #[.int .i64 2, .int .i64 k, .int .i64 o] w fun e w' => e = .returned (.bool true) ∧ Below w.heap.size w w' := by
  have hf := fit_true w hT
  have c1 := cells_at 2 4 w hT rfl
  have w1 := words_at 2 8 w hT rfl
  have cN := fun h => cell_no 2 o w hT (begins_not 2 o h) hlo hhi
  have cY := fun h => cell_at 2 o (o / 8) w hT h rfl
  have oN := fun h => offset_no 2 k w hT h
  have oY := fun h0 h1 => offset_at 2 k (k * 8) w hT h0 h1 rfl
  have cB := fun h0 h1 (W1 : World) (hT1 : TableAt W1) => cell_at 2 (k * 8) k W1 hT1 (begins_of _ _ (by decide) h0 h1 (by show k * 8 % 8 = 0; omega)) (by show k * 8 / 8 = k; omega)
  rcases cell_cases k 4 with h | ⟨h, h'⟩ | ⟨h, h'⟩
  · replace oN := oN (.inl h)
    clear oY cB
    rcases off_cases o 8 with g | ⟨g, g'⟩ | ⟨g, g', g2⟩ | ⟨g, g', g2⟩
    · replace cN := cN (.inl g)
      clear cY
      go_enter Tryd.func4, Tryd.ntmps4
      go_wp2_with fail
      refine hf.mono ?_
      rintro e w' ⟨rfl, rfl⟩
      go_wp2_with fail
      refine w1.mono ?_
      rintro e w' ⟨rfl, rfl⟩
      go_wp2_with fail
      refine c1.mono ?_
      rintro e w' ⟨rfl, rfl⟩
      go_wp2_with fail
      refine oN.mono ?_
      rintro e w' ⟨rfl, rfl⟩
      go_wp2_with fail
      refine cN.mono ?_
      rintro e w' ⟨rfl, n, rfl⟩
      have hT1 : TableAt (w.drewN n) := hT
      have hB1 := drawn_below (w := w) n
      generalize w.drewN n = W1 at *
      go_wp2_with fail
      go_ret
      exact ⟨rfl, hB1⟩
    · replace cN := cN (.inr (.inl g'))
      clear cY
      go_enter Tryd.func4, Tryd.ntmps4
      go_wp2_with fail
      refine hf.mono ?_
      rintro e w' ⟨rfl, rfl⟩
      go_wp2_with fail
      refine w1.mono ?_
      rintro e w' ⟨rfl, rfl⟩
      go_wp2_with fail
      refine c1.mono ?_
      rintro e w' ⟨rfl, rfl⟩
      go_wp2_with fail
      refine oN.mono ?_
      rintro e w' ⟨rfl, rfl⟩
      go_wp2_with fail
      refine cN.mono ?_
      rintro e w' ⟨rfl, n, rfl⟩
      have hT1 : TableAt (w.drewN n) := hT
      have hB1 := drawn_below (w := w) n
      generalize w.drewN n = W1 at *
      go_wp2_with fail
      go_ret
      exact ⟨rfl, hB1⟩
    · replace cN := cN (.inr (.inr g2))
      have hm : (o % 8 == 0) = false := by simpa using g2
      clear cY g2
      go_enter Tryd.func4, Tryd.ntmps4
      go_wp2_with fail
      refine hf.mono ?_
      rintro e w' ⟨rfl, rfl⟩
      go_wp2_with fail
      refine w1.mono ?_
      rintro e w' ⟨rfl, rfl⟩
      go_wp2_with fail
      refine c1.mono ?_
      rintro e w' ⟨rfl, rfl⟩
      go_wp2_with fail
      refine oN.mono ?_
      rintro e w' ⟨rfl, rfl⟩
      go_wp2_with fail
      refine cN.mono ?_
      rintro e w' ⟨rfl, n, rfl⟩
      have hT1 : TableAt (w.drewN n) := hT
      have hB1 := drawn_below (w := w) n
      generalize w.drewN n = W1 at *
      go_wp2_with fail
      go_ret
      exact ⟨rfl, hB1⟩
    · replace cN := cY (begins_of _ _ (by decide) g g' g2)
      have hm : (o % 8 == 0) = true := by simpa using g2
      clear cY g2
      go_enter Tryd.func4, Tryd.ntmps4
      go_wp2_with fail
      refine hf.mono ?_
      rintro e w' ⟨rfl, rfl⟩
      go_wp2_with fail
      refine w1.mono ?_
      rintro e w' ⟨rfl, rfl⟩
      go_wp2_with fail
      refine c1.mono ?_
      rintro e w' ⟨rfl, rfl⟩
      go_wp2_with fail
      refine oN.mono ?_
      rintro e w' ⟨rfl, rfl⟩
      go_wp2_with fail
      refine cN.mono ?_
      rintro e w' ⟨rfl, n, rfl⟩
      have hT1 : TableAt (w.drewN n) := hT
      have hB1 := drawn_below (w := w) n
      generalize w.drewN n = W1 at *
      go_wp2_with fail
      go_ret
      exact ⟨rfl, hB1⟩
  · replace oN := oN (.inr h')
    clear oY cB
    rcases off_cases o 8 with g | ⟨g, g'⟩ | ⟨g, g', g2⟩ | ⟨g, g', g2⟩
    · replace cN := cN (.inl g)
      clear cY
      go_enter Tryd.func4, Tryd.ntmps4
      go_wp2_with fail
      refine hf.mono ?_
      rintro e w' ⟨rfl, rfl⟩
      go_wp2_with fail
      refine w1.mono ?_
      rintro e w' ⟨rfl, rfl⟩
      go_wp2_with fail
      refine c1.mono ?_
      rintro e w' ⟨rfl, rfl⟩
      go_wp2_with fail
      refine oN.mono ?_
      rintro e w' ⟨rfl, rfl⟩
      go_wp2_with fail
      refine cN.mono ?_
      rintro e w' ⟨rfl, n, rfl⟩
      have hT1 : TableAt (w.drewN n) := hT
      have hB1 := drawn_below (w := w) n
      generalize w.drewN n = W1 at *
      go_wp2_with fail
      go_ret
      exact ⟨rfl, hB1⟩
    · replace cN := cN (.inr (.inl g'))
      clear cY
      go_enter Tryd.func4, Tryd.ntmps4
      go_wp2_with fail
      refine hf.mono ?_
      rintro e w' ⟨rfl, rfl⟩
      go_wp2_with fail
      refine w1.mono ?_
      rintro e w' ⟨rfl, rfl⟩
      go_wp2_with fail
      refine c1.mono ?_
      rintro e w' ⟨rfl, rfl⟩
      go_wp2_with fail
      refine oN.mono ?_
      rintro e w' ⟨rfl, rfl⟩
      go_wp2_with fail
      refine cN.mono ?_
      rintro e w' ⟨rfl, n, rfl⟩
      have hT1 : TableAt (w.drewN n) := hT
      have hB1 := drawn_below (w := w) n
      generalize w.drewN n = W1 at *
      go_wp2_with fail
      go_ret
      exact ⟨rfl, hB1⟩
    · replace cN := cN (.inr (.inr g2))
      have hm : (o % 8 == 0) = false := by simpa using g2
      clear cY g2
      go_enter Tryd.func4, Tryd.ntmps4
      go_wp2_with fail
      refine hf.mono ?_
      rintro e w' ⟨rfl, rfl⟩
      go_wp2_with fail
      refine w1.mono ?_
      rintro e w' ⟨rfl, rfl⟩
      go_wp2_with fail
      refine c1.mono ?_
      rintro e w' ⟨rfl, rfl⟩
      go_wp2_with fail
      refine oN.mono ?_
      rintro e w' ⟨rfl, rfl⟩
      go_wp2_with fail
      refine cN.mono ?_
      rintro e w' ⟨rfl, n, rfl⟩
      have hT1 : TableAt (w.drewN n) := hT
      have hB1 := drawn_below (w := w) n
      generalize w.drewN n = W1 at *
      go_wp2_with fail
      go_ret
      exact ⟨rfl, hB1⟩
    · replace cN := cY (begins_of _ _ (by decide) g g' g2)
      have hm : (o % 8 == 0) = true := by simpa using g2
      clear cY g2
      go_enter Tryd.func4, Tryd.ntmps4
      go_wp2_with fail
      refine hf.mono ?_
      rintro e w' ⟨rfl, rfl⟩
      go_wp2_with fail
      refine w1.mono ?_
      rintro e w' ⟨rfl, rfl⟩
      go_wp2_with fail
      refine c1.mono ?_
      rintro e w' ⟨rfl, rfl⟩
      go_wp2_with fail
      refine oN.mono ?_
      rintro e w' ⟨rfl, rfl⟩
      go_wp2_with fail
      refine cN.mono ?_
      rintro e w' ⟨rfl, n, rfl⟩
      have hT1 : TableAt (w.drewN n) := hT
      have hB1 := drawn_below (w := w) n
      generalize w.drewN n = W1 at *
      go_wp2_with fail
      go_ret
      exact ⟨rfl, hB1⟩
  · replace oN := oY h h'
    clear oY
    replace cB := cB (by omega) (by omega)
    have hle : decide (k * 8 + 8 ≤ 32) = true := by simp; omega
    rcases off_cases o 8 with g | ⟨g, g'⟩ | ⟨g, g', g2⟩ | ⟨g, g', g2⟩
    · replace cN := cN (.inl g)
      clear cY
      go_enter Tryd.func4, Tryd.ntmps4
      go_wp2_with fail
      refine hf.mono ?_
      rintro e w' ⟨rfl, rfl⟩
      go_wp2_with fail
      refine w1.mono ?_
      rintro e w' ⟨rfl, rfl⟩
      go_wp2_with fail
      refine c1.mono ?_
      rintro e w' ⟨rfl, rfl⟩
      go_wp2_with fail
      refine oN.mono ?_
      rintro e w' ⟨rfl, rfl⟩
      go_wp2_with fail
      refine cN.mono ?_
      rintro e w' ⟨rfl, n, rfl⟩
      have hT1 : TableAt (w.drewN n) := hT
      have hB1 := drawn_below (w := w) n
      generalize w.drewN n = W1 at *
      go_wp2_with fail
      refine (cB W1 hT1).mono ?_
      rintro e w' ⟨rfl, n2, rfl⟩
      have hB2 := hB1.trans ((drawn_below (w := W1) n2).mono hB1.size)
      generalize W1.drewN n2 = W2 at *
      go_wp2_with fail
      go_ret
      exact ⟨rfl, hB2⟩
    · replace cN := cN (.inr (.inl g'))
      clear cY
      go_enter Tryd.func4, Tryd.ntmps4
      go_wp2_with fail
      refine hf.mono ?_
      rintro e w' ⟨rfl, rfl⟩
      go_wp2_with fail
      refine w1.mono ?_
      rintro e w' ⟨rfl, rfl⟩
      go_wp2_with fail
      refine c1.mono ?_
      rintro e w' ⟨rfl, rfl⟩
      go_wp2_with fail
      refine oN.mono ?_
      rintro e w' ⟨rfl, rfl⟩
      go_wp2_with fail
      refine cN.mono ?_
      rintro e w' ⟨rfl, n, rfl⟩
      have hT1 : TableAt (w.drewN n) := hT
      have hB1 := drawn_below (w := w) n
      generalize w.drewN n = W1 at *
      go_wp2_with fail
      refine (cB W1 hT1).mono ?_
      rintro e w' ⟨rfl, n2, rfl⟩
      have hB2 := hB1.trans ((drawn_below (w := W1) n2).mono hB1.size)
      generalize W1.drewN n2 = W2 at *
      go_wp2_with fail
      go_ret
      exact ⟨rfl, hB2⟩
    · replace cN := cN (.inr (.inr g2))
      have hm : (o % 8 == 0) = false := by simpa using g2
      clear cY g2
      go_enter Tryd.func4, Tryd.ntmps4
      go_wp2_with fail
      refine hf.mono ?_
      rintro e w' ⟨rfl, rfl⟩
      go_wp2_with fail
      refine w1.mono ?_
      rintro e w' ⟨rfl, rfl⟩
      go_wp2_with fail
      refine c1.mono ?_
      rintro e w' ⟨rfl, rfl⟩
      go_wp2_with fail
      refine oN.mono ?_
      rintro e w' ⟨rfl, rfl⟩
      go_wp2_with fail
      refine cN.mono ?_
      rintro e w' ⟨rfl, n, rfl⟩
      have hT1 : TableAt (w.drewN n) := hT
      have hB1 := drawn_below (w := w) n
      generalize w.drewN n = W1 at *
      go_wp2_with fail
      refine (cB W1 hT1).mono ?_
      rintro e w' ⟨rfl, n2, rfl⟩
      have hB2 := hB1.trans ((drawn_below (w := W1) n2).mono hB1.size)
      generalize W1.drewN n2 = W2 at *
      go_wp2_with fail
      go_ret
      exact ⟨rfl, hB2⟩
    · replace cN := cY (begins_of _ _ (by decide) g g' g2)
      have hm : (o % 8 == 0) = true := by simpa using g2
      clear cY g2
      go_enter Tryd.func4, Tryd.ntmps4
      go_wp2_with fail
      refine hf.mono ?_
      rintro e w' ⟨rfl, rfl⟩
      go_wp2_with fail
      refine w1.mono ?_
      rintro e w' ⟨rfl, rfl⟩
      go_wp2_with fail
      refine c1.mono ?_
      rintro e w' ⟨rfl, rfl⟩
      go_wp2_with fail
      refine oN.mono ?_
      rintro e w' ⟨rfl, rfl⟩
      go_wp2_with fail
      refine cN.mono ?_
      rintro e w' ⟨rfl, n, rfl⟩
      have hT1 : TableAt (w.drewN n) := hT
      have hB1 := drawn_below (w := w) n
      generalize w.drewN n = W1 at *
      go_wp2_with fail
      refine (cB W1 hT1).mono ?_
      rintro e w' ⟨rfl, n2, rfl⟩
      have hB2 := hB1.trans ((drawn_below (w := W1) n2).mono hB1.size)
      generalize W1.drewN n2 = W2 at *
      go_wp2_with fail
      go_ret
      exact ⟨rfl, hB2⟩

set_option maxHeartbeats 4000000 in
theorem cells_out (c k o : Int) (w : World) (hT : TableAt w) (hc : c < 0 ∨ 3 ≤ c) : Calls Tryd.prog 4 #[.int .i64 c, .int .i64 k, .int .i64 o] w fun e w' => e = .returned (.bool true) ∧ Below w.heap.size w w' := by
  have hf := fit_true w hT
  have h0 : ¬ c = 0 := by omega
  have h1 : ¬ c = 1 := by omega
  have h2 : ¬ c = 2 := by omega
  have hW : wordsOf c = 0 := by unfold wordsOf; simp [h0, h1, h2]
  have hC : cellsOfC c = 0 := by unfold cellsOfC; simp [h0, h1, h2]
  have c1 := cells_at c 0 w hT hC
  have w1 := words_at c 0 w hT hW
  have cN := cell_none c o w hT hW
  have oN := offset_no c k w hT (by rw [hC]; omega)
  clear hW hC h0 h1 h2
  rcases hc with hc | hc
  · rcases cell_cases k 0 with h | ⟨h, h'⟩ | ⟨h, h'⟩
    · go_enter Tryd.func4, Tryd.ntmps4
      go_wp2_with fail
      refine hf.mono ?_
      rintro e w' ⟨rfl, rfl⟩
      go_wp2_with fail
      refine w1.mono ?_
      rintro e w' ⟨rfl, rfl⟩
      go_wp2_with fail
      refine c1.mono ?_
      rintro e w' ⟨rfl, rfl⟩
      go_wp2_with fail
      refine oN.mono ?_
      rintro e w' ⟨rfl, rfl⟩
      go_wp2_with fail
      refine cN.mono ?_
      rintro e w' ⟨rfl, n, rfl⟩
      have hT1 : TableAt (w.drewN n) := hT
      have hB1 := drawn_below (w := w) n
      generalize w.drewN n = W1 at *
      go_wp2_with fail
      go_ret
      exact ⟨rfl, hB1⟩
    · go_enter Tryd.func4, Tryd.ntmps4
      go_wp2_with fail
      refine hf.mono ?_
      rintro e w' ⟨rfl, rfl⟩
      go_wp2_with fail
      refine w1.mono ?_
      rintro e w' ⟨rfl, rfl⟩
      go_wp2_with fail
      refine c1.mono ?_
      rintro e w' ⟨rfl, rfl⟩
      go_wp2_with fail
      refine oN.mono ?_
      rintro e w' ⟨rfl, rfl⟩
      go_wp2_with fail
      refine cN.mono ?_
      rintro e w' ⟨rfl, n, rfl⟩
      have hT1 : TableAt (w.drewN n) := hT
      have hB1 := drawn_below (w := w) n
      generalize w.drewN n = W1 at *
      go_wp2_with fail
      go_ret
      exact ⟨rfl, hB1⟩
    · omega
  · have hc' : ¬ c < 0 := by omega
    have hc2 : 0 ≤ c := by omega
    rcases cell_cases k 0 with h | ⟨h, h'⟩ | ⟨h, h'⟩
    · go_enter Tryd.func4, Tryd.ntmps4
      go_wp2_with fail
      refine hf.mono ?_
      rintro e w' ⟨rfl, rfl⟩
      go_wp2_with fail
      refine w1.mono ?_
      rintro e w' ⟨rfl, rfl⟩
      go_wp2_with fail
      refine c1.mono ?_
      rintro e w' ⟨rfl, rfl⟩
      go_wp2_with fail
      refine oN.mono ?_
      rintro e w' ⟨rfl, rfl⟩
      go_wp2_with fail
      refine cN.mono ?_
      rintro e w' ⟨rfl, n, rfl⟩
      have hT1 : TableAt (w.drewN n) := hT
      have hB1 := drawn_below (w := w) n
      generalize w.drewN n = W1 at *
      go_wp2_with fail
      go_ret
      exact ⟨rfl, hB1⟩
    · go_enter Tryd.func4, Tryd.ntmps4
      go_wp2_with fail
      refine hf.mono ?_
      rintro e w' ⟨rfl, rfl⟩
      go_wp2_with fail
      refine w1.mono ?_
      rintro e w' ⟨rfl, rfl⟩
      go_wp2_with fail
      refine c1.mono ?_
      rintro e w' ⟨rfl, rfl⟩
      go_wp2_with fail
      refine oN.mono ?_
      rintro e w' ⟨rfl, rfl⟩
      go_wp2_with fail
      refine cN.mono ?_
      rintro e w' ⟨rfl, n, rfl⟩
      have hT1 : TableAt (w.drewN n) := hT
      have hB1 := drawn_below (w := w) n
      generalize w.drewN n = W1 at *
      go_wp2_with fail
      go_ret
      exact ⟨rfl, hB1⟩
    · omega

theorem cells_law (c k o : Int) (wo : (Lit.int .i64 o).wf = true) (w : World) (hT : TableAt w) : Calls Tryd.prog 4 #[.int .i64 c, .int .i64 k, .int .i64 o] w fun e w' => e = .returned (.bool true) ∧ Below w.heap.size w w' := by
  have hr : -9223372036854775808 ≤ o ∧ o ≤ 9223372036854775807 := by
    simp [Lit.wf, IntKind.min, IntKind.max, IntKind.signed, IntKind.bits] at wo
    omega
  by_cases h : c < 0 ∨ 3 ≤ c
  · exact cells_out c k o w hT h
  · have hc : c = 0 ∨ c = 1 ∨ c = 2 := by omega
    rcases hc with rfl | rfl | rfl
    · exact cells_in0 k o w hT hr.1 hr.2
    · exact cells_in1 k o w hT hr.1 hr.2
    · exact cells_in2 k o w hT hr.1 hr.2
end Go.Proofs.YtbahichdoafliabDoor
