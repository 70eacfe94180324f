/- fit of layer 5's laws; at this seat's numbers. -/
import Derived.Test.YtfipflghnhfcjaaCdA
namespace Go.Proofs.Ytfipflghnhfcjaa
open Go Go.RowKit Go.Shelf Go.MuLone Go.RwLone
set_option linter.unusedSimpArgs false
set_option linter.unusedVariables false

theorem ar_new (n : Int) (c : Nat) (hn : (c : Int) = min (max n 0) 64) (w : World) : Calls Try.prog 11 #[.int .i64 n] w fun e w' =>
    ∃ X, e = .returned (.pointer (some ⟨X.a, 0, none⟩)) ∧ ArMem w' X (.new c) ∧ (∀ k, X.has k → w.heap.size ≤ k) ∧ Below w.heap.size w w' := (new_arena n c hn w).mono fun _ _ ⟨X, h1, h2, h3, h4⟩ => ⟨X, h1, h2.toArMem, h3, h4⟩
theorem card_one1 (p : Nat) (hp : p < 4096) : card (fun j => false || decide (j = p)) = 1 := by
  have h := card_put (fun _ => false) p hp rfl
  rw [card_none _ (fun _ => rfl)] at h
  exact h
set_option maxRecDepth 100000 in
set_option maxHeartbeats 2000000 in
theorem cdfit_true (w : World) : Calls Try.prog 9 #[] w fun e w' => e = .returned (.bool true) ∧ Below w.heap.size w w' := by
  go_enter Try.func9, Try.ntmps9
  go_wp2_with fail
  refine (ar_new 3 3 (by decide) w).mono ?_
  rintro e w1 ⟨X, rfl, hA, hX, hB⟩
  go_wp2_with fail
  refine (cdNew (B := w.heap.size) (wb := w) hA hX hB (Nat.le_refl _)).mono ?_
  rintro e w2 ⟨C, rfl, h2, _, _⟩
  clear hA hB hX
  have e1 : dirtyS (ArS.new 3).P (fun _ => false) 40 = fun j => false || decide (j = 1) := by
    unfold dirtyS
    rw [if_pos (by decide)]
    rfl
  go_wp2_with fail
  refine (h2.dirty 40 true (by decide)).mono ?_
  rintro e w3 ⟨rfl, lo3, h3, _⟩
  rw [e1] at h3
  clear h2 e1
  go_wp2_with fail
  refine (h3.is_ 1 true (by decide)).mono ?_
  rintro e w4 ⟨rfl, hB4⟩
  have h4 := h3.ask hB4
  clear h3 hB4
  go_wp2_with fail
  refine (h4.is_ 0 false (by decide)).mono ?_
  rintro e w5 ⟨rfl, hB5⟩
  have h5 := h4.ask hB5
  clear h4 hB5
  go_wp2_with fail
  refine (h5.dirty 0 false (by decide)).mono ?_
  rintro e w6 ⟨rfl, lo6, h6, _⟩
  have e2 : dirtyS (ArS.new 3).P (fun j => false || decide (j = 1)) 0 = fun j => false || decide (j = 1) := by
    unfold dirtyS
    rw [if_neg (by decide)]
  rw [e2] at h6
  clear h5 e2
  have c0 : w6.cell? ⟨C.t, 0, none⟩ = some (.pointer (some ⟨C.b, 0, none⟩)) := h6.cd.c0
  go_wp2_with fail
  refine (h6.count 1 (card_one1 1 (by decide))).mono ?_
  rintro e w7 ⟨rfl, h7, _⟩
  clear h6 c0
  have hbl := h7.below
  go_wp2_with fail
  go_ret
  exact ⟨rfl, hbl⟩
end Go.Proofs.Ytfipflghnhfcjaa
