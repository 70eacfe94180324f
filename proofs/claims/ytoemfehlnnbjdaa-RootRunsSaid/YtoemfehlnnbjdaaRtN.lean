/- A new table; at this seat's numbers. -/
import Derived.Test.YtoemfehlnnbjdaaRtA
namespace Go.Proofs.Ytoemfehlnnbjdaa
open Go Go.RowKit Go.Shelf
set_option linter.unusedSimpArgs false
set_option linter.unusedVariables false
attribute [local go_sem] Oper.semAt_some

theorem make_refZ (n : Nat) (hn : n ≤ 4096) (w : World) : (Instr.makeSlice 30 (.int .i64 (n : Int)) (.int .i64 (n : Int))).run Try.prog w = .ok (.slice (some ⟨w.heap.size, 0, none⟩) n n) (w.alloc (.cells (refV (List.replicate n 0)) 31)) := by
  obtain ⟨i0, hi, hz0, hz1, hz2⟩ := info_parts infoRefT
  have h := run_make (P := Try.prog) w 30 31 i0 (.int .i64 0) Try.underlying30 hi hz0 .i64 .i64 (n : Int) (n : Int) (by omega) (Int.le_refl _) (by rw [hz2]; omega) (by omega)
  simp only [Int.toNat_natCast, hz1] at h
  rw [h]
  have e : madeCells (Value.int .i64 0).cells (n * 1) = refV (List.replicate n 0) := by
    unfold refV
    apply Array.ext'
    rw [Nat.mul_one]
    refine (toList_madeCells_one (Value.int .i64 0) n).trans ?_
    apply List.ext_getElem
    · simp
    · intro i h1 h2
      simp
  rw [e]
set_option maxRecDepth 100000 in
set_option maxHeartbeats 4000000 in
theorem rtNew (N G : Nat) (regs stk : Int) (hN : N ≤ 4) (hG : G ≤ 4) (h1 : regs ≤ 4096) (h2 : stk ≤ 4096) (w : World) :
    Calls Try.prog 10 #[.agg #[.int .i64 0, .bool false, .int .i64 0, .int .i64 (N : Int), .int .i64 regs, .int .i64 stk, .int .i64 (G : Int), .int .i64 0, .int .i64 0, .int .i64 0, .int .i64 0]] w fun e w' =>
      ∃ R, e = .returned (.pointer (some ⟨R.t, 0, none⟩)) ∧ RtAt w' R N regs stk (List.replicate G 0) (fun _ => none) ∧ (∀ k, R.has (fun _ => none) k → w.heap.size ≤ k) ∧ Below w.heap.size w w' := by
  have hm1 : (if (G : Int) < 0 then 0 else (G : Int)) = (G : Int) := by split <;> omega
  have hm2 : (if 4 < (G : Int) then 4 else (G : Int)) = (G : Int) := by split <;> omega
  have hm3 : (if 4 < (N : Int) then 4 else (N : Int)) = (N : Int) := by split <;> omega
  have hmk := make_refZ G (by omega)
  have fin : ∀ (b0 : Array Value), ∃ R : RtB, Ending.returned (.pointer (some ⟨w.heap.size + 2, 0, none⟩)) = .returned (.pointer (some ⟨R.t, 0, none⟩)) ∧ RtAt (((w.alloc (.cells b0 25)).alloc (.cells (refV (List.replicate G 0)) 31)).alloc (.cells (headV (w.heap.size + 1) G (N : Int) regs stk (fun _ => none)) 60)) R N regs stk (List.replicate G 0) (fun _ => none) ∧ (∀ k, R.has (fun _ => none) k → w.heap.size ≤ k) ∧ Below w.heap.size w (((w.alloc (.cells b0 25)).alloc (.cells (refV (List.replicate G 0)) 31)).alloc (.cells (headV (w.heap.size + 1) G (N : Int) regs stk (fun _ => none)) 60)) := by
    intro b0
    have e1 : (w.alloc (.cells b0 25)).heap.size = w.heap.size + 1 := by simp
    have e2 : ((w.alloc (.cells b0 25)).alloc (.cells (refV (List.replicate G 0)) 31)).heap.size = w.heap.size + 2 := by simp
    refine ⟨⟨w.heap.size + 2, w.heap.size + 1, fun _ => ⟨0, .slice none 0 0, .slice none 0 0⟩⟩, rfl, ⟨?_, ?_, fun i m h => (by cases h), fun i m h => (by cases h), fun i j m m' h => (by cases h), by simp, fun i m h => (by cases h), hN, by simpa using hG, h1, h2⟩, ?_, ?_⟩
    · have := Blk.new ((w.alloc (.cells b0 25)).alloc (.cells (refV (List.replicate G 0)) 31)) (headV (w.heap.size + 1) G (N : Int) regs stk (fun _ => none)) 60
      rw [e2] at this
      simpa using this
    · have := (Blk.new (w.alloc (.cells b0 25)) (refV (List.replicate G 0)) 31).alloc (.cells (headV (w.heap.size + 1) G (N : Int) regs stk (fun _ => none)) 60)
      rw [e1] at this
      exact this
    · rintro k (rfl | rfl | ⟨i, m, e, _⟩)
      · show w.heap.size ≤ w.heap.size + 2; omega
      · show w.heap.size ≤ w.heap.size + 1; omega
      · cases e
    · exact (((Below.refl w.heap.size w).alloc (Nat.le_refl _) _).alloc (by omega) _).alloc (by omega) _
  have FIN := Lib.hid fin
  clear fin
  go_enter Try.func10, Try.ntmps10
  go_wp2_with fail
  go_region
  go_wp2_with fail
  go_ret
  obtain ⟨R, a1, a2, a3, a4⟩ := FIN.out #[.int .i64 0, .bool false, .int .i64 0, .int .i64 (N : Int), .int .i64 regs, .int .i64 stk, .int .i64 (G : Int), .int .i64 0, .int .i64 0, .int .i64 0, .int .i64 0]
  exact ⟨R, a1, a2.below (Below.refl _ _).drew, a3, a4.drew⟩
theorem rtIn_new {B : Nat} {F : Nat → Prop} {wb wr : World} (N G : Nat) (regs stk : Int) (hN : N ≤ 4) (hG : G ≤ 4) (h1 : regs ≤ 4096) (h2 : stk ≤ 4096) (hF : ∀ k, F k → k < wr.heap.size) (hB : Below B wb wr) (hb : B ≤ wb.heap.size) :
    Calls Try.prog 10 #[.agg #[.int .i64 0, .bool false, .int .i64 0, .int .i64 (N : Int), .int .i64 regs, .int .i64 stk, .int .i64 (G : Int), .int .i64 0, .int .i64 0, .int .i64 0, .int .i64 0]] wr fun e w' =>
      ∃ t, e = .returned (.pointer (some ⟨t, 0, none⟩)) ∧ RtIn B F t N regs stk (List.replicate G 0) (fun _ => none) wb w' ∧ Keep F wr w' := by
  refine (rtNew N G regs stk hN hG h1 h2 wr).mono ?_
  rintro e w1 ⟨R, rfl, hA, hT, hB1⟩
  have hs := hB.size
  exact ⟨R.t, rfl, ⟨⟨R, rfl, hA, fun k hk => ⟨by have := hT k hk; omega, fun e => by have := hT k hk; have := hF k e; omega⟩⟩, fun k hk => Nat.lt_of_lt_of_le (hF k hk) hB1.size, hB.trans (hB1.mono (by omega)), hb⟩, hB1.size, fun k hk => hB1.block k (hF k hk)⟩
end Go.Proofs.Ytoemfehlnnbjdaa
