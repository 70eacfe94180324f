/- next, at this seat's numbers. -/
import Derived.Lib.TrailingZeros
import Derived.Laws.Bits64b
import Derived.Test.YtfipflghnhfcjaaSetL
namespace Go.Proofs.Ytfipflghnhfcjaa
open Go.RowKit Go.Shelf Go.MuLone Go.RwLone
attribute [local go_sem] Oper.semAt_some

theorem wrap_u64_nat (x : Nat) (h : x < 18446744073709551616) : IntKind.u64.wrap (x : Int) = (x : Int) := by
  rw [IntKind.wrap_u64]; omega
theorem tz_key (x a : Nat) (hx : x < 18446744073709551616) (hx0 : x ≠ 0) (hlow : x &&& (18446744073709551616 - x) = a) :
    IntKind.u64.wrap (bits BinOp.and IntKind.u64 (x : Int) (IntKind.u64.wrap (-(x : Int))) * 285870213051353865) / 288230376151711744 = ((a * 285870213051353865 % 18446744073709551616 / 288230376151711744 : Nat) : Int) := by
  have e1 : IntKind.u64.wrap (-(x : Int)) = ((18446744073709551616 - x : Nat) : Int) := by rw [IntKind.wrap_u64]; omega
  rw [e1, u64_and_nat x _ hx (by omega), hlow, IntKind.wrap_u64]
  omega

/-- From which bit on word k is looked at, where numbers from i on are looked for. -/
def from_ (i k : Nat) : Nat := if k * 64 < i then i % 64 else 0
/-- What is left of a word. -/
def leftOf (i k y : Nat) : Nat := if k * 64 < i then y &&& (2 ^ 64 - ((2 ^ (i % 64) - 1) + 1)) else y
theorem leftOf_lt (i k y : Nat) (hy : y < 18446744073709551616) : leftOf i k y < 18446744073709551616 := by
  unfold leftOf
  split
  · exact Nat.lt_of_le_of_lt Nat.and_le_left hy
  · exact hy
theorem leftOf_test (i k y t : Nat) (ht : t < 64) : (leftOf i k y).testBit t = (y.testBit t && decide (from_ i k ≤ t)) := by
  unfold leftOf from_
  split
  · have hp : 2 ^ (i % 64) - 1 < 2 ^ 64 := by
      have : 2 ^ (i % 64) ≤ 2 ^ 63 := Nat.pow_le_pow_right (by decide) (by omega)
      omega
    rw [Nat.testBit_and, Nat.testBit_two_pow_sub_succ hp, Nat.testBit_two_pow_sub_one]
    congr 1
    rw [Bool.eq_iff_iff]; simp; omega
  · simp
theorem leftOf_andNot (i k y : Nat) (hy : y < 18446744073709551616) (h : k * 64 < i) :
    bits .andNot .u64 (y : Int) (IntKind.u64.wrap (((bitN (i : Int) : Nat) : Int) - 1)) = ((leftOf i k y : Nat) : Int) := by
  have hb := bitN_lt (i : Int)
  have hb1 : 1 ≤ bitN (i : Int) := by rw [bitN_nat]; exact Nat.two_pow_pos _
  have e : (((bitN (i : Int) : Nat) : Int) - 1) = ((bitN (i : Int) - 1 : Nat) : Int) := by omega
  rw [e, wrap_u64_nat _ (by omega), u64_andNot_nat y _ hy (by omega)]
  unfold leftOf
  rw [if_pos h, ← bitN_nat, show 18446744073709551615 - (bitN (i : Int) - 1) = 2 ^ 64 - (bitN (i : Int) - 1 + 1) by omega]

/-- The lowest bit. -/
theorem ctz_test (x : Nat) (hx : x < 18446744073709551616) (h0 : x ≠ 0) : Lib.ctz 64 x < 64 ∧ x.testBit (Lib.ctz 64 x) = true ∧ ∀ t, t < Lib.ctz 64 x → x.testBit t = false := by
  have e : Lib.ctz 64 x = Lib.ctzFrom 64 x := by simp [Lib.ctz, h0]
  obtain ⟨q, hq, hk⟩ := Lib.ctzFrom_spec 64 x (by omega) hx
  rw [e]
  generalize Lib.ctzFrom 64 x = c at *
  refine ⟨hk, ?_, fun t ht => ?_⟩
  · rw [hq, Nat.testBit_two_pow_mul]
    simp
  · rw [hq, Nat.testBit_two_pow_mul]
    have : ¬ (t ≥ c) := by omega
    simp [this]
theorem zero_test (x : Nat) (h0 : x = 0) (t : Nat) : x.testBit t = false := by subst h0; simp

/-- Word k has none from its place on. -/
def NoneIn (S : Nat → Bool) (i k : Nat) : Prop := ∀ t, t < 64 → from_ i k ≤ t → S (64 * k + t) = false
/-- Bit t of word k is the first one from its place on. -/
def FirstIn (S : Nat → Bool) (i k t : Nat) : Prop := t < 64 ∧ from_ i k ≤ t ∧ S (64 * k + t) = true ∧ ∀ t', t' < t → from_ i k ≤ t' → S (64 * k + t') = false

theorem word_none {S : Nat → Bool} {i k y : Nat} (hb : ∀ j, j < 64 → y.testBit j = S (64 * k + j)) (h : leftOf i k y = 0) : NoneIn S i k := fun t ht hf => by
  have e := zero_test _ h t
  rw [leftOf_test i k y t ht, hb t ht] at e
  simpa [hf] using e
theorem word_first {S : Nat → Bool} {i k y : Nat} (hy : y < 18446744073709551616) (hb : ∀ j, j < 64 → y.testBit j = S (64 * k + j)) (h : leftOf i k y ≠ 0) : FirstIn S i k (Lib.ctz 64 (leftOf i k y)) := by
  obtain ⟨h1, h2, h3⟩ := ctz_test _ (leftOf_lt i k y hy) h
  rw [leftOf_test i k y _ h1, hb _ h1] at h2
  simp at h2
  refine ⟨h1, h2.2, h2.1, fun t' ht hf => ?_⟩
  have e := h3 t' ht
  rw [leftOf_test i k y t' (by omega), hb t' (by omega)] at e
  simpa [hf] using e

/-- What next answers: the least number from i on. -/
def NextIs (S : Nat → Bool) (i j : Nat) : Prop := i ≤ j ∧ S j = true ∧ ∀ k, i ≤ k → k < j → S k = false
theorem wks_mem {a q : Nat} {x : Fin 64} (h : x ∈ wks a q) (hq : a + q ≤ 64) : a ≤ x.1 ∧ x.1 < a + q := by
  unfold wks at h
  simp only [List.mem_map, List.mem_range'_1] at h
  obtain ⟨y, hy, rfl⟩ := h
  rw [wk_val (by omega)]
  exact hy
theorem wks_has {a q k : Nat} (h1 : a ≤ k) (h2 : k < a + q) : wk k ∈ wks a q := by
  unfold wks
  simp only [List.mem_map, List.mem_range'_1]
  exact ⟨k, ⟨h1, h2⟩, rfl⟩
theorem from_le {i k : Nat} (h : i / 64 ≤ k) {j : Nat} (hj : j / 64 = k) (hij : i ≤ j) : from_ i k ≤ j % 64 := by
  unfold from_
  split
  · omega
  · omega
theorem next_none {S : Nat → Bool} {i : Nat} (hS : ∀ j, S j = true → j < 4096) (h : ∀ x ∈ wks (i / 64) (64 - i / 64), NoneIn S i x.1) : ∀ j, i ≤ j → S j = false := fun j hj => by
  by_cases hlt : j < 4096
  · have hm := h (wk (j / 64)) (wks_has (by omega) (by omega))
    rw [wk_val (by omega)] at hm
    have := hm (j % 64) (by omega) (from_le (by omega) rfl hj)
    rw [show 64 * (j / 64) + j % 64 = j by omega] at this
    exact this
  · cases hs : S j with
    | false => rfl
    | true => exact absurd (hS j hs) hlt
theorem next_found {S : Nat → Bool} {i q t : Nat} (hq : i / 64 + q < 64) (h : ∀ x ∈ wks (i / 64) q, NoneIn S i x.1) (hf : FirstIn S i (i / 64 + q) t) : NextIs S i (64 * (i / 64 + q) + t) := by
  obtain ⟨h1, h2, h3, h4⟩ := hf
  refine ⟨?_, h3, fun k hk hlt => ?_⟩
  · unfold from_ at h2
    split at h2
    · omega
    · omega
  · by_cases hkq : k / 64 = i / 64 + q
    · have := h4 (k % 64) (by omega) (from_le (by omega) hkq hk)
      rw [show 64 * (i / 64 + q) + k % 64 = k by omega] at this
      exact this
    · have hm := h (wk (k / 64)) (wks_has (by omega) (by omega))
      rw [wk_val (by omega)] at hm
      have := hm (k % 64) (by omega) (from_le (by omega) rfl hk)
      rw [show 64 * (k / 64) + k % 64 = k by omega] at this
      exact this

/-- What next leaves. -/
def NextPost (b : Nat) (lo : Option Nat) (m : Nat) (S : Nat → Bool) (i : Nat) (w : World) (e : Ending) (w' : World) : Prop :=
  ((∃ j, NextIs S i j ∧ e = .returned (.tuple #[.int .i64 (j : Int), .bool true])) ∨ ((∀ j, i ≤ j → S j = false) ∧ e = .returned (.tuple #[.int .i64 0, .bool false]))) ∧ SetAt w' b lo m S ∧ Turn (fun k => k = b) w w'

/-- The world behind the three boxes of next. -/
def nextWorld (i : Int) (w : World) : World := ((w.alloc (.cells #[.int .i64 i] 3)).alloc (.cells #[.int .i64 0] 3)).alloc (.cells #[.bool false] 4)
theorem nextWorld_boxes (i : Int) (w : World) : Blk (nextWorld i w) w.heap.size #[.int .i64 i] 3 ∧ Blk (nextWorld i w) (w.heap.size + 1) #[.int .i64 0] 3 ∧ Blk (nextWorld i w) (w.heap.size + 1 + 1) #[.bool false] 4 := by
  unfold nextWorld
  refine ⟨((Blk.new w _ _).alloc _).alloc _, ?_, ?_⟩
  · have h := (Blk.new (w.alloc (.cells #[.int .i64 i] 3)) #[.int .i64 0] 3).alloc (.cells #[.bool false] 4)
    rw [World.size_alloc] at h
    exact h
  · have h := Blk.new ((w.alloc (.cells #[.int .i64 i] 3)).alloc (.cells #[.int .i64 0] 3)) #[.bool false] 4
    rw [World.size_alloc, World.size_alloc] at h
    exact h

theorem next_round (S : Nat → Bool) (i : Nat) (pre : List (Fin 64)) (x : Fin 64) (t : Nat) (w w1 W : World) (hnone : ∀ z ∈ pre, NoneIn S i z.1) (hF : FirstIn S i x.1 t)
    (hc0 : W.cell? ⟨w.heap.size + 1, 0, none⟩ = some (.int .i64 0)) (hc1 : W.cell? ⟨w.heap.size + 1 + 1, 0, none⟩ = some (.bool false)) (hB : Below w.heap.size w1 W) :
    KeepsOthers W ((W.setCell ⟨w.heap.size + 1, 0, none⟩ (.int .i64 ((x.1 : Int) * 64 + (t : Int)))).setCell ⟨w.heap.size + 1 + 1, 0, none⟩ (.bool true)) ∧
      (Code.ret = Code.ret ∧ ∃ q x' t', pre ++ [x] = q ++ [x'] ∧ (∀ y ∈ q, NoneIn S i y.1) ∧ FirstIn S i x'.1 t' ∧
        ((W.setCell ⟨w.heap.size + 1, 0, none⟩ (.int .i64 ((x.1 : Int) * 64 + (t : Int)))).setCell ⟨w.heap.size + 1 + 1, 0, none⟩ (.bool true)).cell? ⟨w.heap.size + 1, 0, none⟩ = some (.int .i64 ((64 * x'.1 + t' : Nat) : Int)) ∧
        ((W.setCell ⟨w.heap.size + 1, 0, none⟩ (.int .i64 ((x.1 : Int) * 64 + (t : Int)))).setCell ⟨w.heap.size + 1 + 1, 0, none⟩ (.bool true)).cell? ⟨w.heap.size + 1 + 1, 0, none⟩ = some (.bool true)) ∧
      Below w.heap.size w1 ((W.setCell ⟨w.heap.size + 1, 0, none⟩ (.int .i64 ((x.1 : Int) * 64 + (t : Int)))).setCell ⟨w.heap.size + 1 + 1, 0, none⟩ (.bool true)) := by
  have e : ((x.1 : Int) * 64 + (t : Int)) = ((64 * x.1 + t : Nat) : Int) := by omega
  refine ⟨(KeepsOthers.setCell _ _ _).trans (KeepsOthers.setCell _ _ _), ⟨rfl, pre, x, t, rfl, hnone, hF, ?_, ?_⟩, ?_⟩
  · rw [World.cell?_setCell_other _ ⟨w.heap.size + 1 + 1, 0, none⟩ ⟨w.heap.size + 1, 0, none⟩ _ (by simp), ← e]
    exact World.cell?_setCell_same _ _ _ hc0
  · exact World.cell?_setCell_same _ _ _ ((World.cell?_setCell_other _ ⟨w.heap.size + 1, 0, none⟩ ⟨w.heap.size + 1 + 1, 0, none⟩ _ (by simp)).trans hc1)
  · exact (hB.setCell (p := ⟨w.heap.size + 1, 0, none⟩) (by simp) _).setCell (p := ⟨w.heap.size + 1 + 1, 0, none⟩) (by simp; omega) _

/-- The world in which next is left, behind the loop's mark. -/
theorem next_door {b l m D : Nat} {ws : Array Value} {w w1 V : World} (hb : b < w.heap.size) (hl : l < w.heap.size) (hB1 : Blk w1 b (setArr m 0 1 1 0 (some ⟨l, 0, none⟩)) 92) (hL1 : Blk w1 l ws 146)
    (hT1 : Turn (fun k => k = b) w w1) (hV : Below w.heap.size w1 V) (hD : w.heap.size + 6 ≤ D) (v0 v1 : Value) (hc0 : V.cell? ⟨w.heap.size + 1, 0, none⟩ = some v0) (hc1 : V.cell? ⟨w.heap.size + 1 + 1, 0, none⟩ = some v1) :
    Blk (V.putObj D (.deferred none)) b (setArr m 0 1 1 0 (some ⟨l, 0, none⟩)) 92 ∧ Blk (V.putObj D (.deferred none)) l ws 146 ∧ Turn (fun k => k = b) w (V.putObj D (.deferred none)) ∧
      ((V.putObj D (.deferred none)).setCell ⟨b, 6, none⟩ (.int .i32 0)).cell? ⟨w.heap.size + 1, 0, none⟩ = some v0 ∧ ((V.putObj D (.deferred none)).setCell ⟨b, 6, none⟩ (.int .i32 0)).cell? ⟨w.heap.size + 1 + 1, 0, none⟩ = some v1 := by
  have put : ∀ k, k ≠ D → (V.putObj D (.deferred none)).heap[k]? = V.heap[k]? := fun k hk => World.putObj_heap_other hk
  refine ⟨?_, ?_, ?_, ?_, ?_⟩
  · unfold Blk; rw [put b (by omega), hV.block b hb]; exact hB1
  · unfold Blk; rw [put l (by omega), hV.block l hl]; exact hL1
  · have hs1 := hT1.size
    refine ⟨hV.os.trans hT1.os, hV.tape.trans hT1.tape, hV.output.trans hT1.output, ?_, fun k hk hn => ?_⟩
    · have := hV.size; simp [World.putObj]; omega
    · rw [put k (by omega), hV.block k hk]; exact hT1.block k hk hn
  · exact cell_setBlock ((World.cell?_of_block (w := V) (put _ (by simp; omega))).trans hc0) (by simp; omega)
  · exact cell_setBlock ((World.cell?_of_block (w := V) (put _ (by simp; omega))).trans hc1) (by simp; omega)

/-- The world in which next is left, behind the loop's mark. -/
theorem next_door_nil {b m D : Nat} {w w1 V : World} (hb : b < w.heap.size) (hB1 : Blk w1 b (setArr m 0 1 0 0 none) 92)
    (hT1 : Turn (fun k => k = b) w w1) (hV : Below w.heap.size w1 V) (hD : w.heap.size + 6 ≤ D) (v0 v1 : Value) (hc0 : V.cell? ⟨w.heap.size + 1, 0, none⟩ = some v0) (hc1 : V.cell? ⟨w.heap.size + 1 + 1, 0, none⟩ = some v1) :
    Blk (V.putObj D (.deferred none)) b (setArr m 0 1 0 0 none) 92 ∧ Turn (fun k => k = b) w (V.putObj D (.deferred none)) ∧
      ((V.putObj D (.deferred none)).setCell ⟨b, 6, none⟩ (.int .i32 0)).cell? ⟨w.heap.size + 1, 0, none⟩ = some v0 ∧ ((V.putObj D (.deferred none)).setCell ⟨b, 6, none⟩ (.int .i32 0)).cell? ⟨w.heap.size + 1 + 1, 0, none⟩ = some v1 := by
  have put : ∀ k, k ≠ D → (V.putObj D (.deferred none)).heap[k]? = V.heap[k]? := fun k hk => World.putObj_heap_other hk
  refine ⟨?_, ?_, ?_, ?_⟩
  · unfold Blk; rw [put b (by omega), hV.block b hb]; exact hB1
  · have hs1 := hT1.size
    refine ⟨hV.os.trans hT1.os, hV.tape.trans hT1.tape, hV.output.trans hT1.output, ?_, fun k hk hn => ?_⟩
    · have := hV.size; simp [World.putObj]; omega
    · rw [put k (by omega), hV.block k hk]; exact hT1.block k hk hn
  · exact cell_setBlock ((World.cell?_of_block (w := V) (put _ (by simp; omega))).trans hc0) (by simp; omega)
  · exact cell_setBlock ((World.cell?_of_block (w := V) (put _ (by simp; omega))).trans hc1) (by simp; omega)

/-- A question leaves all that there was as it was. -/
theorem same_below {w w' : World} {b : Nat} {lo : Option Nat} {n : Nat} {S : Nat → Bool} (h : SetAt w b lo n S) (h' : SetAt w' b lo n S) (hT : Turn (fun k => k = b) w w') : Below w.heap.size w w' := by
  refine ⟨hT.os, hT.tape, hT.output, hT.size, fun k hk => ?_⟩
  by_cases e : k = b
  · subst e
    obtain ⟨_, _, h⟩ := h
    obtain ⟨_, _, h'⟩ := h'
    cases lo with
    | none => exact h'.1.trans h.1.symm
    | some l => exact h'.1.trans h.1.symm
  · exact hT.block k hk e
end Go.Proofs.Ytfipflghnhfcjaa
