/- next, at this seat's numbers. -/
import Derived.Lib.TrailingZeros
import Derived.Laws.Bits64b
import Derived.Test.YtoemfehlnnbjdaaDoorSetL
namespace Go.Proofs.YtoemfehlnnbjdaaDoor
open Go.RowKit Go.Shelf Go.MuLone Go.RwLone
attribute [local go_sem] Oper.semAt_some

theorem wrap_u64_nat (x : Nat) (h : x < 18446744073709551616) : IntKind.u64.wrap (x : Int) = (x : Int) := by
  rw [IntKind.wrap_u64]; omega
/-- The library's table in its variable. -/
def TabAt (w : World) : Prop := ∀ j, j < Lib.deBruijn64tab.length → w.cell? ⟨1, j, none⟩ = some (.int .u8 (Lib.deBruijn64tab.getD j 0))

theorem TabAt.lt {w : World} (h : TabAt w) : 1 < w.heap.size := by
  have := h 0 (by decide)
  exact World.block_lt_of_cell? w _ this
theorem TabAt.ne {w : World} (h : TabAt w) {b : Nat} {n lw rc d os : Int} {l : Option Addr} {T : TypeId} (hB : Blk w b (setArr n lw rc d os l) T) : ¬ (1 : Nat) = b := fun e => by
  subst e
  have h0 := h 0 (by decide)
  rw [hB.cell 0] at h0
  simp [setArr] at h0
theorem tz_key (x a : Nat) (hx : x < 18446744073709551616) (hx0 : x ≠ 0) (hlow : x &&& (18446744073709551616 - x) = a) :
    IntKind.u64.wrap (bits BinOp.and IntKind.u64 (x : Int) (IntKind.u64.wrap (-(x : Int))) * 285870213051353865) / 288230376151711744 = ((a * 285870213051353865 % 18446744073709551616 / 288230376151711744 : Nat) : Int) := by
  have e1 : IntKind.u64.wrap (-(x : Int)) = ((18446744073709551616 - x : Nat) : Int) := by rw [IntKind.wrap_u64]; omega
  rw [e1, u64_and_nat x _ hx (by omega), hlow, IntKind.wrap_u64]
  omega

theorem tz_core (x k idx : Nat) (w : World) (hx0 : ((x : Int) == 0) = false)
    (key : IntKind.u64.wrap (bits BinOp.and IntKind.u64 (x : Int) (IntKind.u64.wrap (-(x : Int))) * 285870213051353865) / 288230376151711744 = (idx : Int))
    (hi : idx < 64) (hk : k < 64) (hcell : w.cell? ⟨1, idx, none⟩ = some (.int .u8 k)) :
    Calls Tryd.prog 109 #[.int .u64 x] w fun e w' => e = .returned (.int .i64 k) ∧ w = w' := by
  go_enter Tryd.func109, Tryd.ntmps109
  go_wp2_with (simp only [key])
  go_ret
  exact ⟨rfl, rfl⟩

theorem tz_any (x : Nat) (hx : x < 18446744073709551616) (hx0 : x ≠ 0) (w : World) (hT : TabAt w) :
    Calls Tryd.prog 109 #[.int .u64 x] w fun e w' => e = .returned (.int .i64 ((Lib.ctz 64 x : Nat) : Int)) ∧ w = w' := by
  obtain ⟨hlow, hk⟩ := Lib.lowest_bit 64 x hx0 hx
  obtain ⟨hi, htab⟩ := Lib.deBruijn64_at _ hk
  have hcell := hT _ hi
  rw [htab] at hcell
  exact tz_core x _ _ w (by simp; omega) (tz_key x _ hx hx0 hlow) hi hk hcell

/-- From which bit on word k is looked at, where numbers from i on are looked for. -/
def from_ (i k : Nat) : Nat := if k * 64 < i then i % 64 else 0
/-- What is left of a word. -/
def leftOf (i k y : Nat) : Nat := if k * 64 < i then y &&& (2 ^ 64 - ((2 ^ (i % 64) - 1) + 1)) else y
theorem leftOf_lt (i k y : Nat) (hy : y < 18446744073709551616) : leftOf i k y < 18446744073709551616 := by
  unfold leftOf
  split
  · exact Nat.lt_of_le_of_lt Nat.and_le_left hy
  · exact hy
theorem leftOf_test (i k y t : Nat) (ht : t < 64) : (leftOf i k y).testBit t = (y.testBit t && decide (from_ i k ≤ t)) := by
  unfold leftOf from_
  split
  · have hp : 2 ^ (i % 64) - 1 < 2 ^ 64 := by
      have : 2 ^ (i % 64) ≤ 2 ^ 63 := Nat.pow_le_pow_right (by decide) (by omega)
      omega
    rw [Nat.testBit_and, Nat.testBit_two_pow_sub_succ hp, Nat.testBit_two_pow_sub_one]
    congr 1
    rw [Bool.eq_iff_iff]; simp; omega
  · simp
theorem leftOf_andNot (i k y : Nat) (hy : y < 18446744073709551616) (h : k * 64 < i) :
    bits .andNot .u64 (y : Int) (IntKind.u64.wrap (((bitN (i : Int) : Nat) : Int) - 1)) = ((leftOf i k y : Nat) : Int) := by
  have hb := bitN_lt (i : Int)
  have hb1 : 1 ≤ bitN (i : Int) := by rw [bitN_nat]; exact Nat.two_pow_pos _
  have e : (((bitN (i : Int) : Nat) : Int) - 1) = ((bitN (i : Int) - 1 : Nat) : Int) := by omega
  rw [e, wrap_u64_nat _ (by omega), u64_andNot_nat y _ hy (by omega)]
  unfold leftOf
  rw [if_pos h, ← bitN_nat, show 18446744073709551615 - (bitN (i : Int) - 1) = 2 ^ 64 - (bitN (i : Int) - 1 + 1) by omega]

/-- The lowest bit. -/
theorem ctz_test (x : Nat) (hx : x < 18446744073709551616) (h0 : x ≠ 0) : Lib.ctz 64 x < 64 ∧ x.testBit (Lib.ctz 64 x) = true ∧ ∀ t, t < Lib.ctz 64 x → x.testBit t = false := by
  have e : Lib.ctz 64 x = Lib.ctzFrom 64 x := by simp [Lib.ctz, h0]
  obtain ⟨q, hq, hk⟩ := Lib.ctzFrom_spec 64 x (by omega) hx
  rw [e]
  generalize Lib.ctzFrom 64 x = c at *
  refine ⟨hk, ?_, fun t ht => ?_⟩
  · rw [hq, Nat.testBit_two_pow_mul]
    simp
  · rw [hq, Nat.testBit_two_pow_mul]
    have : ¬ (t ≥ c) := by omega
    simp [this]
theorem zero_test (x : Nat) (h0 : x = 0) (t : Nat) : x.testBit t = false := by subst h0; simp

/-- Word k has none from its place on. -/
def NoneIn (S : Nat → Bool) (i k : Nat) : Prop := ∀ t, t < 64 → from_ i k ≤ t → S (64 * k + t) = false
/-- Bit t of word k is the first one from its place on. -/
def FirstIn (S : Nat → Bool) (i k t : Nat) : Prop := t < 64 ∧ from_ i k ≤ t ∧ S (64 * k + t) = true ∧ ∀ t', t' < t → from_ i k ≤ t' → S (64 * k + t') = false

theorem word_none {S : Nat → Bool} {i k y : Nat} (hb : ∀ j, j < 64 → y.testBit j = S (64 * k + j)) (h : leftOf i k y = 0) : NoneIn S i k := fun t ht hf => by
  have e := zero_test _ h t
  rw [leftOf_test i k y t ht, hb t ht] at e
  simpa [hf] using e
theorem word_first {S : Nat → Bool} {i k y : Nat} (hy : y < 18446744073709551616) (hb : ∀ j, j < 64 → y.testBit j = S (64 * k + j)) (h : leftOf i k y ≠ 0) : FirstIn S i k (Lib.ctz 64 (leftOf i k y)) := by
  obtain ⟨h1, h2, h3⟩ := ctz_test _ (leftOf_lt i k y hy) h
  rw [leftOf_test i k y _ h1, hb _ h1] at h2
  simp at h2
  refine ⟨h1, h2.2, h2.1, fun t' ht hf => ?_⟩
  have e := h3 t' ht
  rw [leftOf_test i k y t' (by omega), hb t' (by omega)] at e
  simpa [hf] using e

/-- What next answers: the least number from i on. -/
def NextIs (S : Nat → Bool) (i j : Nat) : Prop := i ≤ j ∧ S j = true ∧ ∀ k, i ≤ k → k < j → S k = false
theorem wks_mem {a q : Nat} {x : Fin 64} (h : x ∈ wks a q) (hq : a + q ≤ 64) : a ≤ x.1 ∧ x.1 < a + q := by
  unfold wks at h
  simp only [List.mem_map, List.mem_range'_1] at h
  obtain ⟨y, hy, rfl⟩ := h
  rw [wk_val (by omega)]
  exact hy
theorem wks_has {a q k : Nat} (h1 : a ≤ k) (h2 : k < a + q) : wk k ∈ wks a q := by
  unfold wks
  simp only [List.mem_map, List.mem_range'_1]
  exact ⟨k, ⟨h1, h2⟩, rfl⟩
theorem from_le {i k : Nat} (h : i / 64 ≤ k) {j : Nat} (hj : j / 64 = k) (hij : i ≤ j) : from_ i k ≤ j % 64 := by
  unfold from_
  split
  · omega
  · omega
theorem next_none {S : Nat → Bool} {i : Nat} (hS : ∀ j, S j = true → j < 4096) (h : ∀ x ∈ wks (i / 64) (64 - i / 64), NoneIn S i x.1) : ∀ j, i ≤ j → S j = false := fun j hj => by
  by_cases hlt : j < 4096
  · have hm := h (wk (j / 64)) (wks_has (by omega) (by omega))
    rw [wk_val (by omega)] at hm
    have := hm (j % 64) (by omega) (from_le (by omega) rfl hj)
    rw [show 64 * (j / 64) + j % 64 = j by omega] at this
    exact this
  · cases hs : S j with
    | false => rfl
    | true => exact absurd (hS j hs) hlt
theorem next_found {S : Nat → Bool} {i q t : Nat} (hq : i / 64 + q < 64) (h : ∀ x ∈ wks (i / 64) q, NoneIn S i x.1) (hf : FirstIn S i (i / 64 + q) t) : NextIs S i (64 * (i / 64 + q) + t) := by
  obtain ⟨h1, h2, h3, h4⟩ := hf
  refine ⟨?_, h3, fun k hk hlt => ?_⟩
  · unfold from_ at h2
    split at h2
    · omega
    · omega
  · by_cases hkq : k / 64 = i / 64 + q
    · have := h4 (k % 64) (by omega) (from_le (by omega) hkq hk)
      rw [show 64 * (i / 64 + q) + k % 64 = k by omega] at this
      exact this
    · have hm := h (wk (k / 64)) (wks_has (by omega) (by omega))
      rw [wk_val (by omega)] at hm
      have := hm (k % 64) (by omega) (from_le (by omega) rfl hk)
      rw [show 64 * (k / 64) + k % 64 = k by omega] at this
      exact this

/-- What next leaves. -/
def NextPost (b : Nat) (lo : Option Nat) (m : Nat) (S : Nat → Bool) (i : Nat) (w : World) (e : Ending) (w' : World) : Prop :=
  ((∃ j, NextIs S i j ∧ e = .returned (.tuple #[.int .i64 (j : Int), .bool true])) ∨ ((∀ j, i ≤ j → S j = false) ∧ e = .returned (.tuple #[.int .i64 0, .bool false]))) ∧ SetAt w' b lo m S ∧ Turn (fun k => k = b) w w'

/-- The world behind the three boxes of next. -/
def nextWorld (i : Int) (w : World) : World := ((w.alloc (.cells #[.int .i64 i] 3)).alloc (.cells #[.int .i64 0] 3)).alloc (.cells #[.bool false] 4)
theorem nextWorld_boxes (i : Int) (w : World) : Blk (nextWorld i w) w.heap.size #[.int .i64 i] 3 ∧ Blk (nextWorld i w) (w.heap.size + 1) #[.int .i64 0] 3 ∧ Blk (nextWorld i w) (w.heap.size + 1 + 1) #[.bool false] 4 := by
  unfold nextWorld
  refine ⟨((Blk.new w _ _).alloc _).alloc _, ?_, ?_⟩
  · have h := (Blk.new (w.alloc (.cells #[.int .i64 i] 3)) #[.int .i64 0] 3).alloc (.cells #[.bool false] 4)
    rw [World.size_alloc] at h
    exact h
  · have h := Blk.new ((w.alloc (.cells #[.int .i64 i] 3)).alloc (.cells #[.int .i64 0] 3)) #[.bool false] 4
    rw [World.size_alloc, World.size_alloc] at h
    exact h

theorem next_round (S : Nat → Bool) (i : Nat) (pre : List (Fin 64)) (x : Fin 64) (t : Nat) (w w1 W : World) (hnone : ∀ z ∈ pre, NoneIn S i z.1) (hF : FirstIn S i x.1 t)
    (hc0 : W.cell? ⟨w.heap.size + 1, 0, none⟩ = some (.int .i64 0)) (hc1 : W.cell? ⟨w.heap.size + 1 + 1, 0, none⟩ = some (.bool false)) (hB : Below w.heap.size w1 W) :
    KeepsOthers W ((W.setCell ⟨w.heap.size + 1, 0, none⟩ (.int .i64 ((x.1 : Int) * 64 + (t : Int)))).setCell ⟨w.heap.size + 1 + 1, 0, none⟩ (.bool true)) ∧
      (Code.ret = Code.ret ∧ ∃ q x' t', pre ++ [x] = q ++ [x'] ∧ (∀ y ∈ q, NoneIn S i y.1) ∧ FirstIn S i x'.1 t' ∧
        ((W.setCell ⟨w.heap.size + 1, 0, none⟩ (.int .i64 ((x.1 : Int) * 64 + (t : Int)))).setCell ⟨w.heap.size + 1 + 1, 0, none⟩ (.bool true)).cell? ⟨w.heap.size + 1, 0, none⟩ = some (.int .i64 ((64 * x'.1 + t' : Nat) : Int)) ∧
        ((W.setCell ⟨w.heap.size + 1, 0, none⟩ (.int .i64 ((x.1 : Int) * 64 + (t : Int)))).setCell ⟨w.heap.size + 1 + 1, 0, none⟩ (.bool true)).cell? ⟨w.heap.size + 1 + 1, 0, none⟩ = some (.bool true)) ∧
      Below w.heap.size w1 ((W.setCell ⟨w.heap.size + 1, 0, none⟩ (.int .i64 ((x.1 : Int) * 64 + (t : Int)))).setCell ⟨w.heap.size + 1 + 1, 0, none⟩ (.bool true)) := by
  have e : ((x.1 : Int) * 64 + (t : Int)) = ((64 * x.1 + t : Nat) : Int) := by omega
  refine ⟨(KeepsOthers.setCell _ _ _).trans (KeepsOthers.setCell _ _ _), ⟨rfl, pre, x, t, rfl, hnone, hF, ?_, ?_⟩, ?_⟩
  · rw [World.cell?_setCell_other _ ⟨w.heap.size + 1 + 1, 0, none⟩ ⟨w.heap.size + 1, 0, none⟩ _ (by simp), ← e]
    exact World.cell?_setCell_same _ _ _ hc0
  · exact World.cell?_setCell_same _ _ _ ((World.cell?_setCell_other _ ⟨w.heap.size + 1, 0, none⟩ ⟨w.heap.size + 1 + 1, 0, none⟩ _ (by simp)).trans hc1)
  · exact (hB.setCell (p := ⟨w.heap.size + 1, 0, none⟩) (by simp) _).setCell (p := ⟨w.heap.size + 1 + 1, 0, none⟩) (by simp; omega) _

/-- The world in which next is left, behind the loop's mark. -/
theorem next_door {b l m D : Nat} {ws : Array Value} {w w1 V : World} (hb : b < w.heap.size) (hl : l < w.heap.size) (hB1 : Blk w1 b (setArr m 0 1 1 0 (some ⟨l, 0, none⟩)) 113) (hL1 : Blk w1 l ws 156)
    (hT1 : Turn (fun k => k = b) w w1) (hV : Below w.heap.size w1 V) (hD : w.heap.size + 6 ≤ D) (v0 v1 : Value) (hc0 : V.cell? ⟨w.heap.size + 1, 0, none⟩ = some v0) (hc1 : V.cell? ⟨w.heap.size + 1 + 1, 0, none⟩ = some v1) :
    Blk (V.putObj D (.deferred none)) b (setArr m 0 1 1 0 (some ⟨l, 0, none⟩)) 113 ∧ Blk (V.putObj D (.deferred none)) l ws 156 ∧ Turn (fun k => k = b) w (V.putObj D (.deferred none)) ∧
      ((V.putObj D (.deferred none)).setCell ⟨b, 6, none⟩ (.int .i32 0)).cell? ⟨w.heap.size + 1, 0, none⟩ = some v0 ∧ ((V.putObj D (.deferred none)).setCell ⟨b, 6, none⟩ (.int .i32 0)).cell? ⟨w.heap.size + 1 + 1, 0, none⟩ = some v1 := by
  have put : ∀ k, k ≠ D → (V.putObj D (.deferred none)).heap[k]? = V.heap[k]? := fun k hk => World.putObj_heap_other hk
  refine ⟨?_, ?_, ?_, ?_, ?_⟩
  · unfold Blk; rw [put b (by omega), hV.block b hb]; exact hB1
  · unfold Blk; rw [put l (by omega), hV.block l hl]; exact hL1
  · have hs1 := hT1.size
    refine ⟨hV.os.trans hT1.os, hV.tape.trans hT1.tape, hV.output.trans hT1.output, ?_, fun k hk hn => ?_⟩
    · have := hV.size; simp [World.putObj]; omega
    · rw [put k (by omega), hV.block k hk]; exact hT1.block k hk hn
  · exact cell_setBlock ((World.cell?_of_block (w := V) (put _ (by simp; omega))).trans hc0) (by simp; omega)
  · exact cell_setBlock ((World.cell?_of_block (w := V) (put _ (by simp; omega))).trans hc1) (by simp; omega)

set_option maxRecDepth 100000 in
set_option maxHeartbeats 2000000 in
theorem next_some (b l : Nat) (m : Nat) (S : Nat → Bool) (i : Nat) (hi : i < m) (w : World) (hA : SetAt w b (some l) m S) (hTab : TabAt w) :
    Calls Tryd.prog 86 #[.pointer (some ⟨b, 0, none⟩), .int .i64 i] w (NextPost b (some l) m S i w) := by
  obtain ⟨hn, hSn, hB0, hne, ws, hL0, hw⟩ := hA
  have hblt := hB0.lt
  have hllt := hL0.lt
  obtain ⟨x0, x1, x2⟩ := nextWorld_boxes i w
  have hB : Blk (nextWorld i w) b (setArr m 0 0 1 0 (some ⟨l, 0, none⟩)) 113 := ((hB0.alloc _).alloc _).alloc _
  have hL : Blk (nextWorld i w) l ws 156 := ((hL0.alloc _).alloc _).alloc _
  have hT0 : Turn (fun k => k = b) w (nextWorld i w) := (((Turn.refl _ w).alloc _).alloc _).alloc _
  have c2 : (nextWorld i w).cell? ⟨b, 2, none⟩ = some (.int .i32 0) := hB.cell 2
  have c5 : (nextWorld i w).cell? ⟨b, 5, none⟩ = some (.int .u32 0) := hB.cell 5
  have c6 : (nextWorld i w).cell? ⟨b, 6, none⟩ = some (.int .i32 0) := hB.cell 6
  have z6 : (nextWorld i w).frozen? ⟨b, 6, none⟩ = false := hB.free 6
  have hB1 := hB.setAt 6 (.int .i32 1)
  have hL1 := hL.setOther ⟨b, 6, none⟩ (.int .i32 1) hne
  have y0 := x0.setOther ⟨b, 6, none⟩ (.int .i32 1) (by simp; omega)
  have y1 := x1.setOther ⟨b, 6, none⟩ (.int .i32 1) (by simp; omega)
  have y2 := x2.setOther ⟨b, 6, none⟩ (.int .i32 1) (by simp; omega)
  have hT1 : Turn (fun k => k = b) w ((nextWorld i w).setCell ⟨b, 6, none⟩ (.int .i32 1)) := hT0.set _ _ (.inr rfl)
  have hs1 : ((nextWorld i w).setCell ⟨b, 6, none⟩ (.int .i32 1)).heap.size = w.heap.size + 3 := by simp [nextWorld]
  obtain ⟨n, h1⟩ : ∃ n : Nat, 6 ≤ n := ⟨6, Nat.le_refl _⟩
  refine calls_of_wp_marks Tryd.func86 rfl n ?_
  simp only [Tryd.ntmps86, List.size_toArray, List.length_cons, List.length_nil, Nat.reduceAdd, Nat.reduceSub, Array.replicate_succ, Array.replicate_zero, List.push_toArray, List.append_toArray, List.nil_append, List.cons_append]
  gi_wp2_with fail
  refine ⟨trivial, fun h => (by cases h), ?_⟩
  change CallsIn _ _ _ _ _ (nextWorld i w) _
  refine (callsIn_wide.2 (knows_yes b m i _ (hB.cell 0) (by omega) (by omega))).mono ?_
  rintro e w' ⟨rfl, rfl⟩
  gi_wp2_with fail
  refine ⟨trivial, fun h => (by cases h), ?_⟩
  refine (callsIn_wide.2 (rlock_open Tryd.rwRLib b 2 0 _ _ _ c2 c5 c6 z6 (by rw [wrap32_up]; decide))).mono ?_
  rintro e w' ⟨rfl, rfl⟩
  rw [wrap32_up]
  generalize (nextWorld i w).setCell ⟨b, 2 + 4, none⟩ (.int .i32 1) = w1 at *
  clear c2 c5 c6 z6 x0 x1 x2 hB hL hT0
  have hglt : 1 < w.heap.size := TabAt.lt hTab
  have hTab1 : TabAt w1 := fun j hj => (hT1.cell (a := ⟨1, j, none⟩) hglt (by simpa using TabAt.ne hTab hB0)).trans (hTab j hj)
  have k1 : w1.cell? ⟨b, 1, none⟩ = some (.int .i64 0) := hB1.cell 1
  have ki : w1.cell? ⟨w.heap.size, 0, none⟩ = some (.int .i64 i) := y0.cell 0
  gi_wp2_with fail
  refine wpIn_wide.2 ?_
  go_region_held3 (fun w' => w'.cell? ⟨b, 1, none⟩ = some (.int .i64 0) ∧ w'.cell? ⟨w.heap.size, 0, none⟩ = some (.int .i64 i)) (first | go_keep | exact hk2)
    (first
      | (go_at_call 47; refine (words_any b 0 i _).mono ?_; rintro e w2 ⟨rfl, rfl⟩; have hk2 : (wordsWorld b 0 i w1.drew).cell? ⟨b, 1, none⟩ = some (.int .i64 0) ∧ (wordsWorld b 0 i w1.drew).cell? ⟨w.heap.size, 0, none⟩ = some (.int .i64 i) := ⟨(((hB1.drew.alloc _).alloc _).alloc _).cell 1, (((y0.drew.alloc _).alloc _).alloc _).cell 0⟩))
  gi_wp2_with fail
  have hW : Below w.heap.size w1 (wordsWorld b 0 i w1.drew) := by
    unfold wordsWorld
    exact (((((Below.refl w.heap.size w1).drew).alloc (by simp; omega) _).alloc (by simp; omega) _).alloc (by simp; omega) _)
  have hs : (wordsWorld b 0 i w1.drew).heap.size = w.heap.size + 6 := by simp [wordsWorld, hs1]
  have hB2 : Blk (wordsWorld b 0 i w1.drew) b (setArr m 0 1 1 0 (some ⟨l, 0, none⟩)) 113 := ((hB1.drew.alloc _).alloc _).alloc _
  have hL2 : Blk (wordsWorld b 0 i w1.drew) l ws 156 := ((hL1.drew.alloc _).alloc _).alloc _
  have v0 : Blk (wordsWorld b 0 i w1.drew) w.heap.size #[.int .i64 i] 3 := ((y0.drew.alloc _).alloc _).alloc _
  have v1 : Blk (wordsWorld b 0 i w1.drew) (w.heap.size + 1) #[.int .i64 0] 3 := ((y1.drew.alloc _).alloc _).alloc _
  have v2 : Blk (wordsWorld b 0 i w1.drew) (w.heap.size + 1 + 1) #[.bool false] 4 := ((y2.drew.alloc _).alloc _).alloc _
  have e0 : (wordsWorld b 0 i w1.drew).cell? ⟨w.heap.size + 3, 0, none⟩ = some (.pointer (some ⟨b, 8, none⟩)) := by
    have h := ((Blk.new w1.drew #[.pointer (some ⟨b, 8, none⟩)] 137).alloc (.cells #[.int .i64 0] 3)).alloc (.cells #[.int .i64 i] 3)
    simp only [World.size_drew, hs1] at h
    exact h.cell 0
  have e1 : (wordsWorld b 0 i w1.drew).cell? ⟨w.heap.size + 3 + 1, 0, none⟩ = some (.int .i64 0) := by
    have h := (Blk.new (w1.drew.alloc (.cells #[.pointer (some ⟨b, 8, none⟩)] 137)) #[.int .i64 0] 3).alloc (.cells #[.int .i64 i] 3)
    simp only [World.size_drew, World.size_alloc, hs1] at h
    exact h.cell 0
  have e2 : (wordsWorld b 0 i w1.drew).cell? ⟨w.heap.size + 3 + 1 + 1, 0, none⟩ = some (.int .i64 i) := by
    have h := Blk.new ((w1.drew.alloc (.cells #[.pointer (some ⟨b, 8, none⟩)] 137)).alloc (.cells #[.int .i64 0] 3)) #[.int .i64 i] 3
    simp only [World.size_drew, World.size_alloc, hs1] at h
    exact h.cell 0
  generalize wordsWorld b 0 i w1.drew = W0 at *
  clear hk2 k1 ki
  refine wpIn_rangeFunc_ownF rfl (by omega) (gf := 82) (lb := #[.pointer (some ⟨w.heap.size + 3, 0, none⟩), .pointer (some ⟨w.heap.size + 3 + 1, 0, none⟩), .pointer (some ⟨w.heap.size + 3 + 1 + 1, 0, none⟩)]) rfl trivial (enters_of Tryd.func82 (by kernel_rfl) rfl)
    (words_stops (n - 1) b l m 0 1 i (by omega) (w.heap.size + 3) ws hw.1 W0 e0 e1 e2 (by omega) hB2 hL2) walksK_t walksK_b (Below.refl _ _) (fun _ => rfl)
    (fun pre W => ((∀ x ∈ pre, NoneIn S i x.1) ∧ W.cell? ⟨w.heap.size, 0, none⟩ = some (.int .i64 i) ∧ (W.cell? ⟨w.heap.size + 1, 0, none⟩ = some (.int .i64 0) ∧ W.frozen? ⟨w.heap.size + 1, 0, none⟩ = false) ∧ (W.cell? ⟨w.heap.size + 1 + 1, 0, none⟩ = some (.bool false) ∧ W.frozen? ⟨w.heap.size + 1 + 1, 0, none⟩ = false)) ∧ Below w.heap.size w1 W)
    (fun c pre W => (c = .ret ∧ ∃ q x t, pre = q ++ [x] ∧ (∀ y ∈ q, NoneIn S i y.1) ∧ FirstIn S i x.1 t ∧ W.cell? ⟨w.heap.size + 1, 0, none⟩ = some (.int .i64 ((64 * x.1 + t : Nat) : Int)) ∧ W.cell? ⟨w.heap.size + 1 + 1, 0, none⟩ = some (.bool true)) ∧ Below w.heap.size w1 W)
    (OwnFrom.and (Own.from (fun s A B row hs hg hr => ⟨hs.1, cell_kept hs.2.1 hg hr, ⟨cell_kept hs.2.2.1.1 hg hr, (frozen_kept hs.2.2.1.1 hg hr).trans hs.2.2.1.2⟩, ⟨cell_kept hs.2.2.2.1 hg hr, (frozen_kept hs.2.2.2.1 hg hr).trans hs.2.2.2.2⟩⟩) _) (ownFrom_below (by omega) (by omega)))
    (fun c => OwnFrom.and (Own.from (fun s A B row hs hg hr => by
      obtain ⟨hc, q, x, t, h1, h2, h3, h4, h5⟩ := hs
      exact ⟨hc, q, x, t, h1, h2, h3, cell_kept h4 hg hr, cell_kept h5 hg hr⟩) _) (ownFrom_below (by omega) (by omega)))
    ⟨⟨fun x h => (by cases h), v0.cell 0, ⟨v1.cell 0, v1.free 0⟩, ⟨v2.cell 0, v2.free 0⟩⟩, hW⟩
    (fun x => { tmps := #[.pointer (some ⟨b, 0, none⟩), .int .i64 i, undef, .pointer (some ⟨w.heap.size, 0, none⟩), .pointer (some ⟨w.heap.size + 1, 0, none⟩), .pointer (some ⟨w.heap.size + 1 + 1, 0, none⟩), .int .i64 ((x.1 : Int) * 64), .pointer (some ⟨l, x.1, none⟩), undef, .pointer (some ⟨b, 0, none⟩), .int .i64 i, .bool true, .bool false, .pointer (some ⟨b, 0, none⟩), .pointer (some ⟨b, 0, none⟩), .pointer (some ⟨b, 2, none⟩), .tuple #[], .pointer (some ⟨b, 0, none⟩), .pointer (some ⟨b, 0, none⟩), .pointer (some ⟨b, 2, none⟩), .pointer (some ⟨b, 0, none⟩), .pointer (some ⟨b, 0, none⟩), .pointer (some ⟨b, 8, none⟩), .pointer (some ⟨b, 0, none⟩), .pointer (some ⟨b, 0, none⟩), .pointer (some ⟨b, 1, none⟩), .int .i64 0, .int .i64 i, wordsFn (w.heap.size + 3), .int .i64 ((x.1 : Int) * 64), .pointer (some ⟨l, x.1, none⟩), undef, undef, undef, undef, undef, undef, undef, undef, undef, undef, undef, undef, undef, undef, undef, undef], defers := [] }) ?assign ?body ?done ?stop
  case assign =>
    intro l0 x W K hK
    unfold wordArgs
    gi_wp2
    exact hK
  case body =>
    rintro l0 pre x W ⟨⟨hnone, hci, ⟨hc0, hf0⟩, ⟨hc1, hf1⟩⟩, hBl⟩ hlen
    obtain ⟨y, hy, hwy, hby⟩ := hw.2 x.1 x.2
    have hyc : W.cell? ⟨l, x.1, none⟩ = some (.int .u64 y) := ((hBl.cell (p := ⟨l, x.1, none⟩) hllt).trans (hL1.cell _)).trans hwy
    have hd : 1 ≤ n - 1 - 1 := by omega
    have f1 : Fence.wide.fn 49 := trivial
    have f2 : Fence.wide.fn 67 := trivial
    have f3 : Fence.wide.fn 109 := trivial
    have hxn : x.1 < 64 := x.2
    have hnn : NoneIn S i x.1 → ∀ z ∈ pre ++ [x], NoneIn S i z.1 := fun h z hz => by
      rcases List.mem_append.1 hz with h' | h'
      · exact hnone z h'
      · simp at h'; subst h'; exact h
    have hfirst := word_first (i := i) hy hby
    have hzero := word_none (i := i) hby
    by_cases hlow : x.1 * 64 < i
    · have hlI : ((x.1 : Int) * 64) < (i : Int) := by omega
      have hand := leftOf_andNot i x.1 y hy hlow
      have hLlt := leftOf_lt i x.1 y hy
      generalize leftOf i x.1 y = L at *
      by_cases hL0 : L = 0
      · have hb0 : (((L : Nat) : Int) != 0) = false := by rw [bne_eq_false_iff_eq]; omega
        have hN := hnn (hzero hL0)
        clear hfirst hzero hL0
        gi_wp2_with fail
        refine (CallsIn.inRound l0 (callsIn_wide.2 (uload_any _ y _ hyc))).mono ?_
        rintro e w' ⟨rfl, rfl⟩
        gi_wp2_with fail
        refine (CallsIn.inRound l0 (callsIn_wide.2 (bitOf_any i _ (by omega)))).mono ?_
        rintro e w' ⟨rfl, rfl⟩
        gi_wp2_with fail
        exact ⟨KeepsOthers.refl _, KeepsWalks.refl _, ⟨hN, hci, ⟨hc0, hf0⟩, ⟨hc1, hf1⟩⟩, hBl⟩
      · have hb0 : (((L : Nat) : Int) != 0) = true := by rw [bne_iff_ne]; omega
        have hF := hfirst hL0
        have htabW : TabAt W := fun j hj => (hBl.cell (p := ⟨1, j, none⟩) hglt).trans (hTab1 j hj)
        have htz := tz_any L hLlt hL0 W htabW
        have ht64 := hF.1
        clear hfirst hzero hL0 hnn
        generalize Lib.ctz 64 L = t at *
        gi_wp2_with fail
        refine (CallsIn.inRound l0 (callsIn_wide.2 (uload_any _ y _ hyc))).mono ?_
        rintro e w' ⟨rfl, rfl⟩
        gi_wp2_with fail
        refine (CallsIn.inRound l0 (callsIn_wide.2 (bitOf_any i _ (by omega)))).mono ?_
        rintro e w' ⟨rfl, rfl⟩
        gi_wp2_with fail
        refine (CallsIn.inRound l0 (callsIn_wide.2 htz)).mono ?_
        rintro e w' ⟨rfl, rfl⟩
        gi_wp2_with fail
        exact next_round S i pre x t w w1 W hnone hF hc0 hc1 hBl
    · have hlI : ¬ ((x.1 : Int) * 64) < (i : Int) := by omega
      have hLy : leftOf i x.1 y = y := by unfold leftOf; rw [if_neg hlow]
      rw [hLy] at hfirst hzero
      clear hLy
      by_cases hL0 : y = 0
      · have hb0 : (((y : Nat) : Int) != 0) = false := by rw [bne_eq_false_iff_eq]; omega
        have hN := hnn (hzero hL0)
        clear hfirst hzero hL0
        gi_wp2_with fail
        refine (CallsIn.inRound l0 (callsIn_wide.2 (uload_any _ y _ hyc))).mono ?_
        rintro e w' ⟨rfl, rfl⟩
        gi_wp2_with fail
        exact ⟨KeepsOthers.refl _, KeepsWalks.refl _, ⟨hN, hci, ⟨hc0, hf0⟩, ⟨hc1, hf1⟩⟩, hBl⟩
      · have hb0 : (((y : Nat) : Int) != 0) = true := by rw [bne_iff_ne]; omega
        have hF := hfirst hL0
        have htabW : TabAt W := fun j hj => (hBl.cell (p := ⟨1, j, none⟩) hglt).trans (hTab1 j hj)
        have htz := tz_any y hy hL0 W htabW
        have ht64 := hF.1
        clear hfirst hzero hL0 hnn
        generalize Lib.ctz 64 y = t at *
        gi_wp2_with fail
        refine (CallsIn.inRound l0 (callsIn_wide.2 (uload_any _ y _ hyc))).mono ?_
        rintro e w' ⟨rfl, rfl⟩
        gi_wp2_with fail
        refine (CallsIn.inRound l0 (callsIn_wide.2 htz)).mono ?_
        rintro e w' ⟨rfl, rfl⟩
        gi_wp2_with fail
        exact next_round S i pre x t w w1 W hnone hF hc0 hc1 hBl
  case done =>
    rintro D xs W hD rfl ⟨⟨hN, hci, ⟨hc0, hf0⟩, ⟨hc1, hf1⟩⟩, hBl⟩ hK
    gi_wp2_with fail
    have hBl2 : Below w.heap.size w1 ((W.setCell ⟨w.heap.size + 1, 0, none⟩ (.int .i64 0)).setCell ⟨w.heap.size + 1 + 1, 0, none⟩ (.bool false)) := (hBl.setCell (p := ⟨w.heap.size + 1, 0, none⟩) (by simp) _).setCell (p := ⟨w.heap.size + 1 + 1, 0, none⟩) (by simp; omega) _
    have hd0 : ((W.setCell ⟨w.heap.size + 1, 0, none⟩ (.int .i64 0)).setCell ⟨w.heap.size + 1 + 1, 0, none⟩ (.bool false)).cell? ⟨w.heap.size + 1, 0, none⟩ = some (.int .i64 0) := by
      rw [World.cell?_setCell_other _ ⟨w.heap.size + 1 + 1, 0, none⟩ ⟨w.heap.size + 1, 0, none⟩ _ (by simp)]
      exact World.cell?_setCell_same _ _ _ hc0
    have hd1 : ((W.setCell ⟨w.heap.size + 1, 0, none⟩ (.int .i64 0)).setCell ⟨w.heap.size + 1 + 1, 0, none⟩ (.bool false)).cell? ⟨w.heap.size + 1 + 1, 0, none⟩ = some (.bool false) :=
      World.cell?_setCell_same _ _ _ ((World.cell?_setCell_other _ ⟨w.heap.size + 1, 0, none⟩ ⟨w.heap.size + 1 + 1, 0, none⟩ _ (by simp)).trans hc1)
    have hK2 := ((KeepsOthers.setCell W ⟨w.heap.size + 1, 0, none⟩ (.int .i64 0)).trans (KeepsOthers.setCell _ ⟨w.heap.size + 1 + 1, 0, none⟩ (.bool false))).same D _ hK rfl
    generalize (W.setCell ⟨w.heap.size + 1, 0, none⟩ (.int .i64 0)).setCell ⟨w.heap.size + 1 + 1, 0, none⟩ (.bool false) = V at *
    obtain ⟨hBV, hLV, hTV, hr0, hr1⟩ := next_door (D := D) (w := w) hblt hllt hB1 hL1 hT1 hBl2 (by omega) _ _ hd0 hd1
    refine ⟨by simp, .inl ⟨D, _, rfl, run_takeDeferred hK2, ?_⟩⟩
    generalize V.putObj D (.deferred none) = W2 at *
    refine ⟨by simp, .inr ⟨_, _, 66, #[.pointer (some ⟨b, 2, none⟩)], rfl, by simp [go_sem], ?_⟩⟩
    refine (runlock_deferred Tryd.rwRLib b 2 1 _ _ .returning _ (hBV.cell 2) (hBV.cell 4) (hBV.cell 6) (hBV.free 6) (by rw [wrap32_down]; decide)).mono ?_
    rintro e u' w'' ⟨rfl, rfl, rfl⟩
    rw [wrap32_down]
    refine ⟨.tuple #[.int .i64 0, .bool false], ?_, .inr ⟨next_none (fun j hj => by have := hSn j hj; omega) hN, rfl⟩, ⟨hn, hSn, hBV.setAt 6 _, hne, ws, hLV.setOther _ _ hne, hw⟩, hTV.set _ _ (.inr rfl)⟩
    simp [results, Tryd.f86, go_sem, hr0, hr1]
  case stop =>
    rintro D c pre W hD ⟨q, hq, hpre⟩ ⟨⟨rfl, q', x, t, hpre2, hNq, hF, hc0, hc1⟩, hBl⟩ hK
    have hx : q' = wks (i / 64) q ∧ x = wk (i / 64 + q) := by
      rw [hpre, wks_snoc] at hpre2
      have := List.append_inj' hpre2 rfl
      exact ⟨this.1.symm, by simpa using this.2.symm⟩
    obtain ⟨rfl, rfl⟩ := hx
    rw [wk_val (by omega)] at hF hc0
    have hnx := next_found (by omega) hNq hF
    clear hF hNq hpre hpre2
    generalize 64 * (i / 64 + q) + t = jx at *
    gi_wp2_with fail
    have hBl2 := hBl
    have hd0 := hc0
    have hd1 := hc1
    have hK2 := hK
    obtain ⟨hBV, hLV, hTV, hr0, hr1⟩ := next_door (D := D) (w := w) hblt hllt hB1 hL1 hT1 hBl2 (by omega) _ _ hd0 hd1
    refine ⟨by simp, .inl ⟨D, _, rfl, run_takeDeferred hK2, ?_⟩⟩
    generalize W.putObj D (.deferred none) = W2 at *
    refine ⟨by simp, .inr ⟨_, _, 66, #[.pointer (some ⟨b, 2, none⟩)], rfl, by simp [go_sem], ?_⟩⟩
    refine (runlock_deferred Tryd.rwRLib b 2 1 _ _ .returning _ (hBV.cell 2) (hBV.cell 4) (hBV.cell 6) (hBV.free 6) (by rw [wrap32_down]; decide)).mono ?_
    rintro e u' w'' ⟨rfl, rfl, rfl⟩
    rw [wrap32_down]
    refine ⟨.tuple #[.int .i64 (jx : Int), .bool true], ?_, .inl ⟨jx, hnx, rfl⟩, ⟨hn, hSn, hBV.setAt 6 _, hne, ws, hLV.setOther _ _ hne, hw⟩, hTV.set _ _ (.inr rfl)⟩
    simp [results, Tryd.f86, go_sem, hr0, hr1]
/-- The world in which next is left, behind the loop's mark. -/
theorem next_door_nil {b m D : Nat} {w w1 V : World} (hb : b < w.heap.size) (hB1 : Blk w1 b (setArr m 0 1 0 0 none) 113)
    (hT1 : Turn (fun k => k = b) w w1) (hV : Below w.heap.size w1 V) (hD : w.heap.size + 6 ≤ D) (v0 v1 : Value) (hc0 : V.cell? ⟨w.heap.size + 1, 0, none⟩ = some v0) (hc1 : V.cell? ⟨w.heap.size + 1 + 1, 0, none⟩ = some v1) :
    Blk (V.putObj D (.deferred none)) b (setArr m 0 1 0 0 none) 113 ∧ Turn (fun k => k = b) w (V.putObj D (.deferred none)) ∧
      ((V.putObj D (.deferred none)).setCell ⟨b, 6, none⟩ (.int .i32 0)).cell? ⟨w.heap.size + 1, 0, none⟩ = some v0 ∧ ((V.putObj D (.deferred none)).setCell ⟨b, 6, none⟩ (.int .i32 0)).cell? ⟨w.heap.size + 1 + 1, 0, none⟩ = some v1 := by
  have put : ∀ k, k ≠ D → (V.putObj D (.deferred none)).heap[k]? = V.heap[k]? := fun k hk => World.putObj_heap_other hk
  refine ⟨?_, ?_, ?_, ?_⟩
  · unfold Blk; rw [put b (by omega), hV.block b hb]; exact hB1
  · have hs1 := hT1.size
    refine ⟨hV.os.trans hT1.os, hV.tape.trans hT1.tape, hV.output.trans hT1.output, ?_, fun k hk hn => ?_⟩
    · have := hV.size; simp [World.putObj]; omega
    · rw [put k (by omega), hV.block k hk]; exact hT1.block k hk hn
  · exact cell_setBlock ((World.cell?_of_block (w := V) (put _ (by simp; omega))).trans hc0) (by simp; omega)
  · exact cell_setBlock ((World.cell?_of_block (w := V) (put _ (by simp; omega))).trans hc1) (by simp; omega)

set_option maxRecDepth 100000 in
set_option maxHeartbeats 2000000 in
theorem next_nil (b : Nat) (m : Nat) (S : Nat → Bool) (i : Nat) (hi : i < m) (w : World) (hA : SetAt w b none m S) :
    Calls Tryd.prog 86 #[.pointer (some ⟨b, 0, none⟩), .int .i64 i] w (NextPost b none m S i w) := by
  obtain ⟨hn, hSn, hB0, hS0⟩ := hA
  have hblt := hB0.lt
  obtain ⟨x0, x1, x2⟩ := nextWorld_boxes i w
  have hB : Blk (nextWorld i w) b (setArr m 0 0 0 0 none) 113 := ((hB0.alloc _).alloc _).alloc _
  have hT0 : Turn (fun k => k = b) w (nextWorld i w) := (((Turn.refl _ w).alloc _).alloc _).alloc _
  have c2 : (nextWorld i w).cell? ⟨b, 2, none⟩ = some (.int .i32 0) := hB.cell 2
  have c5 : (nextWorld i w).cell? ⟨b, 5, none⟩ = some (.int .u32 0) := hB.cell 5
  have c6 : (nextWorld i w).cell? ⟨b, 6, none⟩ = some (.int .i32 0) := hB.cell 6
  have z6 : (nextWorld i w).frozen? ⟨b, 6, none⟩ = false := hB.free 6
  have hB1 := hB.setAt 6 (.int .i32 1)
  have y0 := x0.setOther ⟨b, 6, none⟩ (.int .i32 1) (by simp; omega)
  have y1 := x1.setOther ⟨b, 6, none⟩ (.int .i32 1) (by simp; omega)
  have y2 := x2.setOther ⟨b, 6, none⟩ (.int .i32 1) (by simp; omega)
  have hT1 : Turn (fun k => k = b) w ((nextWorld i w).setCell ⟨b, 6, none⟩ (.int .i32 1)) := hT0.set _ _ (.inr rfl)
  have hs1 : ((nextWorld i w).setCell ⟨b, 6, none⟩ (.int .i32 1)).heap.size = w.heap.size + 3 := by simp [nextWorld]
  obtain ⟨n, h1⟩ : ∃ n : Nat, 6 ≤ n := ⟨6, Nat.le_refl _⟩
  refine calls_of_wp_marks Tryd.func86 rfl n ?_
  simp only [Tryd.ntmps86, List.size_toArray, List.length_cons, List.length_nil, Nat.reduceAdd, Nat.reduceSub, Array.replicate_succ, Array.replicate_zero, List.push_toArray, List.append_toArray, List.nil_append, List.cons_append]
  gi_wp2_with fail
  refine ⟨trivial, fun h => (by cases h), ?_⟩
  change CallsIn _ _ _ _ _ (nextWorld i w) _
  refine (callsIn_wide.2 (knows_yes b m i _ (hB.cell 0) (by omega) (by omega))).mono ?_
  rintro e w' ⟨rfl, rfl⟩
  gi_wp2_with fail
  refine ⟨trivial, fun h => (by cases h), ?_⟩
  refine (callsIn_wide.2 (rlock_open Tryd.rwRLib b 2 0 _ _ _ c2 c5 c6 z6 (by rw [wrap32_up]; decide))).mono ?_
  rintro e w' ⟨rfl, rfl⟩
  rw [wrap32_up]
  generalize (nextWorld i w).setCell ⟨b, 2 + 4, none⟩ (.int .i32 1) = w1 at *
  clear c2 c5 c6 z6 x0 x1 x2 hB hT0
  have k1 : w1.cell? ⟨b, 1, none⟩ = some (.int .i64 0) := hB1.cell 1
  have ki : w1.cell? ⟨w.heap.size, 0, none⟩ = some (.int .i64 i) := y0.cell 0
  gi_wp2_with fail
  refine wpIn_wide.2 ?_
  go_region_held3 (fun w' => w'.cell? ⟨b, 1, none⟩ = some (.int .i64 0) ∧ w'.cell? ⟨w.heap.size, 0, none⟩ = some (.int .i64 i)) (first | go_keep | exact hk2)
    (first
      | (go_at_call 47; refine (words_any b 0 i _).mono ?_; rintro e w2 ⟨rfl, rfl⟩; have hk2 : (wordsWorld b 0 i w1.drew).cell? ⟨b, 1, none⟩ = some (.int .i64 0) ∧ (wordsWorld b 0 i w1.drew).cell? ⟨w.heap.size, 0, none⟩ = some (.int .i64 i) := ⟨(((hB1.drew.alloc _).alloc _).alloc _).cell 1, (((y0.drew.alloc _).alloc _).alloc _).cell 0⟩))
  gi_wp2_with fail
  have hW : Below w.heap.size w1 (wordsWorld b 0 i w1.drew) := by
    unfold wordsWorld
    exact (((((Below.refl w.heap.size w1).drew).alloc (by simp; omega) _).alloc (by simp; omega) _).alloc (by simp; omega) _)
  have hs : (wordsWorld b 0 i w1.drew).heap.size = w.heap.size + 6 := by simp [wordsWorld, hs1]
  have hB2 : Blk (wordsWorld b 0 i w1.drew) b (setArr m 0 1 0 0 none) 113 := ((hB1.drew.alloc _).alloc _).alloc _
  have v0 : Blk (wordsWorld b 0 i w1.drew) w.heap.size #[.int .i64 i] 3 := ((y0.drew.alloc _).alloc _).alloc _
  have v1 : Blk (wordsWorld b 0 i w1.drew) (w.heap.size + 1) #[.int .i64 0] 3 := ((y1.drew.alloc _).alloc _).alloc _
  have v2 : Blk (wordsWorld b 0 i w1.drew) (w.heap.size + 1 + 1) #[.bool false] 4 := ((y2.drew.alloc _).alloc _).alloc _
  have e0 : (wordsWorld b 0 i w1.drew).cell? ⟨w.heap.size + 3, 0, none⟩ = some (.pointer (some ⟨b, 8, none⟩)) := by
    have h := ((Blk.new w1.drew #[.pointer (some ⟨b, 8, none⟩)] 137).alloc (.cells #[.int .i64 0] 3)).alloc (.cells #[.int .i64 i] 3)
    simp only [World.size_drew, hs1] at h
    exact h.cell 0
  have e1 : (wordsWorld b 0 i w1.drew).cell? ⟨w.heap.size + 3 + 1, 0, none⟩ = some (.int .i64 0) := by
    have h := (Blk.new (w1.drew.alloc (.cells #[.pointer (some ⟨b, 8, none⟩)] 137)) #[.int .i64 0] 3).alloc (.cells #[.int .i64 i] 3)
    simp only [World.size_drew, World.size_alloc, hs1] at h
    exact h.cell 0
  have e2 : (wordsWorld b 0 i w1.drew).cell? ⟨w.heap.size + 3 + 1 + 1, 0, none⟩ = some (.int .i64 i) := by
    have h := Blk.new ((w1.drew.alloc (.cells #[.pointer (some ⟨b, 8, none⟩)] 137)).alloc (.cells #[.int .i64 0] 3)) #[.int .i64 i] 3
    simp only [World.size_drew, World.size_alloc, hs1] at h
    exact h.cell 0
  generalize wordsWorld b 0 i w1.drew = W0 at *
  clear hk2 k1 ki
  refine wpIn_rangeFunc_ownF rfl (by omega) (gf := 82) (lb := #[.pointer (some ⟨w.heap.size + 3, 0, none⟩), .pointer (some ⟨w.heap.size + 3 + 1, 0, none⟩), .pointer (some ⟨w.heap.size + 3 + 1 + 1, 0, none⟩)]) rfl trivial (enters_of Tryd.func82 (by kernel_rfl) rfl)
    (words_stops_nil (n - 1) b m 0 1 i (by omega) (w.heap.size + 3) W0 e0 e1 e2 (by omega) hB2) walksK_t walksK_b (Below.refl _ _) (fun _ => rfl)
    (fun pre W => ((∀ x ∈ pre, NoneIn S i x.1) ∧ W.cell? ⟨w.heap.size, 0, none⟩ = some (.int .i64 i) ∧ (W.cell? ⟨w.heap.size + 1, 0, none⟩ = some (.int .i64 0) ∧ W.frozen? ⟨w.heap.size + 1, 0, none⟩ = false) ∧ (W.cell? ⟨w.heap.size + 1 + 1, 0, none⟩ = some (.bool false) ∧ W.frozen? ⟨w.heap.size + 1 + 1, 0, none⟩ = false)) ∧ Below w.heap.size w1 W)
    (fun c pre W => (c = .ret ∧ ∃ q x t, pre = q ++ [x] ∧ (∀ y ∈ q, NoneIn S i y.1) ∧ FirstIn S i x.1 t ∧ W.cell? ⟨w.heap.size + 1, 0, none⟩ = some (.int .i64 ((64 * x.1 + t : Nat) : Int)) ∧ W.cell? ⟨w.heap.size + 1 + 1, 0, none⟩ = some (.bool true)) ∧ Below w.heap.size w1 W)
    (OwnFrom.and (Own.from (fun s A B row hs hg hr => ⟨hs.1, cell_kept hs.2.1 hg hr, ⟨cell_kept hs.2.2.1.1 hg hr, (frozen_kept hs.2.2.1.1 hg hr).trans hs.2.2.1.2⟩, ⟨cell_kept hs.2.2.2.1 hg hr, (frozen_kept hs.2.2.2.1 hg hr).trans hs.2.2.2.2⟩⟩) _) (ownFrom_below (by omega) (by omega)))
    (fun c => OwnFrom.and (Own.from (fun s A B row hs hg hr => by
      obtain ⟨hc, q, x, t, h1, h2, h3, h4, h5⟩ := hs
      exact ⟨hc, q, x, t, h1, h2, h3, cell_kept h4 hg hr, cell_kept h5 hg hr⟩) _) (ownFrom_below (by omega) (by omega)))
    ⟨⟨fun x h => (by cases h), v0.cell 0, ⟨v1.cell 0, v1.free 0⟩, ⟨v2.cell 0, v2.free 0⟩⟩, hW⟩
    (fun x => { tmps := #[.pointer (some ⟨b, 0, none⟩), .int .i64 i, undef, .pointer (some ⟨w.heap.size, 0, none⟩), .pointer (some ⟨w.heap.size + 1, 0, none⟩), .pointer (some ⟨w.heap.size + 1 + 1, 0, none⟩), .int .i64 ((x.1 : Int) * 64), .pointer (some ⟨0, x.1, none⟩), undef, .pointer (some ⟨b, 0, none⟩), .int .i64 i, .bool true, .bool false, .pointer (some ⟨b, 0, none⟩), .pointer (some ⟨b, 0, none⟩), .pointer (some ⟨b, 2, none⟩), .tuple #[], .pointer (some ⟨b, 0, none⟩), .pointer (some ⟨b, 0, none⟩), .pointer (some ⟨b, 2, none⟩), .pointer (some ⟨b, 0, none⟩), .pointer (some ⟨b, 0, none⟩), .pointer (some ⟨b, 8, none⟩), .pointer (some ⟨b, 0, none⟩), .pointer (some ⟨b, 0, none⟩), .pointer (some ⟨b, 1, none⟩), .int .i64 0, .int .i64 i, wordsFn (w.heap.size + 3), .int .i64 ((x.1 : Int) * 64), .pointer (some ⟨0, x.1, none⟩), undef, undef, undef, undef, undef, undef, undef, undef, undef, undef, undef, undef, undef, undef, undef, undef], defers := [] }) ?assign ?body ?done ?stop
  case assign =>
    intro l0 x W K hK
    unfold wordArgs
    gi_wp2
    exact hK
  case body =>
    rintro l0 pre x W _ hlen
    exact absurd hlen (Nat.not_lt_zero _)
  case done =>
    rintro D xs W hD rfl ⟨⟨hN, hci, ⟨hc0, hf0⟩, ⟨hc1, hf1⟩⟩, hBl⟩ hK
    gi_wp2_with fail
    have hBl2 : Below w.heap.size w1 ((W.setCell ⟨w.heap.size + 1, 0, none⟩ (.int .i64 0)).setCell ⟨w.heap.size + 1 + 1, 0, none⟩ (.bool false)) := (hBl.setCell (p := ⟨w.heap.size + 1, 0, none⟩) (by simp) _).setCell (p := ⟨w.heap.size + 1 + 1, 0, none⟩) (by simp; omega) _
    have hd0 : ((W.setCell ⟨w.heap.size + 1, 0, none⟩ (.int .i64 0)).setCell ⟨w.heap.size + 1 + 1, 0, none⟩ (.bool false)).cell? ⟨w.heap.size + 1, 0, none⟩ = some (.int .i64 0) := by
      rw [World.cell?_setCell_other _ ⟨w.heap.size + 1 + 1, 0, none⟩ ⟨w.heap.size + 1, 0, none⟩ _ (by simp)]
      exact World.cell?_setCell_same _ _ _ hc0
    have hd1 : ((W.setCell ⟨w.heap.size + 1, 0, none⟩ (.int .i64 0)).setCell ⟨w.heap.size + 1 + 1, 0, none⟩ (.bool false)).cell? ⟨w.heap.size + 1 + 1, 0, none⟩ = some (.bool false) :=
      World.cell?_setCell_same _ _ _ ((World.cell?_setCell_other _ ⟨w.heap.size + 1, 0, none⟩ ⟨w.heap.size + 1 + 1, 0, none⟩ _ (by simp)).trans hc1)
    have hK2 := ((KeepsOthers.setCell W ⟨w.heap.size + 1, 0, none⟩ (.int .i64 0)).trans (KeepsOthers.setCell _ ⟨w.heap.size + 1 + 1, 0, none⟩ (.bool false))).same D _ hK rfl
    generalize (W.setCell ⟨w.heap.size + 1, 0, none⟩ (.int .i64 0)).setCell ⟨w.heap.size + 1 + 1, 0, none⟩ (.bool false) = V at *
    obtain ⟨hBV, hTV, hr0, hr1⟩ := next_door_nil (D := D) (w := w) hblt hB1 hT1 hBl2 (by omega) _ _ hd0 hd1
    refine ⟨by simp, .inl ⟨D, _, rfl, run_takeDeferred hK2, ?_⟩⟩
    generalize V.putObj D (.deferred none) = W2 at *
    refine ⟨by simp, .inr ⟨_, _, 66, #[.pointer (some ⟨b, 2, none⟩)], rfl, by simp [go_sem], ?_⟩⟩
    refine (runlock_deferred Tryd.rwRLib b 2 1 _ _ .returning _ (hBV.cell 2) (hBV.cell 4) (hBV.cell 6) (hBV.free 6) (by rw [wrap32_down]; decide)).mono ?_
    rintro e u' w'' ⟨rfl, rfl, rfl⟩
    rw [wrap32_down]
    refine ⟨.tuple #[.int .i64 0, .bool false], ?_, .inr ⟨fun j _ => hS0 j, rfl⟩, ⟨hn, hSn, hBV.setAt 6 _, hS0⟩, hTV.set _ _ (.inr rfl)⟩
    simp [results, Tryd.f86, go_sem, hr0, hr1]
  case stop =>
    rintro D c pre W hD h _ _
    exact h.elim


/-- next, of a number that there is not. -/
theorem next_out (b : Nat) (lo : Option Nat) (m : Nat) (S : Nat → Bool) (i : Nat) (hi : m ≤ i) (w : World) (hA : SetAt w b lo m S) :
    Calls Tryd.prog 86 #[.pointer (some ⟨b, 0, none⟩), .int .i64 i] w (NextPost b lo m S i w) := by
  have hA1 : SetAt (nextWorld i w) b lo m S := hA.turn ((((Turn.refl (fun _ => False) w).alloc _).alloc _).alloc _) (fun h => h) (fun _ _ h => h)
  have hT1 : Turn (fun k => k = b) w (nextWorld i w) := (((Turn.refl _ w).alloc _).alloc _).alloc _
  obtain ⟨x0, x1, x2⟩ := nextWorld_boxes i w
  have r0 : (nextWorld i w).cell? ⟨w.heap.size + 1, 0, none⟩ = some (.int .i64 0) := x1.cell 0
  have r1 : (nextWorld i w).cell? ⟨w.heap.size + 1 + 1, 0, none⟩ = some (.bool false) := x2.cell 0
  have z0 : (nextWorld i w).frozen? ⟨w.heap.size + 1, 0, none⟩ = false := x1.free 0
  have z1 : (nextWorld i w).frozen? ⟨w.heap.size + 1 + 1, 0, none⟩ = false := x2.free 0
  obtain ⟨n, h1⟩ : ∃ n : Nat, 6 ≤ n := ⟨6, Nat.le_refl _⟩
  refine calls_of_wp_marks Tryd.func86 rfl n ?_
  simp only [Tryd.ntmps86, List.size_toArray, List.length_cons, List.length_nil, Nat.reduceAdd, Nat.reduceSub, Array.replicate_succ, Array.replicate_zero, List.push_toArray, List.append_toArray, List.nil_append, List.cons_append]
  gi_wp2_with fail
  refine ⟨trivial, fun h => (by cases h), ?_⟩
  change CallsIn _ _ _ _ _ (nextWorld i w) _
  refine (callsIn_wide.2 (knows_no b m i _ hA1.2.2.n0 (by omega))).mono ?_
  rintro e w' ⟨rfl, rfl⟩
  gi_wp2_with fail
  have hd0 : (((nextWorld i w).setCell ⟨w.heap.size + 1, 0, none⟩ (.int .i64 0)).setCell ⟨w.heap.size + 1 + 1, 0, none⟩ (.bool false)).cell? ⟨w.heap.size + 1, 0, none⟩ = some (.int .i64 0) := by
    rw [World.cell?_setCell_other _ ⟨w.heap.size + 1 + 1, 0, none⟩ ⟨w.heap.size + 1, 0, none⟩ _ (by simp)]
    exact World.cell?_setCell_same _ _ _ r0
  have hd1 : (((nextWorld i w).setCell ⟨w.heap.size + 1, 0, none⟩ (.int .i64 0)).setCell ⟨w.heap.size + 1 + 1, 0, none⟩ (.bool false)).cell? ⟨w.heap.size + 1 + 1, 0, none⟩ = some (.bool false) :=
    World.cell?_setCell_same _ _ _ ((World.cell?_setCell_other _ ⟨w.heap.size + 1, 0, none⟩ ⟨w.heap.size + 1 + 1, 0, none⟩ _ (by simp)).trans r1)
  have hT2 : Turn (fun k => k = b) w (((nextWorld i w).setCell ⟨w.heap.size + 1, 0, none⟩ (.int .i64 0)).setCell ⟨w.heap.size + 1 + 1, 0, none⟩ (.bool false)) := (hT1.set _ _ (.inl (by simp))).set _ _ (.inl (by simp; omega))
  have hs : w.heap.size + 3 = (nextWorld i w).heap.size := by simp [nextWorld]
  have hT3 : Turn (fun k => k = w.heap.size + 1 ∨ k = w.heap.size + 1 + 1) (nextWorld i w) (((nextWorld i w).setCell ⟨w.heap.size + 1, 0, none⟩ (.int .i64 0)).setCell ⟨w.heap.size + 1 + 1, 0, none⟩ (.bool false)) :=
    ((Turn.refl _ _).set _ _ (.inr (.inl rfl))).set _ _ (.inr (.inr rfl))
  have hlt := hA.lt
  have hA2 := hA1.turn hT3 (by omega) (fun l hl => by have := hlt.2 l hl; omega)
  generalize ((nextWorld i w).setCell ⟨w.heap.size + 1, 0, none⟩ (.int .i64 0)).setCell ⟨w.heap.size + 1 + 1, 0, none⟩ (.bool false) = V at *
  refine ⟨.tuple #[.int .i64 0, .bool false], ?_, .inr ⟨fun j hj => ?_, rfl⟩, hA2, hT2⟩
  · simp [results, Tryd.f86, go_sem, hd0, hd1]
  · cases hs : S j with
    | false => rfl
    | true => exact absurd (hA.2.1 j hs) (by omega)

/-- next, from any number on. -/
theorem next_any (b : Nat) (lo : Option Nat) (m : Nat) (S : Nat → Bool) (i : Nat) (w : World) (hA : SetAt w b lo m S) (hTab : TabAt w) :
    Calls Tryd.prog 86 #[.pointer (some ⟨b, 0, none⟩), .int .i64 i] w (NextPost b lo m S i w) := by
  by_cases hi : i < m
  · cases lo with
    | none => exact next_nil b m S i hi w hA
    | some l => exact next_some b l m S i hi w hA hTab
  · exact next_out b lo m S i (by omega) w hA

/-- A question leaves all that there was as it was. -/
theorem same_below {w w' : World} {b : Nat} {lo : Option Nat} {n : Nat} {S : Nat → Bool} (h : SetAt w b lo n S) (h' : SetAt w' b lo n S) (hT : Turn (fun k => k = b) w w') : Below w.heap.size w w' := by
  refine ⟨hT.os, hT.tape, hT.output, hT.size, fun k hk => ?_⟩
  by_cases e : k = b
  · subst e
    obtain ⟨_, _, h⟩ := h
    obtain ⟨_, _, h'⟩ := h'
    cases lo with
    | none => exact h'.1.trans h.1.symm
    | some l => exact h'.1.trans h.1.symm
  · exact hT.block k hk e
end Go.Proofs.YtoemfehlnnbjdaaDoor
