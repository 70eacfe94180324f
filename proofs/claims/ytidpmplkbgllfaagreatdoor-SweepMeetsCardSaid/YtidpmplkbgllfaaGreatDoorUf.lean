/- Plain: how many bits of a word are set; how many numbers are in a set. It speaks of no program. OnesCount64, for the layers above bits, at this seat's numbers. Count, for the layers above bits, at this seat's numbers. Reset, for the layers above bits, at this seat's numbers. -/
import Derived.Test.YtidpmplkbgllfaaGreatDoorUa
import Derived.Test.YtidpmplkbgllfaaGreatDoorUb
import Derived.Laws.Bits128
import Derived.RangeFuncFrom
import Derived.Laws.LoneSync
namespace Go.Proofs.YtidpmplkbgllfaaGreatDoor
open Go Go.RowKit

theorem and_lane (hi lo m c : Nat) (hlo : lo < 256) (hc : c < 256) : (hi * 256 + lo) &&& (m * 256 + c) = (hi &&& m) * 256 + (lo &&& c) := by
  have h8 : (256 : Nat) = 2 ^ 8 := by decide
  apply Nat.eq_of_testBit_eq
  intro j
  have hlc : lo &&& c < 2 ^ 8 := Nat.lt_of_le_of_lt Nat.and_le_left hlo
  rw [Nat.testBit_and, h8, Nat.mul_comm hi, Nat.mul_comm m, Nat.mul_comm (hi &&& m), Nat.testBit_two_pow_mul_add _ (by omega), Nat.testBit_two_pow_mul_add _ (by omega), Nat.testBit_two_pow_mul_add _ hlc]
  by_cases h : j < 8
  · simp [h, Nat.testBit_and]
  · simp [h, Nat.testBit_and]

def s1 (m x : Nat) : Nat := (x / 2 &&& m) + (x &&& m)
def s2 (m x : Nat) : Nat := (x / 4 &&& m) + (x &&& m)
def s3 (m x : Nat) : Nat := (x / 16 + x) &&& m

theorem low1 : ∀ a, a < 2 → ∀ lo, lo < 256 → ((a * 128 + lo / 2) &&& 85) = (lo / 2 &&& 85) := by decide +kernel
theorem low2 : ∀ a, a < 4 → ∀ lo, lo < 256 → ((a * 64 + lo / 4) &&& 51) = (lo / 4 &&& 51) := by decide +kernel
theorem s1_lane (m hi lo : Nat) (hlo : lo < 256) : s1 (m * 256 + 85) (hi * 256 + lo) = s1 m hi * 256 + s1 85 lo := by
  have e : (hi * 256 + lo) / 2 = (hi / 2) * 256 + ((hi % 2) * 128 + lo / 2) := by omega
  unfold s1
  rw [e, and_lane _ _ _ _ (by omega) (by decide), and_lane _ _ _ _ hlo (by decide), low1 _ (by omega) _ hlo, Nat.add_mul]
  omega
theorem s2_lane (m hi lo : Nat) (hlo : lo < 256) : s2 (m * 256 + 51) (hi * 256 + lo) = s2 m hi * 256 + s2 51 lo := by
  have e : (hi * 256 + lo) / 4 = (hi / 4) * 256 + ((hi % 4) * 64 + lo / 4) := by omega
  unfold s2
  rw [e, and_lane _ _ _ _ (by omega) (by decide), and_lane _ _ _ _ hlo (by decide), low2 _ (by omega) _ hlo, Nat.add_mul]
  omega
theorem s3_lane (m hi lo : Nat) (h1 : hi % 16 ≤ 4) (h2 : lo ≤ 68) : s3 (m * 256 + 15) (hi * 256 + lo) = s3 m hi * 256 + s3 15 lo := by
  have e : (hi * 256 + lo) / 16 + (hi * 256 + lo) = (hi / 16 + hi) * 256 + ((hi % 16) * 16 + (lo / 16 + lo)) := by omega
  unfold s3
  rw [e, and_lane _ _ _ _ (by omega) (by decide)]
  have m15 : ∀ x : Nat, x &&& 15 = x % 16 := fun x => Nat.and_two_pow_sub_one_eq_mod x 4
  rw [m15, m15]
  congr 1
  omega

/-- How many of the lowest n bits are set. -/
def pop : Nat → Nat → Nat
  | 0, _ => 0
  | n + 1, x => x % 2 + pop n (x / 2)

theorem byte1 : ∀ lo, lo < 256 → s1 85 lo < 256 := by decide +kernel
theorem byte2 : ∀ lo, lo < 256 → s2 51 (s1 85 lo) ≤ 68 ∧ s2 51 (s1 85 lo) % 16 ≤ 4 := by decide +kernel
theorem byte3 : ∀ lo, lo < 256 → s3 15 (s2 51 (s1 85 lo)) = pop 8 lo := by decide +kernel
theorem pop8_le : ∀ lo, lo < 256 → pop 8 lo ≤ 8 := by decide +kernel

theorem pop_lane (n hi lo : Nat) (hlo : lo < 256) : pop (n + 8) (hi * 256 + lo) = pop 8 lo + pop n hi := by
  simp only [pop]
  have e : (hi * 256 + lo) / 2 / 2 / 2 / 2 / 2 / 2 / 2 / 2 = hi := by omega
  rw [e]
  omega

/-- All steps. -/
def ones (x : Nat) : Nat :=
  let u := s3 1085102592571150095 (s2 3689348814741910323 (s1 6148914691236517205 x))
  let v := u + u / 256
  let t := v + v / 65536
  let r := t + t / 4294967296
  r % 128

/-- A word of eight bytes. -/
def word8 (b0 b1 b2 b3 b4 b5 b6 b7 : Nat) : Nat := ((((((b7 * 256 + b6) * 256 + b5) * 256 + b4) * 256 + b3) * 256 + b2) * 256 + b1) * 256 + b0

theorem steps3 (b0 b1 b2 b3 b4 b5 b6 b7 : Nat) (h0 : b0 < 256) (h1 : b1 < 256) (h2 : b2 < 256) (h3 : b3 < 256) (h4 : b4 < 256) (h5 : b5 < 256) (h6 : b6 < 256) (h7 : b7 < 256) :
    s3 1085102592571150095 (s2 3689348814741910323 (s1 6148914691236517205 (word8 b0 b1 b2 b3 b4 b5 b6 b7))) =
      word8 (pop 8 b0) (pop 8 b1) (pop 8 b2) (pop 8 b3) (pop 8 b4) (pop 8 b5) (pop 8 b6) (pop 8 b7) := by
  have m1 : 6148914691236517205 = ((((((85 * 256 + 85) * 256 + 85) * 256 + 85) * 256 + 85) * 256 + 85) * 256 + 85) * 256 + 85 := by decide
  have m2 : 3689348814741910323 = ((((((51 * 256 + 51) * 256 + 51) * 256 + 51) * 256 + 51) * 256 + 51) * 256 + 51) * 256 + 51 := by decide
  have m3 : 1085102592571150095 = ((((((15 * 256 + 15) * 256 + 15) * 256 + 15) * 256 + 15) * 256 + 15) * 256 + 15) * 256 + 15 := by decide
  have l0 := byte2 b0 h0
  have l1 := byte2 b1 h1
  have l2 := byte2 b2 h2
  have l3 := byte2 b3 h3
  have l4 := byte2 b4 h4
  have l5 := byte2 b5 h5
  have l6 := byte2 b6 h6
  have l7 := byte2 b7 h7
  unfold word8
  rw [m1, m2, m3, s1_lane _ _ _ h0, s1_lane _ _ _ h1, s1_lane _ _ _ h2, s1_lane _ _ _ h3, s1_lane _ _ _ h4, s1_lane _ _ _ h5, s1_lane _ _ _ h6,
    s2_lane _ _ _ (byte1 _ h0), s2_lane _ _ _ (byte1 _ h1), s2_lane _ _ _ (byte1 _ h2), s2_lane _ _ _ (byte1 _ h3), s2_lane _ _ _ (byte1 _ h4), s2_lane _ _ _ (byte1 _ h5), s2_lane _ _ _ (byte1 _ h6)]
  rw [s3_lane _ _ _ (by omega) l0.1, s3_lane _ _ _ (by omega) l1.1, s3_lane _ _ _ (by omega) l2.1, s3_lane _ _ _ (by omega) l3.1, s3_lane _ _ _ (by omega) l4.1, s3_lane _ _ _ (by omega) l5.1, s3_lane _ _ _ (by omega) l6.1,
    byte3 _ h0, byte3 _ h1, byte3 _ h2, byte3 _ h3, byte3 _ h4, byte3 _ h5, byte3 _ h6, byte3 _ h7]

theorem word8_add (a0 a1 a2 a3 a4 a5 a6 a7 b0 b1 b2 b3 b4 b5 b6 b7 : Nat) :
    word8 a0 a1 a2 a3 a4 a5 a6 a7 + word8 b0 b1 b2 b3 b4 b5 b6 b7 = word8 (a0 + b0) (a1 + b1) (a2 + b2) (a3 + b3) (a4 + b4) (a5 + b5) (a6 + b6) (a7 + b7) := by
  unfold word8; omega
theorem word8_lt (a0 a1 a2 a3 a4 a5 a6 a7 : Nat) (h0 : a0 < 256) (h1 : a1 < 256) (h2 : a2 < 256) (h3 : a3 < 256) (h4 : a4 < 256) (h5 : a5 < 256) (h6 : a6 < 256) (h7 : a7 < 256) :
    word8 a0 a1 a2 a3 a4 a5 a6 a7 < 18446744073709551616 := by
  unfold word8; omega
theorem q1 (q r : Nat) (h : r < 256) : (q * 256 + r) / 256 = q := by omega
theorem q2 (q r s : Nat) (h : r < 256) (h' : s < 256) : ((q * 256 + r) * 256 + s) / 65536 = q := by omega
theorem q4 (q r s t u : Nat) (h : r < 256) (h' : s < 256) (h1 : t < 256) (h2 : u < 256) : ((((q * 256 + r) * 256 + s) * 256 + t) * 256 + u) / 4294967296 = q := by omega
theorem qm (q r : Nat) (h : r < 128) : (q * 256 + r) % 128 = r := by omega
theorem word8_div1 (a0 a1 a2 a3 a4 a5 a6 a7 : Nat) (h0 : a0 < 256) : word8 a0 a1 a2 a3 a4 a5 a6 a7 / 256 = word8 a1 a2 a3 a4 a5 a6 a7 0 := by
  have e : word8 a1 a2 a3 a4 a5 a6 a7 0 = (((((a7 * 256 + a6) * 256 + a5) * 256 + a4) * 256 + a3) * 256 + a2) * 256 + a1 := by unfold word8; omega
  rw [e]; unfold word8
  exact q1 _ _ h0
theorem word8_div2 (a0 a1 a2 a3 a4 a5 a6 a7 : Nat) (h0 : a0 < 256) (h1 : a1 < 256) : word8 a0 a1 a2 a3 a4 a5 a6 a7 / 65536 = word8 a2 a3 a4 a5 a6 a7 0 0 := by
  have e : word8 a2 a3 a4 a5 a6 a7 0 0 = ((((a7 * 256 + a6) * 256 + a5) * 256 + a4) * 256 + a3) * 256 + a2 := by unfold word8; omega
  rw [e]; unfold word8
  exact q2 _ _ _ h1 h0
theorem word8_div4 (a0 a1 a2 a3 a4 a5 a6 a7 : Nat) (h0 : a0 < 256) (h1 : a1 < 256) (h2 : a2 < 256) (h3 : a3 < 256) : word8 a0 a1 a2 a3 a4 a5 a6 a7 / 4294967296 = word8 a4 a5 a6 a7 0 0 0 0 := by
  have e : word8 a4 a5 a6 a7 0 0 0 0 = ((a7 * 256 + a6) * 256 + a5) * 256 + a4 := by unfold word8; omega
  rw [e]; unfold word8
  exact q4 _ _ _ _ _ h3 h2 h1 h0
theorem word8_mod (a0 a1 a2 a3 a4 a5 a6 a7 : Nat) (h0 : a0 < 128) : word8 a0 a1 a2 a3 a4 a5 a6 a7 % 128 = a0 := by
  unfold word8
  exact qm _ _ h0

theorem sums (c0 c1 c2 c3 c4 c5 c6 c7 : Nat) (h0 : c0 ≤ 8) (h1 : c1 ≤ 8) (h2 : c2 ≤ 8) (h3 : c3 ≤ 8) (h4 : c4 ≤ 8) (h5 : c5 ≤ 8) (h6 : c6 ≤ 8) (h7 : c7 ≤ 8) (u v t r : Nat)
    (hu : u = word8 c0 c1 c2 c3 c4 c5 c6 c7) (hv : v = u + u / 256) (ht : t = v + v / 65536) (hr : r = t + t / 4294967296) :
    r % 128 = c0 + c1 + c2 + c3 + c4 + c5 + c6 + c7 ∧ u < 18446744073709551616 ∧ v < 18446744073709551616 ∧ t < 18446744073709551616 ∧ r < 18446744073709551616 := by
  have fu : u < 18446744073709551616 := by rw [hu]; exact word8_lt _ _ _ _ _ _ _ _ (by omega) (by omega) (by omega) (by omega) (by omega) (by omega) (by omega) (by omega)
  rw [hu, word8_div1 _ _ _ _ _ _ _ _ (by omega), word8_add] at hv
  have fv : v < 18446744073709551616 := by rw [hv]; exact word8_lt _ _ _ _ _ _ _ _ (by omega) (by omega) (by omega) (by omega) (by omega) (by omega) (by omega) (by omega)
  rw [hv, word8_div2 _ _ _ _ _ _ _ _ (by omega) (by omega), word8_add] at ht
  have ft : t < 18446744073709551616 := by rw [ht]; exact word8_lt _ _ _ _ _ _ _ _ (by omega) (by omega) (by omega) (by omega) (by omega) (by omega) (by omega) (by omega)
  rw [ht, word8_div4 _ _ _ _ _ _ _ _ (by omega) (by omega) (by omega) (by omega), word8_add] at hr
  have fr : r < 18446744073709551616 := by rw [hr]; exact word8_lt _ _ _ _ _ _ _ _ (by omega) (by omega) (by omega) (by omega) (by omega) (by omega) (by omega) (by omega)
  refine ⟨?_, fu, fv, ft, fr⟩
  rw [hr, word8_mod _ _ _ _ _ _ _ _ (by omega)]
  omega

theorem word8_of (x : Nat) (hx : x < 18446744073709551616) : ∃ b0 b1 b2 b3 b4 b5 b6 b7, b0 < 256 ∧ b1 < 256 ∧ b2 < 256 ∧ b3 < 256 ∧ b4 < 256 ∧ b5 < 256 ∧ b6 < 256 ∧ b7 < 256 ∧ x = word8 b0 b1 b2 b3 b4 b5 b6 b7 := by
  have step : ∀ y : Nat, y = y / 256 * 256 + y % 256 := fun y => by omega
  obtain ⟨x1, e1⟩ : ∃ x1, x1 = x / 256 := ⟨_, rfl⟩
  obtain ⟨x2, e2⟩ : ∃ x2, x2 = x1 / 256 := ⟨_, rfl⟩
  obtain ⟨x3, e3⟩ : ∃ x3, x3 = x2 / 256 := ⟨_, rfl⟩
  obtain ⟨x4, e4⟩ : ∃ x4, x4 = x3 / 256 := ⟨_, rfl⟩
  obtain ⟨x5, e5⟩ : ∃ x5, x5 = x4 / 256 := ⟨_, rfl⟩
  obtain ⟨x6, e6⟩ : ∃ x6, x6 = x5 / 256 := ⟨_, rfl⟩
  obtain ⟨x7, e7⟩ : ∃ x7, x7 = x6 / 256 := ⟨_, rfl⟩
  have f1 : x1 < 72057594037927936 := by omega
  have f2 : x2 < 281474976710656 := by omega
  have f3 : x3 < 1099511627776 := by omega
  have f4 : x4 < 4294967296 := by omega
  have f5 : x5 < 16777216 := by omega
  have f6 : x6 < 65536 := by omega
  have f7 : x7 < 256 := by omega
  refine ⟨x % 256, x1 % 256, x2 % 256, x3 % 256, x4 % 256, x5 % 256, x6 % 256, x7, Nat.mod_lt _ (by decide), Nat.mod_lt _ (by decide), Nat.mod_lt _ (by decide), Nat.mod_lt _ (by decide), Nat.mod_lt _ (by decide), Nat.mod_lt _ (by decide), Nat.mod_lt _ (by decide), f7, ?_⟩
  unfold word8
  rw [e7, ← step x6, e6, ← step x5, e5, ← step x4, e4, ← step x3, e3, ← step x2, e2, ← step x1, e1, ← step x]

theorem ones_pop (x : Nat) (hx : x < 18446744073709551616) : ones x = pop 64 x := by
  obtain ⟨b0, b1, b2, b3, b4, b5, b6, b7, h0, h1, h2, h3, h4, h5, h6, h7, rfl⟩ := word8_of x hx
  have hs := steps3 b0 b1 b2 b3 b4 b5 b6 b7 h0 h1 h2 h3 h4 h5 h6 h7
  have hq := (sums _ _ _ _ _ _ _ _ (pop8_le _ h0) (pop8_le _ h1) (pop8_le _ h2) (pop8_le _ h3) (pop8_le _ h4) (pop8_le _ h5) (pop8_le _ h6) (pop8_le _ h7) _ _ _ _ hs rfl rfl rfl).1
  have hp : pop 64 (word8 b0 b1 b2 b3 b4 b5 b6 b7) = pop 8 b0 + (pop 8 b1 + (pop 8 b2 + (pop 8 b3 + (pop 8 b4 + (pop 8 b5 + (pop 8 b6 + pop 8 b7)))))) := by
    unfold word8
    rw [pop_lane 56 _ _ h0, pop_lane 48 _ _ h1, pop_lane 40 _ _ h2, pop_lane 32 _ _ h3, pop_lane 24 _ _ h4, pop_lane 16 _ _ h5, pop_lane 8 _ _ h6]
  rw [hp]
  unfold ones
  simp only
  rw [hq]
  omega

/-- How many of the n numbers from a on are in S. -/
def cnt (S : Nat → Bool) : Nat → Nat → Nat
  | _, 0 => 0
  | a, n + 1 => (if S a then 1 else 0) + cnt S (a + 1) n
theorem cnt_add (S : Nat → Bool) (n : Nat) : ∀ (a m : Nat), cnt S a (n + m) = cnt S a n + cnt S (a + n) m := by
  induction n with
  | zero => intro a m; simp [cnt]
  | succ n ih =>
    intro a m
    rw [show n + 1 + m = (n + m) + 1 by omega]
    simp only [cnt]
    rw [ih, show a + 1 + n = a + (n + 1) by omega]
    omega
theorem pop_cnt (S : Nat → Bool) : ∀ (n x a : Nat), (∀ j, j < n → x.testBit j = S (a + j)) → pop n x = cnt S a n := by
  intro n
  induction n with
  | zero => intro x a _; rfl
  | succ n ih =>
    intro x a h
    simp only [pop, cnt]
    rw [ih (x / 2) (a + 1) (fun j hj => by
      have := h (j + 1) (by omega)
      rw [Nat.testBit_succ] at this
      rw [this]; congr 1; omega)]
    have h0 := h 0 (by omega)
    rw [Nat.add_zero] at h0
    rw [← h0, Nat.testBit_zero]
    congr 1
    by_cases hm : x % 2 = 1
    · simp [hm]
    · have : x % 2 = 0 := by omega
      simp [this]
theorem cnt_none (S : Nat → Bool) : ∀ (n a : Nat), (∀ j, j < n → S (a + j) = false) → cnt S a n = 0 := by
  intro n
  induction n with
  | zero => intro a _; rfl
  | succ n ih =>
    intro a h
    simp only [cnt]
    rw [ih (a + 1) (fun j hj => by have := h (j + 1) (by omega); rw [← this]; congr 1; omega)]
    have := h 0 (by omega)
    simp at this
    simp [this]
theorem cnt_congr (S S' : Nat → Bool) : ∀ (n a : Nat), (∀ j, j < n → S (a + j) = S' (a + j)) → cnt S a n = cnt S' a n := by
  intro n
  induction n with
  | zero => intro a _; rfl
  | succ n ih =>
    intro a h
    simp only [cnt]
    rw [ih (a + 1) (fun j hj => by have := h (j + 1) (by omega); rw [show a + 1 + j = a + (j + 1) by omega]; exact this)]
    have := h 0 (by omega)
    rw [Nat.add_zero] at this
    rw [this]
theorem cnt_le (S : Nat → Bool) : ∀ (n a : Nat), cnt S a n ≤ n := by
  intro n
  induction n with
  | zero => intro a; simp [cnt]
  | succ n ih => intro a; simp only [cnt]; have := ih (a + 1); split <;> omega

/-- How many numbers are in S. -/
def card (S : Nat → Bool) : Nat := cnt S 0 4096
theorem card_none (S : Nat → Bool) (h : ∀ i, S i = false) : card S = 0 := cnt_none S _ _ (fun _ _ => h _)
theorem cnt_put (S : Nat → Bool) (i : Nat) (h : S i = false) : ∀ (n a : Nat), a ≤ i → i < a + n → cnt (fun j => S j || decide (j = i)) a n = cnt S a n + 1 := by
  intro n
  induction n with
  | zero => intro a _ _; omega
  | succ n ih =>
    intro a h1 h2
    simp only [cnt]
    by_cases e : a = i
    · subst e
      have hc : cnt (fun j => S j || decide (j = a)) (a + 1) n = cnt S (a + 1) n := cnt_congr _ S n (a + 1) (fun j _ => by
        have e2 : ¬ (a + 1 + j = a) := by omega
        simp [e2])
      rw [hc]
      simp [h]; omega
    · rw [ih (a + 1) (by omega) (by omega)]
      simp [e]; omega
theorem card_put (S : Nat → Bool) (i : Nat) (hi : i < 4096) (h : S i = false) : card (fun j => S j || decide (j = i)) = card S + 1 := cnt_put S i h 4096 0 (by omega) (by omega)
theorem put_same (S : Nat → Bool) (i : Nat) (h : S i = true) : (fun j => S j || decide (j = i)) = S := by
  funext j
  by_cases e : j = i
  · subst e; simp [h]
  · simp [e]
theorem drop_same (S : Nat → Bool) (i : Nat) (h : S i = false) : (fun j => S j && !decide (j = i)) = S := by
  funext j
  by_cases e : j = i
  · subst e; simp [h]
  · simp [e]
theorem card_drop (S : Nat → Bool) (i : Nat) (hi : i < 4096) (h : S i = true) : card S = card (fun j => S j && !decide (j = i)) + 1 := by
  rw [← card_put (fun j => S j && !decide (j = i)) i hi (by simp)]
  congr 1
  funext j
  by_cases e : j = i
  · subst e; simp [h]
  · simp [e]

end Go.Proofs.YtidpmplkbgllfaaGreatDoor

namespace Go.Proofs.YtidpmplkbgllfaaGreatDoor
open Go.RowKit Go.MuLone Go.RwLone

theorem step12 (d m x : Nat) (hx : x < 18446744073709551616) (hm : m < 18446744073709551616) (y : Nat) (hy : y = (x / d &&& m) + (x &&& m)) (hlt : y < 18446744073709551616) :
    IntKind.u64.wrap (bits .and .u64 ((x : Int) / (d : Int)) (m : Int) + bits .and .u64 (x : Int) (m : Int)) = (y : Int) := by
  have e : ((x : Int) / (d : Int)) = ((x / d : Nat) : Int) := (Int.natCast_ediv x d).symm
  rw [e, u64_and_nat _ _ (Nat.lt_of_le_of_lt (Nat.div_le_self _ _) hx) hm, u64_and_nat _ _ hx hm, ← Int.natCast_add, ← hy]
  exact wrap_u64_nat y hlt
theorem step3 (m z u : Nat) (h1 : z / 16 + z < 18446744073709551616) (hm : m < 18446744073709551616) (hu : u = (z / 16 + z) &&& m) :
    bits .and .u64 (IntKind.u64.wrap ((z : Int) / 16 + (z : Int))) (m : Int) = (u : Int) := by
  have e : ((z : Int) / 16 + (z : Int)) = ((z / 16 + z : Nat) : Int) := by omega
  rw [e, wrap_u64_nat _ h1, u64_and_nat _ _ h1 hm, ← hu]
theorem step4 (d u v : Nat) (hv : v = u + u / d) (hlt : v < 18446744073709551616) : IntKind.u64.wrap ((u : Int) + (u : Int) / (d : Int)) = (v : Int) := by
  have e : ((u : Int) / (d : Int)) = ((u / d : Nat) : Int) := (Int.natCast_ediv u d).symm
  rw [e, ← Int.natCast_add, ← hv]
  exact wrap_u64_nat v hlt
theorem wrap64_mod (n : Int) : bits .and .i64 (wrap64 n) 127 = n % 128 := by
  have h : wrap64 n = n % 18446744073709551616 ∨ wrap64 n = n % 18446744073709551616 - 18446744073709551616 := by
    unfold wrap64; omega
  rw [i64_and127]
  rcases h with h | h
  · rw [h]; omega
  · rw [h]; omega

theorem lane_lt (m x : Nat) (hm : m < 9223372036854775808) (d : Nat) : (x / d &&& m) + (x &&& m) < 18446744073709551616 := by
  have h1 : x / d &&& m ≤ m := Nat.and_le_right
  have h2 : x &&& m ≤ m := Nat.and_le_right
  omega

end Go.Proofs.YtidpmplkbgllfaaGreatDoor

namespace Go.Proofs.YtidpmplkbgllfaaGreatDoor
open Go.RowKit Go.Shelf Go.MuLone Go.RwLone
attribute [local go_sem] Oper.semAt_some

/-- How many numbers the words of a list hold. -/
def sumW (S : Nat → Bool) : List (Fin 64) → Nat
  | [] => 0
  | k :: r => cnt S (64 * k.1) 64 + sumW S r
theorem sumW_snoc (S : Nat → Bool) (k : Fin 64) : ∀ l, sumW S (l ++ [k]) = sumW S l + cnt S (64 * k.1) 64
  | [] => by simp [sumW]
  | a :: l => by simp only [List.cons_append, sumW]; rw [sumW_snoc S k l]; omega
theorem sumW_le (S : Nat → Bool) : ∀ l, sumW S l ≤ 64 * l.length
  | [] => by simp [sumW]
  | a :: l => by simp only [sumW, List.length_cons]; have := sumW_le S l; have := cnt_le S 64 (64 * a.1); omega
theorem sumW_wks (S : Nat → Bool) : ∀ m a, a + m ≤ 64 → sumW S (wks a m) = cnt S (64 * a) (64 * m)
  | 0, a, _ => by simp [sumW, cnt, wks_zero]
  | m + 1, a, h => by
    rw [wks_snoc, sumW_snoc, sumW_wks S m a (by omega), wk_val (by omega), show 64 * (m + 1) = 64 * m + 64 by omega, cnt_add, show 64 * (a + m) = 64 * a + 64 * m by omega]

theorem WordsOf.pop {ws : Array Value} {S : Nat → Bool} (h : WordsOf ws S) (k : Nat) (hk : k < 64) : ∃ x : Nat, x < 18446744073709551616 ∧ ws[k]? = some (.int .u64 x) ∧ pop 64 x = cnt S (64 * k) 64 := by
  obtain ⟨x, hx, hw, hb⟩ := h.2 k hk
  exact ⟨x, hx, hw, pop_cnt S 64 x (64 * k) hb⟩

/-- What a question leaves: r, and the set as it was. -/
def AskPost (b : Nat) (lo : Option Nat) (n : Nat) (r : Int) (S : Nat → Bool) (w : World) (e : Ending) (w' : World) : Prop :=
  e = .returned (.int .i64 r) ∧ SetAt w' b lo n S ∧ Turn (fun k => k = b) w w'

theorem count_round (S : Nat → Bool) (pre : List (Fin 64)) (x : Fin 64) (c : Nat) (w1 W : World) (hS : sumW S (pre ++ [x]) = sumW S pre + c)
    (hc : W.cell? ⟨w1.heap.size, 0, none⟩ = some (.int .i64 ((sumW S pre : Nat) : Int))) (hf : W.frozen? ⟨w1.heap.size, 0, none⟩ = false) (hB : Below w1.heap.size w1 W) :
    KeepsOthers W (W.setCell ⟨w1.heap.size, 0, none⟩ (.int .i64 (((sumW S pre : Nat) : Int) + (c : Int)))).drew ∧ KeepsWalks W (W.setCell ⟨w1.heap.size, 0, none⟩ (.int .i64 (((sumW S pre : Nat) : Int) + (c : Int)))).drew ∧
      (((W.setCell ⟨w1.heap.size, 0, none⟩ (.int .i64 (((sumW S pre : Nat) : Int) + (c : Int)))).drew.cell? ⟨w1.heap.size, 0, none⟩ = some (.int .i64 ((sumW S (pre ++ [x]) : Nat) : Int)) ∧ (W.setCell ⟨w1.heap.size, 0, none⟩ (.int .i64 (((sumW S pre : Nat) : Int) + (c : Int)))).drew.frozen? ⟨w1.heap.size, 0, none⟩ = false) ∧
        Below w1.heap.size w1 (W.setCell ⟨w1.heap.size, 0, none⟩ (.int .i64 (((sumW S pre : Nat) : Int) + (c : Int)))).drew) := by
  have hk := (KeepsOthers.setCell W ⟨w1.heap.size, 0, none⟩ (.int .i64 (((sumW S pre : Nat) : Int) + (c : Int)))).trans (KeepsOthers.drew _)
  refine ⟨hk, hk.walks, ⟨?_, ?_⟩, ?_⟩
  · rw [hS, Int.natCast_add]
    exact World.cell?_setCell_same W ⟨w1.heap.size, 0, none⟩ _ hc
  · show (W.setCell _ _).frozen? _ = false
    rw [World.frozen?_setCell]; exact hf
  · exact (hB.setCell (p := ⟨w1.heap.size, 0, none⟩) (Nat.le_refl _) _).drew

end Go.Proofs.YtidpmplkbgllfaaGreatDoor

namespace Go.Proofs.YtidpmplkbgllfaaGreatDoor
open Go.RowKit Go.Shelf Go.MuLone Go.RwLone
attribute [local go_sem] Oper.semAt_some

theorem ownFrom_turn {β : Type} {M : Nat → Prop} {w0 : World} {B : Nat} (hB : w0.heap.size ≤ B) : OwnFrom B (fun (_ : β) W => Turn M w0 W) :=
  fun _ _ _ _ hs hg hr => ⟨hg.os.trans hs.os, hg.tape.trans hs.tape, hg.output.trans hs.output, Nat.le_trans hs.size hg.size, fun k hk hm =>
    (hg.block k (Nat.lt_of_lt_of_le hk hs.size) (fun e => by have := (hr k e.symm).1; omega)).trans (hs.block k hk hm)⟩
/-- The words told so far are 0. -/
def ZeroW (l : Nat) (pre : List (Fin 64)) (W : World) : Prop := ∃ ws : Array Value, Blk W l ws 150 ∧ ws.size = 64 ∧ ∀ x ∈ pre, ws[x.1]? = some (.int .u64 0)
theorem zeroW_own (l B : Nat) : OwnFrom B (fun pre W => ZeroW l pre W) := Own.from (fun pre A C row hs hg hr => by
  obtain ⟨ws, h1, h2, h3⟩ := hs
  exact ⟨ws, h1.kept hg hr, h2, h3⟩) B
theorem zeroW_round {l : Nat} {pre : List (Fin 64)} {W : World} (x : Fin 64) (h : ZeroW l pre W) : ZeroW l (pre ++ [x]) (W.setCell ⟨l, x.1, none⟩ (.int .u64 0)) := by
  obtain ⟨ws, h1, h2, h3⟩ := h
  refine ⟨_, h1.setAt x.1 _, by simp [h2], fun y hy => ?_⟩
  have hx := x.2
  by_cases e : y.1 = x.1
  · rw [e]; simp [h2, hx]
  · rcases List.mem_append.1 hy with h | h
    · rw [Array.getElem?_setIfInBounds_ne (fun e' => e e'.symm)]; exact h3 y h
    · rw [List.mem_singleton.1 h] at e; exact absurd rfl e
theorem zeroW_cell {l : Nat} {pre : List (Fin 64)} {W : World} (x : Fin 64) (h : ZeroW l pre W) : ∃ y, W.cell? ⟨l, x.1, none⟩ = some y ∧ W.frozen? ⟨l, x.1, none⟩ = false := by
  obtain ⟨ws, h1, h2, _⟩ := h
  have hx := x.2
  exact ⟨_, (h1.cell x.1).trans (Array.getElem?_eq_getElem (by omega)), h1.free x.1⟩
theorem zeroW_words {l : Nat} {W : World} (h : ZeroW l (wks 0 64) W) : ∃ ws, Blk W l ws 150 ∧ WordsOf ws (fun _ => false) := by
  obtain ⟨ws, h1, h2, h3⟩ := h
  refine ⟨ws, h1, h2, fun k hk => ⟨0, by decide, ?_, fun j _ => by simp⟩⟩
  have h := h3 (wk k) (wks_has (by omega) (by omega))
  rw [wk_val (by omega)] at h
  exact h

/-- What Reset leaves. -/
def ResetPost (b : Nat) (lo : Option Nat) (n : Nat) (w : World) (e : Ending) (w' : World) : Prop :=
  e = .returned (.tuple #[]) ∧ SetAt w' b lo n (fun _ => false) ∧ Turn (fun k => k = b ∨ lo = some k) w w'

theorem reset_round {l : Nat} {pre : List (Fin 64)} {w1 W : World} (x : Fin 64) (hZ : ZeroW l pre W) (hT : Turn (fun k => k = l) w1 W) :
    KeepsOthers W (W.setCell ⟨l, x.1, none⟩ (.int .u64 0)) ∧ KeepsWalks W (W.setCell ⟨l, x.1, none⟩ (.int .u64 0)) ∧ ZeroW l (pre ++ [x]) (W.setCell ⟨l, x.1, none⟩ (.int .u64 0)) ∧ Turn (fun k => k = l) w1 (W.setCell ⟨l, x.1, none⟩ (.int .u64 0)) :=
  ⟨KeepsOthers.setCell _ _ _, (KeepsOthers.setCell _ _ _).walks, zeroW_round x hZ, hT.set _ _ (.inr rfl)⟩

end Go.Proofs.YtidpmplkbgllfaaGreatDoor
