/- A set in memory; Put, Has, Drop, at this seat's numbers. -/
import Derived.Test.YtoemfehlnnbjdaaDoorBitsD
import Derived.Conc.RwLoneW
import Derived.Deep.RegionHeld3
namespace Go.Proofs.YtoemfehlnnbjdaaDoor
open Go.RowKit Go.MuLone Go.RwLone

/-- The words of a set. -/
def WordsOf (ws : Array Value) (S : Nat → Bool) : Prop :=
  ws.size = 64 ∧ ∀ k, k < 64 → ∃ x : Nat, x < 18446744073709551616 ∧ ws[k]? = some (.int .u64 x) ∧ ∀ j, j < 64 → x.testBit j = S (64 * k + j)

/-- A set of numbers below n in block b; its leaf, if it is laid, in another block; its lock's two words. -/
def SetIn (w : World) (b : Nat) (lo : Option Nat) (n : Nat) (lw rc : Int) (S : Nat → Bool) : Prop :=
  match lo with
  | none => Blk w b (setArr n lw rc 0 0 none) 113 ∧ ∀ i, S i = false
  | some l => Blk w b (setArr n lw rc 1 0 (some ⟨l, 0, none⟩)) 113 ∧ l ≠ b ∧ ∃ ws, Blk w l ws 156 ∧ WordsOf ws S

theorem SetIn.blk {w : World} {b : Nat} {lo : Option Nat} {n : Nat} {lw rc : Int} {S : Nat → Bool} (h : SetIn w b lo n lw rc S) :
    ∃ d l, Blk w b (setArr n lw rc d 0 l) 113 := by
  cases lo with
  | none => exact ⟨_, _, h.1⟩
  | some l => exact ⟨_, _, h.1⟩

theorem zeros_words {S : Nat → Bool} (h : ∀ i, S i = false) : WordsOf zeros64 S :=
  ⟨by simp [zeros64], fun k hk => ⟨0, by decide, by simp [zeros64, hk], fun j _ => by simp [h]⟩⟩

/-- A word in which a number was put. -/
theorem WordsOf.put {ws : Array Value} {S : Nat → Bool} (h : WordsOf ws S) (i : Nat) (x : Nat) (hx : ws[i / 64]? = some (.int .u64 x)) :
    WordsOf (ws.setIfInBounds (i / 64) (.int .u64 ((x ||| bitN (i : Int) : Nat) : Int))) (fun j => S j || decide (j = i)) := by
  refine ⟨by simp [h.1], fun k hk => ?_⟩
  obtain ⟨y, hy, hw, hb⟩ := h.2 k hk
  by_cases e : k = i / 64
  · subst e
    rw [hx] at hw
    have exy : x = y := by have := (by simpa using hw : (x : Int) = (y : Int)); omega
    subst exy
    refine ⟨x ||| bitN (i : Int), or_bit_lt x i hy, ?_, fun j hj => ?_⟩
    · rw [Array.getElem?_setIfInBounds_self]
      simp [h.1]; omega
    · rw [or_bit_test, hb j hj]
      congr 1
      rw [Bool.eq_iff_iff]; simp; omega
  · refine ⟨y, hy, ?_, fun j hj => ?_⟩
    · rw [Array.getElem?_setIfInBounds_ne (by omega)]; exact hw
    · have e1 : decide (64 * k + j = i) = false := by simp; omega
      show y.testBit j = (S (64 * k + j) || decide (64 * k + j = i))
      rw [hb j hj, e1, Bool.or_false]

/-- A word out of which a number was dropped. -/
theorem WordsOf.drop {ws : Array Value} {S : Nat → Bool} (h : WordsOf ws S) (i : Nat) (x : Nat) (hx : ws[i / 64]? = some (.int .u64 x)) :
    WordsOf (ws.setIfInBounds (i / 64) (.int .u64 ((x &&& notN (i : Int) : Nat) : Int))) (fun j => S j && !decide (j = i)) := by
  refine ⟨by simp [h.1], fun k hk => ?_⟩
  obtain ⟨y, hy, hw, hb⟩ := h.2 k hk
  by_cases e : k = i / 64
  · subst e
    rw [hx] at hw
    have exy : x = y := by have := (by simpa using hw : (x : Int) = (y : Int)); omega
    subst exy
    refine ⟨x &&& notN (i : Int), Nat.lt_of_le_of_lt Nat.and_le_left hy, ?_, fun j hj => ?_⟩
    · rw [Array.getElem?_setIfInBounds_self]
      simp [h.1]; omega
    · rw [Nat.testBit_and, notN_test, hb j hj]
      have e1 : decide (j < 64) = true := by simpa using hj
      rw [e1, Bool.true_and]
      congr 2
      rw [Bool.eq_iff_iff]; simp; omega
  · refine ⟨y, hy, ?_, fun j hj => ?_⟩
    · rw [Array.getElem?_setIfInBounds_ne (by omega)]; exact hw
    · have e1 : decide (64 * k + j = i) = false := by simp; omega
      show y.testBit j = (S (64 * k + j) && !decide (64 * k + j = i))
      rw [hb j hj, e1, Bool.not_false, Bool.and_true]

/-- What lay leaves. -/
def LayPost (b : Nat) (lo : Option Nat) (n : Nat) (lw rc : Int) (S : Nat → Bool) (i : Nat) (w : World) (e : Ending) (w' : World) : Prop :=
  ∃ l, e = .returned (.pointer (some ⟨l, i / 64, none⟩)) ∧ SetIn w' b (some l) n lw rc S ∧ (lo = some l ∨ lo = none ∧ w.heap.size ≤ l) ∧ Turn (fun k => k = b) w w'

theorem lay_any (b : Nat) (lo : Option Nat) (n : Nat) (lw rc : Int) (S : Nat → Bool) (i : Nat) (hi1 : i < 4096) (w : World) (hS : SetIn w b lo n lw rc S) :
    Calls Tryd.prog 68 #[.pointer (some ⟨b, 8, none⟩), .int .i64 0, .int .i64 i] w (LayPost b lo n lw rc S i w) := by
  have ei : ((i : Int) / 64).toNat = i / 64 := by omega
  cases lo with
  | none =>
    refine (lay_first b n lw rc i (by omega) (by omega) w hS.1).mono ?_
    rintro e w' ⟨l, hl, rfl, hB, hL, hT⟩
    exact ⟨l, by rw [ei], ⟨hB, by have := hS.1.lt; omega, zeros64, hL, zeros_words hS.2⟩, .inr ⟨rfl, hl⟩, hT⟩
  | some l =>
    obtain ⟨hB, hne, ws, hL, hw⟩ := hS
    refine (lay_again b l n lw rc ws hw.1 i (by omega) (by omega) w hB hL).mono ?_
    rintro e w' ⟨rfl, hT⟩
    exact ⟨l, by rw [ei], ⟨hB.turn hT (fun h => h), hne, ws, hL.turn hT (fun h => h), hw⟩, .inl rfl, hT.mono (fun _ _ h => h.elim)⟩

theorem wrap32_up : wrap32 (0 + 1) = 1 := by simp [wrap32]
theorem wrap32_down : wrap32 (1 + -1) = 0 := by simp [wrap32]

/-- A set of numbers below n, its lock free. -/
def SetAt (w : World) (b : Nat) (lo : Option Nat) (n : Nat) (S : Nat → Bool) : Prop :=
  n ≤ 4096 ∧ (∀ i, S i = true → i < n) ∧ SetIn w b lo n 0 0 S

theorem SetIn.turn {M : Nat → Prop} {w w' : World} {b : Nat} {lo : Option Nat} {n : Nat} {lw rc : Int} {S : Nat → Bool} (h : SetIn w b lo n lw rc S) (ht : Turn M w w') (hb : ¬ M b) (hl : ∀ l, lo = some l → ¬ M l) : SetIn w' b lo n lw rc S := by
  cases lo with
  | none => exact ⟨h.1.turn ht hb, h.2⟩
  | some l =>
    obtain ⟨h1, h2, ws, h3, h4⟩ := h
    exact ⟨h1.turn ht hb, h2, ws, h3.turn ht (hl l rfl), h4⟩
theorem SetAt.turn {M : Nat → Prop} {w w' : World} {b : Nat} {lo : Option Nat} {n : Nat} {S : Nat → Bool} (h : SetAt w b lo n S) (ht : Turn M w w') (hb : ¬ M b) (hl : ∀ l, lo = some l → ¬ M l) : SetAt w' b lo n S :=
  ⟨h.1, h.2.1, h.2.2.turn ht hb hl⟩

/-- The readers' count of a set's lock is written. -/
theorem SetIn.rc {w : World} {b : Nat} {lo : Option Nat} {n : Nat} {lw rc : Int} {S : Nat → Bool} (h : SetIn w b lo n lw rc S) (rc' : Int) : SetIn (w.setCell ⟨b, 6, none⟩ (.int .i32 rc')) b lo n lw rc' S := by
  cases lo with
  | none => exact ⟨h.1.setAt 6 _, h.2⟩
  | some l =>
    obtain ⟨h1, h2, ws, h3, h4⟩ := h
    exact ⟨h1.setAt 6 _, h2, ws, h3.setOther _ _ h2, h4⟩

/-- What a change of one number leaves: r, and the set S'. -/
def TurnPost (b : Nat) (lo : Option Nat) (n : Nat) (r : Bool) (S' : Nat → Bool) (w : World) (e : Ending) (w' : World) : Prop :=
  ∃ lo', e = .returned (.bool r) ∧ SetAt w' b lo' n S' ∧ (lo' = lo ∨ lo = none ∧ ∃ l, lo' = some l ∧ w.heap.size ≤ l) ∧ Turn (fun k => k = b ∨ lo = some k) w w'

set_option maxRecDepth 100000 in
set_option maxHeartbeats 1600000 in
theorem put_yes (b : Nat) (lo : Option Nat) (n : Nat) (S : Nat → Bool) (i : Nat) (w : World) (hi : i < n) (hA : SetAt w b lo n S) :
    Calls Tryd.prog 44 #[.pointer (some ⟨b, 0, none⟩), .int .i64 i] w
      (TurnPost b lo n (!S i) (fun j => S j || decide (j = i)) w) := by
  obtain ⟨hn, hSn, hS⟩ := hA
  obtain ⟨d, l0, hB⟩ := hS.blk
  have c2 : w.cell? ⟨b, 2, none⟩ = some (.int .i32 0) := hB.cell 2
  have c5 : w.cell? ⟨b, 5, none⟩ = some (.int .u32 0) := hB.cell 5
  have c6 : w.cell? ⟨b, 6, none⟩ = some (.int .i32 0) := hB.cell 6
  have z6 : w.frozen? ⟨b, 6, none⟩ = false := hB.free 6
  have hS1 := hS.rc 1
  have hT1 : Turn (fun k => k = b) w (w.setCell ⟨b, 6, none⟩ (.int .i32 1)) := (Turn.refl (fun k => k = b) w).set _ _ (.inr rfl)
  go_enter_defers Tryd.func44, Tryd.ntmps44
  go_wp2_with fail
  refine (knows_yes b n i _ (hB.cell 0) (by omega) (by omega)).mono ?_
  rintro e w' ⟨rfl, rfl⟩
  go_wp2_with fail
  refine (rlock_open Tryd.rwRLib b 2 0 _ _ _ c2 c5 c6 z6 (by rw [wrap32_up]; decide)).mono ?_
  rintro e w' ⟨rfl, rfl⟩
  rw [wrap32_up]
  generalize w.setCell ⟨b, 2 + 4, none⟩ (.int .i32 1) = w1 at *
  go_wp2_with fail
  refine (bitOf_any i _ (by omega)).mono ?_
  rintro e w' ⟨rfl, rfl⟩
  obtain ⟨d1, l1, hB1⟩ := hS1.blk
  have k1 : w1.cell? ⟨b, 1, none⟩ = some (.int .i64 0) := hB1.cell 1
  clear c2 c5 c6 z6 hB hS
  go_wp2_with fail
  go_region_held3 (fun w' => w'.cell? ⟨b, 1, none⟩ = some (.int .i64 0)) (first | go_keep | exact hk2)
    (first
      | (go_at_call 68; refine (lay_any b lo n 0 1 S i (by omega) _ ?_).mono ?_; exact hS1; rintro e w2 ⟨l, rfl, ⟨hB2, hne, ws, hL2, hw⟩, hlo, hT2⟩; have hk2 : w2.cell? ⟨b, 1, none⟩ = some (.int .i64 0) := hB2.cell 1)
      | (go_at_call 69; obtain ⟨x, hx, hwx, hbx⟩ := hw.2 (i / 64) (by omega); refine (uor_any ⟨l, i / 64, none⟩ x (bitN i) _ hx (bitN_lt _) ?_ ?_).mono ?_; exact (hL2.cell _).trans hwx; exact hL2.free _; rintro e w3 ⟨rfl, rfl⟩; have hk3 := hk2))
  go_wp2_with fail
  have hx1 : (bits .and .u64 (x : Int) ((bitN (i : Int) : Nat) : Int) == 0) = !S i := by
    rw [and_bit_eq x i hx, hbx (i % 64) (by omega), show 64 * (i / 64) + i % 64 = i by omega]
  have hw' := hw.put i x hwx
  have hB3 := hB2.setOther ⟨l, i / 64, none⟩ (.int .u64 ((x ||| bitN (i : Int) : Nat) : Int)) (fun h => hne h.symm)
  have hL3 := hL2.setAt (i / 64) (.int .u64 ((x ||| bitN (i : Int) : Nat) : Int))
  have hT3 : Turn (fun k => k = b ∨ lo = some k) w (w2.setCell ⟨l, i / 64, none⟩ (.int .u64 ((x ||| bitN (i : Int) : Nat) : Int))) := by
    refine Turn.set ?_ _ _ ?_
    · exact (hT1.drew.trans hT2 (fun _ _ h => h)).mono (fun _ _ h => .inl h)
    · rcases hlo with h | ⟨_, h⟩
      · exact .inr (.inr h)
      · left; have := hT1.size; simp at h; simp; omega
  have hlo' : some l = lo ∨ lo = none ∧ ∃ l', some l = some l' ∧ w.heap.size ≤ l' := by
    rcases hlo with h | ⟨h0, h⟩
    · exact .inl h.symm
    · exact .inr ⟨h0, l, rfl, by have := hT1.size; simp at h; omega⟩
  generalize w2.setCell ⟨l, i / 64, none⟩ (.int .u64 ((x ||| bitN (i : Int) : Nat) : Int)) = w3 at *
  -- THE DOOR
  refine leaves_cons (f := 66) (args := #[.pointer (some ⟨b, 2, none⟩)]) (by simp) (by simp [go_sem]) ?_
  refine (runlock_deferred Tryd.rwRLib b 2 1 _ _ .returning _ (hB3.cell 2) (hB3.cell 4) (hB3.cell 6) (hB3.free 6) (by rw [wrap32_down]; decide)).mono ?_
  rintro e u' w'' ⟨rfl, rfl, rfl⟩
  rw [wrap32_down]
  refine ⟨_, results_tmp rfl _ _ _, ?_⟩
  refine ⟨some l, by rw [← hx1]; rfl, ⟨hn, ?_, ?_⟩, hlo', hT3.set _ _ (.inr (.inl rfl))⟩
  · intro j hj
    simp at hj
    rcases hj with hj | hj
    · exact hSn j hj
    · omega
  · exact ⟨hB3.setAt 6 _, hne, _, hL3.setOther _ _ hne, hw'⟩
end Go.Proofs.YtoemfehlnnbjdaaDoor
