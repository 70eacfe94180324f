/- Has, Drop, and numbers that there are not, at this seat's numbers. -/
import Derived.Test.YtoemfehlnnbjdaaDoorBitsE
namespace Go.Proofs.YtoemfehlnnbjdaaDoor
open Go.RowKit Go.MuLone Go.RwLone

theorem SetIn.n0 {w : World} {b : Nat} {lo : Option Nat} {n : Nat} {lw rc : Int} {S : Nat → Bool} (h : SetIn w b lo n lw rc S) : w.cell? ⟨b, 0, none⟩ = some (.int .i64 n) := by
  obtain ⟨d, l, hB⟩ := h.blk
  exact hB.cell 0

theorem put_no (b : Nat) (lo : Option Nat) (n : Nat) (S : Nat → Bool) (i : Int) (w : World) (hi : i < 0 ∨ (n : Int) ≤ i) (hA : SetAt w b lo n S) :
    Calls Tryd.prog 44 #[.pointer (some ⟨b, 0, none⟩), .int .i64 i] w fun e w' => e = .returned (.bool false) ∧ w = w' := by
  go_enter Tryd.func44, Tryd.ntmps44
  go_wp2_with fail
  refine (knows_no b n i _ hA.2.2.n0 hi).mono ?_
  rintro e w' ⟨rfl, rfl⟩
  go_wp2_with fail
  go_ret
  exact ⟨rfl, rfl⟩

theorem has_no (b : Nat) (lo : Option Nat) (n : Nat) (S : Nat → Bool) (i : Int) (w : World) (hi : i < 0 ∨ (n : Int) ≤ i) (hA : SetAt w b lo n S) :
    Calls Tryd.prog 53 #[.pointer (some ⟨b, 0, none⟩), .int .i64 i] w fun e w' => e = .returned (.bool false) ∧ w = w' := by
  go_enter Tryd.func53, Tryd.ntmps53
  go_wp2_with fail
  refine (knows_no b n i _ hA.2.2.n0 hi).mono ?_
  rintro e w' ⟨rfl, rfl⟩
  go_wp2_with fail
  go_ret
  exact ⟨rfl, rfl⟩

theorem drop_no (b : Nat) (lo : Option Nat) (n : Nat) (S : Nat → Bool) (i : Int) (w : World) (hi : i < 0 ∨ (n : Int) ≤ i) (hA : SetAt w b lo n S) :
    Calls Tryd.prog 52 #[.pointer (some ⟨b, 0, none⟩), .int .i64 i] w fun e w' => e = .returned (.bool false) ∧ w = w' := by
  go_enter Tryd.func52, Tryd.ntmps52
  go_wp2_with fail
  refine (knows_no b n i _ hA.2.2.n0 hi).mono ?_
  rintro e w' ⟨rfl, rfl⟩
  go_wp2_with fail
  go_ret
  exact ⟨rfl, rfl⟩

set_option maxRecDepth 100000 in
set_option maxHeartbeats 1600000 in
/-- Has, where nothing is laid. -/
theorem has_nil (b : Nat) (n : Nat) (S : Nat → Bool) (i : Nat) (w : World) (hi : i < n) (hA : SetAt w b none n S) :
    Calls Tryd.prog 53 #[.pointer (some ⟨b, 0, none⟩), .int .i64 i] w (TurnPost b none n false S w) := by
  obtain ⟨hn, hSn, hB, hS0⟩ := hA
  have c2 : w.cell? ⟨b, 2, none⟩ = some (.int .i32 0) := hB.cell 2
  have c5 : w.cell? ⟨b, 5, none⟩ = some (.int .u32 0) := hB.cell 5
  have c6 : w.cell? ⟨b, 6, none⟩ = some (.int .i32 0) := hB.cell 6
  have z6 : w.frozen? ⟨b, 6, none⟩ = false := hB.free 6
  have hB1 := hB.setAt 6 (.int .i32 1)
  have hT1 : Turn (fun k => k = b ∨ (none : Option Nat) = some k) w (w.setCell ⟨b, 6, none⟩ (.int .i32 1)) := (Turn.refl _ w).set _ _ (.inr (.inl rfl))
  go_enter_defers Tryd.func53, Tryd.ntmps53
  go_wp2_with fail
  refine (knows_yes b n i _ (hB.cell 0) (by omega) (by omega)).mono ?_
  rintro e w' ⟨rfl, rfl⟩
  go_wp2_with fail
  refine (rlock_open Tryd.rwRLib b 2 0 _ _ _ c2 c5 c6 z6 (by rw [wrap32_up]; decide)).mono ?_
  rintro e w' ⟨rfl, rfl⟩
  rw [wrap32_up]
  generalize w.setCell ⟨b, 2 + 4, none⟩ (.int .i32 1) = w1 at *
  have k1 : w1.cell? ⟨b, 1, none⟩ = some (.int .i64 0) := hB1.cell 1
  clear c2 c5 c6 z6 hB
  go_wp2_with fail
  go_region_held3 (fun w' => w'.cell? ⟨b, 1, none⟩ = some (.int .i64 0)) (first | go_keep)
    (first
      | (go_at_call 87; refine (find_nil b n 0 1 i _ ?_).mono ?_; exact hB1; rintro e w2 ⟨rfl, rfl⟩))
  replace hB1 := hB1.drew
  replace hT1 := hT1.drew
  generalize w1.drew = w1 at *
  go_wp2_with fail
  refine leaves_cons (f := 66) (args := #[.pointer (some ⟨b, 2, none⟩)]) (by simp) (by simp [go_sem]) ?_
  refine (runlock_deferred Tryd.rwRLib b 2 1 _ _ .returning _ (hB1.cell 2) (hB1.cell 4) (hB1.cell 6) (hB1.free 6) (by rw [wrap32_down]; decide)).mono ?_
  rintro e u' w'' ⟨rfl, rfl, rfl⟩
  rw [wrap32_down]
  refine ⟨_, results_tmp rfl _ _ _, ?_⟩
  exact ⟨none, rfl, ⟨hn, hSn, hB1.setAt 6 _, hS0⟩, .inl rfl, hT1.set _ _ (.inr (.inl rfl))⟩

theorem and_bit_ne (x i : Nat) (hx : x < 18446744073709551616) : (bits .and .u64 (x : Int) ((bitN i : Nat) : Int) != 0) = x.testBit (i % 64) := by
  rw [bne, and_bit_eq x i hx, Bool.not_not]

set_option maxRecDepth 100000 in
set_option maxHeartbeats 1600000 in
/-- Has, where the leaf is laid. -/
theorem has_some (b l : Nat) (n : Nat) (S : Nat → Bool) (i : Nat) (w : World) (hi : i < n) (hA : SetAt w b (some l) n S) :
    Calls Tryd.prog 53 #[.pointer (some ⟨b, 0, none⟩), .int .i64 i] w (TurnPost b (some l) n (S i) S w) := by
  obtain ⟨hn, hSn, hB, hne, ws, hL, hw⟩ := hA
  have c2 : w.cell? ⟨b, 2, none⟩ = some (.int .i32 0) := hB.cell 2
  have c5 : w.cell? ⟨b, 5, none⟩ = some (.int .u32 0) := hB.cell 5
  have c6 : w.cell? ⟨b, 6, none⟩ = some (.int .i32 0) := hB.cell 6
  have z6 : w.frozen? ⟨b, 6, none⟩ = false := hB.free 6
  have hB1 := hB.setAt 6 (.int .i32 1)
  have hL1 := hL.setOther ⟨b, 6, none⟩ (.int .i32 1) hne
  have hT1 : Turn (fun k => k = b ∨ (some l : Option Nat) = some k) w (w.setCell ⟨b, 6, none⟩ (.int .i32 1)) := (Turn.refl _ w).set _ _ (.inr (.inl rfl))
  obtain ⟨x, hx, hwx, hbx⟩ := hw.2 (i / 64) (by omega)
  have hx1 : (bits .and .u64 (x : Int) ((bitN (i : Int) : Nat) : Int) != 0) = S i := by
    rw [and_bit_ne x i hx, hbx (i % 64) (by omega), show 64 * (i / 64) + i % 64 = i by omega]
  have ei : ((i : Int) / 64).toNat = i / 64 := by omega
  go_enter_defers Tryd.func53, Tryd.ntmps53
  go_wp2_with fail
  refine (knows_yes b n i _ (hB.cell 0) (by omega) (by omega)).mono ?_
  rintro e w' ⟨rfl, rfl⟩
  go_wp2_with fail
  refine (rlock_open Tryd.rwRLib b 2 0 _ _ _ c2 c5 c6 z6 (by rw [wrap32_up]; decide)).mono ?_
  rintro e w' ⟨rfl, rfl⟩
  rw [wrap32_up]
  generalize w.setCell ⟨b, 2 + 4, none⟩ (.int .i32 1) = w1 at *
  have k1 : w1.cell? ⟨b, 1, none⟩ = some (.int .i64 0) := hB1.cell 1
  clear c2 c5 c6 z6 hB hL
  go_wp2_with fail
  go_region_held3 (fun w' => w'.cell? ⟨b, 1, none⟩ = some (.int .i64 0)) (first | go_keep | exact hk2)
    (first
      | (go_at_call 87; refine (find_some b l n 0 1 ws hw.1 i (by omega) (by omega) _ ?_ ?_).mono ?_; exact hB1; exact hL1; rintro e w2 ⟨rfl, hT2⟩; rw [ei]; have hB2 := hB1.drew.turn (M := fun _ => False) hT2 (fun h => h); have hL2 := hL1.drew.turn (M := fun _ => False) hT2 (fun h => h); have hk2 : w2.cell? ⟨b, 1, none⟩ = some (.int .i64 0) := hB2.cell 1))
  have kx : w2.cell? ⟨l, i / 64, none⟩ = some (.int .u64 x) := (hL2.cell _).trans hwx
  go_wp2_with fail
  refine (uload_any _ x _ kx).mono ?_
  rintro e w' ⟨rfl, rfl⟩
  go_wp2_with fail
  refine (bitOf_any i _ (by omega)).mono ?_
  rintro e w' ⟨rfl, rfl⟩
  go_wp2_with fail
  refine leaves_cons (f := 66) (args := #[.pointer (some ⟨b, 2, none⟩)]) (by simp) (by simp [go_sem]) ?_
  refine (runlock_deferred Tryd.rwRLib b 2 1 _ _ .returning _ (hB2.cell 2) (hB2.cell 4) (hB2.cell 6) (hB2.free 6) (by rw [wrap32_down]; decide)).mono ?_
  rintro e u' w'' ⟨rfl, rfl, rfl⟩
  rw [wrap32_down]
  refine ⟨_, results_tmp rfl _ _ _, ?_⟩
  exact ⟨some l, rfl, ⟨hn, hSn, hB2.setAt 6 _, hne, ws, hL2.setOther _ _ hne, hw⟩, .inl rfl, (hT1.drew.trans hT2 (fun _ _ h => h.elim)).set _ _ (.inr (.inl rfl))⟩

/-- Has, of a number that there is. -/
theorem has_yes (b : Nat) (lo : Option Nat) (n : Nat) (S : Nat → Bool) (i : Nat) (w : World) (hi : i < n) (hA : SetAt w b lo n S) :
    Calls Tryd.prog 53 #[.pointer (some ⟨b, 0, none⟩), .int .i64 i] w (TurnPost b lo n (S i) S w) := by
  cases lo with
  | none => rw [hA.2.2.2 i]; exact has_nil b n S i w hi hA
  | some l => exact has_some b l n S i w hi hA

set_option maxRecDepth 100000 in
set_option maxHeartbeats 1600000 in
/-- Drop, where nothing is laid. -/
theorem drop_nil (b : Nat) (n : Nat) (S : Nat → Bool) (i : Nat) (w : World) (hi : i < n) (hA : SetAt w b none n S) :
    Calls Tryd.prog 52 #[.pointer (some ⟨b, 0, none⟩), .int .i64 i] w (TurnPost b none n false S w) := by
  obtain ⟨hn, hSn, hB, hS0⟩ := hA
  have c2 : w.cell? ⟨b, 2, none⟩ = some (.int .i32 0) := hB.cell 2
  have c5 : w.cell? ⟨b, 5, none⟩ = some (.int .u32 0) := hB.cell 5
  have c6 : w.cell? ⟨b, 6, none⟩ = some (.int .i32 0) := hB.cell 6
  have z6 : w.frozen? ⟨b, 6, none⟩ = false := hB.free 6
  have hB1 := hB.setAt 6 (.int .i32 1)
  have hT1 : Turn (fun k => k = b ∨ (none : Option Nat) = some k) w (w.setCell ⟨b, 6, none⟩ (.int .i32 1)) := (Turn.refl _ w).set _ _ (.inr (.inl rfl))
  go_enter_defers Tryd.func52, Tryd.ntmps52
  go_wp2_with fail
  refine (knows_yes b n i _ (hB.cell 0) (by omega) (by omega)).mono ?_
  rintro e w' ⟨rfl, rfl⟩
  go_wp2_with fail
  refine (rlock_open Tryd.rwRLib b 2 0 _ _ _ c2 c5 c6 z6 (by rw [wrap32_up]; decide)).mono ?_
  rintro e w' ⟨rfl, rfl⟩
  rw [wrap32_up]
  generalize w.setCell ⟨b, 2 + 4, none⟩ (.int .i32 1) = w1 at *
  have k1 : w1.cell? ⟨b, 1, none⟩ = some (.int .i64 0) := hB1.cell 1
  clear c2 c5 c6 z6 hB
  go_wp2_with fail
  go_region_held3 (fun w' => w'.cell? ⟨b, 1, none⟩ = some (.int .i64 0)) (first | go_keep)
    (first
      | (go_at_call 87; refine (find_nil b n 0 1 i _ ?_).mono ?_; exact hB1; rintro e w2 ⟨rfl, rfl⟩)
      | (go_at_call 67; refine (bitOf_any i _ (by omega)).mono ?_; rintro e w2 ⟨rfl, rfl⟩))
  replace hB1 := hB1.drew
  replace hT1 := hT1.drew
  generalize w1.drew = w1 at *
  go_wp2_with fail
  refine leaves_cons (f := 66) (args := #[.pointer (some ⟨b, 2, none⟩)]) (by simp) (by simp [go_sem]) ?_
  refine (runlock_deferred Tryd.rwRLib b 2 1 _ _ .returning _ (hB1.cell 2) (hB1.cell 4) (hB1.cell 6) (hB1.free 6) (by rw [wrap32_down]; decide)).mono ?_
  rintro e u' w'' ⟨rfl, rfl, rfl⟩
  rw [wrap32_down]
  refine ⟨_, results_tmp rfl _ _ _, ?_⟩
  exact ⟨none, rfl, ⟨hn, hSn, hB1.setAt 6 _, hS0⟩, .inl rfl, hT1.set _ _ (.inr (.inl rfl))⟩

set_option maxRecDepth 100000 in
set_option maxHeartbeats 1600000 in
/-- Drop, where the leaf is laid. -/
theorem drop_some (b l : Nat) (n : Nat) (S : Nat → Bool) (i : Nat) (w : World) (hi : i < n) (hA : SetAt w b (some l) n S) :
    Calls Tryd.prog 52 #[.pointer (some ⟨b, 0, none⟩), .int .i64 i] w (TurnPost b (some l) n (S i) (fun j => S j && !decide (j = i)) w) := by
  obtain ⟨hn, hSn, hB, hne, ws, hL, hw⟩ := hA
  have c2 : w.cell? ⟨b, 2, none⟩ = some (.int .i32 0) := hB.cell 2
  have c5 : w.cell? ⟨b, 5, none⟩ = some (.int .u32 0) := hB.cell 5
  have c6 : w.cell? ⟨b, 6, none⟩ = some (.int .i32 0) := hB.cell 6
  have z6 : w.frozen? ⟨b, 6, none⟩ = false := hB.free 6
  have hB1 := hB.setAt 6 (.int .i32 1)
  have hL1 := hL.setOther ⟨b, 6, none⟩ (.int .i32 1) hne
  have hT1 : Turn (fun k => k = b ∨ (some l : Option Nat) = some k) w (w.setCell ⟨b, 6, none⟩ (.int .i32 1)) := (Turn.refl _ w).set _ _ (.inr (.inl rfl))
  obtain ⟨x, hx, hwx, hbx⟩ := hw.2 (i / 64) (by omega)
  have hx1 : (bits .and .u64 (x : Int) ((bitN (i : Int) : Nat) : Int) != 0) = S i := by
    rw [and_bit_ne x i hx, hbx (i % 64) (by omega), show 64 * (i / 64) + i % 64 = i by omega]
  have ei : ((i : Int) / 64).toNat = i / 64 := by omega
  go_enter_defers Tryd.func52, Tryd.ntmps52
  go_wp2_with fail
  refine (knows_yes b n i _ (hB.cell 0) (by omega) (by omega)).mono ?_
  rintro e w' ⟨rfl, rfl⟩
  go_wp2_with fail
  refine (rlock_open Tryd.rwRLib b 2 0 _ _ _ c2 c5 c6 z6 (by rw [wrap32_up]; decide)).mono ?_
  rintro e w' ⟨rfl, rfl⟩
  rw [wrap32_up]
  generalize w.setCell ⟨b, 2 + 4, none⟩ (.int .i32 1) = w1 at *
  have k1 : w1.cell? ⟨b, 1, none⟩ = some (.int .i64 0) := hB1.cell 1
  clear c2 c5 c6 z6 hB hL
  go_wp2_with fail
  go_region_held3 (fun w' => w'.cell? ⟨b, 1, none⟩ = some (.int .i64 0)) (first | go_keep | exact hk2)
    (first
      | (go_at_call 87; refine (find_some b l n 0 1 ws hw.1 i (by omega) (by omega) _ ?_ ?_).mono ?_; exact hB1; exact hL1; rintro e w2 ⟨rfl, hT2⟩; rw [ei]; have hB2 := hB1.drew.turn (M := fun _ => False) hT2 (fun h => h); have hL2 := hL1.drew.turn (M := fun _ => False) hT2 (fun h => h); have hk2 : w2.cell? ⟨b, 1, none⟩ = some (.int .i64 0) := hB2.cell 1)
      | (go_at_call 67; refine (bitOf_any i _ (by omega)).mono ?_; rintro e w2 ⟨rfl, rfl⟩))
  go_wp2_with fail
  rw [xor_not]
  refine (uand_any ⟨l, i / 64, none⟩ x (notN i) _ hx (notN_lt _) ((hL2.cell _).trans hwx) (hL2.free _)).mono ?_
  rintro e w' ⟨rfl, rfl⟩
  have hw' := hw.drop i x hwx
  have hB3 := hB2.setOther ⟨l, i / 64, none⟩ (.int .u64 ((x &&& notN (i : Int) : Nat) : Int)) (fun h => hne h.symm)
  have hL3 := hL2.setAt (i / 64) (.int .u64 ((x &&& notN (i : Int) : Nat) : Int))
  have hT3 : Turn (fun k => k = b ∨ (some l : Option Nat) = some k) w (w2.setCell ⟨l, i / 64, none⟩ (.int .u64 ((x &&& notN (i : Int) : Nat) : Int))) :=
    (hT1.drew.trans hT2 (fun _ _ h => h.elim)).set _ _ (.inr (.inr rfl))
  generalize w2.setCell ⟨l, i / 64, none⟩ (.int .u64 ((x &&& notN (i : Int) : Nat) : Int)) = w3 at *
  go_wp2_with fail
  refine leaves_cons (f := 66) (args := #[.pointer (some ⟨b, 2, none⟩)]) (by simp) (by simp [go_sem]) ?_
  refine (runlock_deferred Tryd.rwRLib b 2 1 _ _ .returning _ (hB3.cell 2) (hB3.cell 4) (hB3.cell 6) (hB3.free 6) (by rw [wrap32_down]; decide)).mono ?_
  rintro e u' w'' ⟨rfl, rfl, rfl⟩
  rw [wrap32_down]
  refine ⟨_, results_tmp rfl _ _ _, ?_⟩
  refine ⟨some l, rfl, ⟨hn, fun j hj => ?_, hB3.setAt 6 _, hne, _, hL3.setOther _ _ hne, hw'⟩, .inl rfl, hT3.set _ _ (.inr (.inl rfl))⟩
  simp at hj
  exact hSn j hj.1

/-- Drop, of a number that there is. -/
theorem drop_yes (b : Nat) (lo : Option Nat) (n : Nat) (S : Nat → Bool) (i : Nat) (w : World) (hi : i < n) (hA : SetAt w b lo n S) :
    Calls Tryd.prog 52 #[.pointer (some ⟨b, 0, none⟩), .int .i64 i] w (TurnPost b lo n (S i) (fun j => S j && !decide (j = i)) w) := by
  cases lo with
  | none =>
    have e : (fun j => S j && !decide (j = i)) = S := by funext j; rw [hA.2.2.2 j]; rfl
    rw [hA.2.2.2 i, e]; exact drop_nil b n S i w hi hA
  | some l => exact drop_some b l n S i w hi hA

end Go.Proofs.YtoemfehlnnbjdaaDoor
