/- Has leaves all that there was, at this seat's numbers. -/
import Derived.Test.YtoemfehlnnbjdaaDoorSetS
namespace Go.Proofs.YtoemfehlnnbjdaaDoor
open Go.RowKit Go.Shelf Go.MuLone Go.RwLone

/-- What a question leaves: r, and the set as it was. -/
def SamePost (b : Nat) (lo : Option Nat) (n : Nat) (r : Bool) (S : Nat → Bool) (w : World) (e : Ending) (w' : World) : Prop :=
  e = .returned (.bool r) ∧ SetAt w' b lo n S ∧ Turn (fun k => k = b) w w'

set_option maxRecDepth 100000 in
set_option maxHeartbeats 1600000 in
/-- Has, where nothing is laid. -/
theorem has_nilB (b : Nat) (n : Nat) (S : Nat → Bool) (i : Nat) (w : World) (hi : i < n) (hA : SetAt w b none n S) :
    Calls Tryd.prog 53 #[.pointer (some ⟨b, 0, none⟩), .int .i64 i] w (SamePost b none n false S w) := by
  obtain ⟨hn, hSn, hB, hS0⟩ := hA
  have c2 : w.cell? ⟨b, 2, none⟩ = some (.int .i32 0) := hB.cell 2
  have c5 : w.cell? ⟨b, 5, none⟩ = some (.int .u32 0) := hB.cell 5
  have c6 : w.cell? ⟨b, 6, none⟩ = some (.int .i32 0) := hB.cell 6
  have z6 : w.frozen? ⟨b, 6, none⟩ = false := hB.free 6
  have hB1 := hB.setAt 6 (.int .i32 1)
  have hT1 : Turn (fun k => k = b) w (w.setCell ⟨b, 6, none⟩ (.int .i32 1)) := (Turn.refl _ w).set _ _ (.inr rfl)
  go_enter_defers Tryd.func53, Tryd.ntmps53
  go_wp2_with fail
  refine (knows_yes b n i _ (hB.cell 0) (by omega) (by omega)).mono ?_
  rintro e w' ⟨rfl, rfl⟩
  go_wp2_with fail
  refine (rlock_open Tryd.rwRLib b 2 0 _ _ _ c2 c5 c6 z6 (by rw [wrap32_up]; decide)).mono ?_
  rintro e w' ⟨rfl, rfl⟩
  rw [wrap32_up]
  generalize w.setCell ⟨b, 2 + 4, none⟩ (.int .i32 1) = w1 at *
  have k1 : w1.cell? ⟨b, 1, none⟩ = some (.int .i64 0) := hB1.cell 1
  clear c2 c5 c6 z6 hB
  go_wp2_with fail
  go_region_held3 (fun w' => w'.cell? ⟨b, 1, none⟩ = some (.int .i64 0)) (first | go_keep)
    (first
      | (go_at_call 87; refine (find_nil b n 0 1 i _ ?_).mono ?_; exact hB1; rintro e w2 ⟨rfl, rfl⟩))
  replace hB1 := hB1.drew
  replace hT1 := hT1.drew
  generalize w1.drew = w1 at *
  go_wp2_with fail
  refine leaves_cons (f := 66) (args := #[.pointer (some ⟨b, 2, none⟩)]) (by simp) (by simp [go_sem]) ?_
  refine (runlock_deferred Tryd.rwRLib b 2 1 _ _ .returning _ (hB1.cell 2) (hB1.cell 4) (hB1.cell 6) (hB1.free 6) (by rw [wrap32_down]; decide)).mono ?_
  rintro e u' w'' ⟨rfl, rfl, rfl⟩
  rw [wrap32_down]
  refine ⟨_, results_tmp rfl _ _ _, ?_⟩
  exact ⟨rfl, ⟨hn, hSn, hB1.setAt 6 _, hS0⟩, hT1.set _ _ (.inr rfl)⟩

set_option maxRecDepth 100000 in
set_option maxHeartbeats 1600000 in
/-- Has, where the leaf is laid. -/
theorem has_someB (b l : Nat) (n : Nat) (S : Nat → Bool) (i : Nat) (w : World) (hi : i < n) (hA : SetAt w b (some l) n S) :
    Calls Tryd.prog 53 #[.pointer (some ⟨b, 0, none⟩), .int .i64 i] w (SamePost b (some l) n (S i) S w) := by
  obtain ⟨hn, hSn, hB, hne, ws, hL, hw⟩ := hA
  have c2 : w.cell? ⟨b, 2, none⟩ = some (.int .i32 0) := hB.cell 2
  have c5 : w.cell? ⟨b, 5, none⟩ = some (.int .u32 0) := hB.cell 5
  have c6 : w.cell? ⟨b, 6, none⟩ = some (.int .i32 0) := hB.cell 6
  have z6 : w.frozen? ⟨b, 6, none⟩ = false := hB.free 6
  have hB1 := hB.setAt 6 (.int .i32 1)
  have hL1 := hL.setOther ⟨b, 6, none⟩ (.int .i32 1) hne
  have hT1 : Turn (fun k => k = b) w (w.setCell ⟨b, 6, none⟩ (.int .i32 1)) := (Turn.refl _ w).set _ _ (.inr rfl)
  obtain ⟨x, hx, hwx, hbx⟩ := hw.2 (i / 64) (by omega)
  have hx1 : (bits .and .u64 (x : Int) ((bitN (i : Int) : Nat) : Int) != 0) = S i := by
    rw [and_bit_ne x i hx, hbx (i % 64) (by omega), show 64 * (i / 64) + i % 64 = i by omega]
  have ei : ((i : Int) / 64).toNat = i / 64 := by omega
  go_enter_defers Tryd.func53, Tryd.ntmps53
  go_wp2_with fail
  refine (knows_yes b n i _ (hB.cell 0) (by omega) (by omega)).mono ?_
  rintro e w' ⟨rfl, rfl⟩
  go_wp2_with fail
  refine (rlock_open Tryd.rwRLib b 2 0 _ _ _ c2 c5 c6 z6 (by rw [wrap32_up]; decide)).mono ?_
  rintro e w' ⟨rfl, rfl⟩
  rw [wrap32_up]
  generalize w.setCell ⟨b, 2 + 4, none⟩ (.int .i32 1) = w1 at *
  have k1 : w1.cell? ⟨b, 1, none⟩ = some (.int .i64 0) := hB1.cell 1
  clear c2 c5 c6 z6 hB hL
  go_wp2_with fail
  go_region_held3 (fun w' => w'.cell? ⟨b, 1, none⟩ = some (.int .i64 0)) (first | go_keep | exact hk2)
    (first
      | (go_at_call 87; refine (find_some b l n 0 1 ws hw.1 i (by omega) (by omega) _ ?_ ?_).mono ?_; exact hB1; exact hL1; rintro e w2 ⟨rfl, hT2⟩; rw [ei]; have hB2 := hB1.drew.turn (M := fun _ => False) hT2 (fun h => h); have hL2 := hL1.drew.turn (M := fun _ => False) hT2 (fun h => h); have hk2 : w2.cell? ⟨b, 1, none⟩ = some (.int .i64 0) := hB2.cell 1))
  have kx : w2.cell? ⟨l, i / 64, none⟩ = some (.int .u64 x) := (hL2.cell _).trans hwx
  go_wp2_with fail
  refine (uload_any _ x _ kx).mono ?_
  rintro e w' ⟨rfl, rfl⟩
  go_wp2_with fail
  refine (bitOf_any i _ (by omega)).mono ?_
  rintro e w' ⟨rfl, rfl⟩
  go_wp2_with fail
  refine leaves_cons (f := 66) (args := #[.pointer (some ⟨b, 2, none⟩)]) (by simp) (by simp [go_sem]) ?_
  refine (runlock_deferred Tryd.rwRLib b 2 1 _ _ .returning _ (hB2.cell 2) (hB2.cell 4) (hB2.cell 6) (hB2.free 6) (by rw [wrap32_down]; decide)).mono ?_
  rintro e u' w'' ⟨rfl, rfl, rfl⟩
  rw [wrap32_down]
  refine ⟨_, results_tmp rfl _ _ _, ?_⟩
  exact ⟨rfl, ⟨hn, hSn, hB2.setAt 6 _, hne, ws, hL2.setOther _ _ hne, hw⟩, (hT1.drew.trans hT2 (fun _ _ h => h.elim)).set _ _ (.inr rfl)⟩

/-- Has, of any number: all that there was is as it was. -/
theorem has_q (b : Nat) (lo : Option Nat) (n : Nat) (S : Nat → Bool) (x : Int) (w : World) (hA : SetAt w b lo n S) :
    Calls Tryd.prog 53 #[.pointer (some ⟨b, 0, none⟩), .int .i64 x] w fun e w' => e = .returned (.bool (may n x && S x.toNat)) ∧ Below w.heap.size w w' := by
  by_cases h : 0 ≤ x ∧ x < n
  · obtain ⟨i, rfl⟩ : ∃ i : Nat, x = i := ⟨x.toNat, by omega⟩
    have hm : may n i = true := by simp [may]; omega
    rw [hm, Bool.true_and, Int.toNat_natCast]
    have fin : ∀ e w', SamePost b lo n (S i) S w e w' → e = .returned (.bool (S i)) ∧ Below w.heap.size w w' := fun e w' ⟨he, hA', hT⟩ => ⟨he, same_below hA hA' hT⟩
    cases lo with
    | none => rw [hA.2.2.2 i] at fin ⊢; exact (has_nilB b n S i w (by omega) hA).mono fin
    | some l => exact (has_someB b l n S i w (by omega) hA).mono fin
  · have hm : may n x = false := by simp [may]; omega
    rw [hm, Bool.false_and]
    exact (has_no b lo n S x w (by omega) hA).mono fun e w' ⟨he, hw⟩ => ⟨he, hw ▸ Below.refl _ _⟩
end Go.Proofs.YtoemfehlnnbjdaaDoor
