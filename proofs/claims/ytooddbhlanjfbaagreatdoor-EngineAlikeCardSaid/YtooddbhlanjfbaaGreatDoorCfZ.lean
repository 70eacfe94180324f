/- config Made, named apart from a graph's; at this seat's numbers. -/
import Derived.Test.YtooddbhlanjfbaaGreatDoorCfA
namespace Go.Proofs.YtooddbhlanjfbaaGreatDoor
open Go Go.RowKit
set_option linter.unusedSimpArgs false
set_option linter.unusedVariables false
attribute [local go_sem] Oper.semAt_some

/-- 'and' with a mask, at a byte. -/
theorem u8_and_mask (x : Int) (m : Nat) (hm : m < 256) : ∃ r : Nat, r ≤ m ∧ bits .and .u8 x (m : Int) = (r : Int) := by
  refine ⟨(BitVec.ofInt 8 x).toNat &&& m, Nat.and_le_right, ?_⟩
  have h2 : (BitVec.ofInt 8 (m : Int)).toNat = m := by
    rw [BitVec.ofInt_natCast, BitVec.toNat_ofNat]; exact Nat.mod_eq_of_lt (by omega)
  show IntKind.u8.wrap ((BitVec.ofInt 8 x &&& BitVec.ofInt 8 (m : Int)).toNat : Int) = _
  rw [BitVec.toNat_and, h2]
  have h3 : (BitVec.ofInt 8 x).toNat &&& m ≤ m := Nat.and_le_right
  generalize (BitVec.ofInt 8 x).toNat &&& m = r at *
  simp [IntKind.wrap, IntKind.bits, IntKind.signed]
  omega
set_option maxRecDepth 100000 in
set_option maxHeartbeats 4000000 in
theorem cfMade_any (a0 a1 a2 a3 a4 a5 : Nat) (hl : a0 ≤ 255 ∧ a1 ≤ 255 ∧ a2 ≤ 255 ∧ a3 ≤ 255 ∧ a4 ≤ 255 ∧ a5 ≤ 255) (w : World) :
    Calls Tryz.prog 10 #[.agg #[.int .u8 (a0 : Int), .int .u8 (a1 : Int), .int .u8 (a2 : Int), .int .u8 (a3 : Int), .int .u8 (a4 : Int), .int .u8 (a5 : Int)]] w fun e w' => ∃ c : Cfg, e = .returned c.val ∧ c.may = true ∧ Below w.heap.size w w' ∧ bits .and .u8 (a0 : Int) 3 = c.e := by
  obtain ⟨h0, h1, h2, h3, h4, h5⟩ := hl
  obtain ⟨r0, hr0, e0⟩ := u8_and_mask (a0 : Int) 3 (by decide)
  obtain ⟨r1, hr1, e1⟩ := u8_and_mask (a0 : Int) 4 (by decide)
  obtain ⟨r2, hr2, e2⟩ := u8_and_mask (a2 : Int) 3 (by decide)
  obtain ⟨r3, hr3, e3⟩ := u8_and_mask ((a2 : Int) / 4) 3 (by decide)
  obtain ⟨r4, hr4, e4⟩ := u8_and_mask ((a2 : Int) / 16) 3 (by decide)
  obtain ⟨r5, hr5, e5⟩ := u8_and_mask (a3 : Int) 3 (by decide)
  obtain ⟨r6, hr6, e6⟩ := u8_and_mask ((a3 : Int) / 4) 15 (by decide)
  obtain ⟨r7, hr7, e7⟩ := u8_and_mask (a4 : Int) 15 (by decide)
  obtain ⟨r8, hr8, e8⟩ := u8_and_mask (a5 : Int) 7 (by decide)
  replace e0 : bits .and .u8 (a0 : Int) 3 = (r0 : Int) := e0
  replace e1 : bits .and .u8 (a0 : Int) 4 = (r1 : Int) := e1
  replace e2 : bits .and .u8 (a2 : Int) 3 = (r2 : Int) := e2
  replace e3 : bits .and .u8 ((a2 : Int) / 4) 3 = (r3 : Int) := e3
  replace e4 : bits .and .u8 ((a2 : Int) / 16) 3 = (r4 : Int) := e4
  replace e5 : bits .and .u8 (a3 : Int) 3 = (r5 : Int) := e5
  replace e6 : bits .and .u8 ((a3 : Int) / 4) 15 = (r6 : Int) := e6
  replace e7 : bits .and .u8 (a4 : Int) 15 = (r7 : Int) := e7
  replace e8 : bits .and .u8 (a5 : Int) 7 = (r8 : Int) := e8
  go_enter Tryz.func10, Tryz.ntmps10
  go_wp2_with fail
  · refine bodyPost_ret (v := (⟨(r0 : Int), ((r0 : Int) == 2), 1 + (a1 : Int) % 12, 1 + (r2 : Int), 2 + (r3 : Int), (r4 : Int), (a2 : Int) / 64, 2 + (r5 : Int), 1 + (r6 : Int), (r7 : Int), 1 + (r8 : Int)⟩ : Cfg).val) ?_ rfl ⟨_, rfl, ?_, ?_, e0⟩
    · simp [results, Tryz.f10, go_sem]
    · simp only [Cfg.may, Bool.and_eq_true, inB_iff]
      refine ⟨⟨by omega, by omega⟩, ⟨by omega, by omega⟩, ⟨by omega, by omega⟩, ⟨by omega, by omega⟩, ⟨by omega, by omega⟩, ⟨by omega, by omega⟩, ⟨by omega, by omega⟩, ⟨by omega, by omega⟩, ⟨by omega, by omega⟩, ⟨by omega, by omega⟩, ?_⟩
      by_cases hr : (r0 : Int) = 2
      · simp [hr]
      · simp [hr]
    · exact (((Below.refl w.heap.size w).alloc (Nat.le_refl _) _).alloc (by simp) _).alloc (by simp; omega) _
  · refine bodyPost_ret (v := (⟨(r0 : Int), true, 1 + (a1 : Int) % 12, 1 + (r2 : Int), 2 + (r3 : Int), (r4 : Int), (a2 : Int) / 64, 2 + (r5 : Int), 1 + (r6 : Int), (r7 : Int), 1 + (r8 : Int)⟩ : Cfg).val) ?_ rfl ⟨_, rfl, ?_, ?_, e0⟩
    · simp [results, Tryz.f10, go_sem]
    · simp only [Cfg.may, Bool.and_eq_true, inB_iff]
      refine ⟨⟨by omega, by omega⟩, ⟨by omega, by omega⟩, ⟨by omega, by omega⟩, ⟨by omega, by omega⟩, ⟨by omega, by omega⟩, ⟨by omega, by omega⟩, ⟨by omega, by omega⟩, ⟨by omega, by omega⟩, ⟨by omega, by omega⟩, ⟨by omega, by omega⟩, ?_⟩
      by_cases hr : (r0 : Int) = 2
      · simp [hr]
      · simp [hr]
    · exact (((Below.refl w.heap.size w).alloc (Nat.le_refl _) _).alloc (by simp) _).alloc (by simp; omega) _
end Go.Proofs.YtooddbhlanjfbaaGreatDoor
