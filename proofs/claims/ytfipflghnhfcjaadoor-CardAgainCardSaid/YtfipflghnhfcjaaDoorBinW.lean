/- An operation on two numbers whose run is known; it speaks of no program. -/
import Derived.Test.YtfipflghnhfcjaaDoorGrow
import Derived.OwnWalkIn
namespace Go.Proofs.YtfipflghnhfcjaaDoor
open Go Go.RowKit
theorem wpListIn_bin {F : Fence} {n : Nat} {P : Program} {ops : Array Oper} {rest : List Oper} {o : Oper} {a : Act} {Q : Exit → Act → World → Prop} {w : World} (hgd : o.guard = none) (op : BinOp) (T T' : TypeId) (x y : Operand) (ho : o.op = .binOp op T x y T')
    (u v : Value) (hx : a.eval x = u) (hy : a.eval y = v) {r : Value} (hE : (eqGuard op T x y u v).run P w = .ok () w) (hr : (binOp op T u v).run P w = .ok r w) (h : wpListIn F n P ops Q rest (a.put o.dst r) w) : wpListIn F n P ops Q (o :: rest) a w := by
  refine wpListIn_plain hgd fun K hK => ?_
  unfold Oper.wpIn
  refine ⟨?_, ?_⟩
  · simp [Oper.about, ho]
  · rw [Oper.semAt_plain F _ _ (by rw [ho]; intro c hc'; cases hc')]
    simp [execOp, ho, hx, hy, hE, hr, Result.andThen]
    exact hK _ _ h
/-- A shift, and what is left of it. -/
theorem run_shr_u8 {P : Program} (w : World) (T : TypeId) (lv x : Nat) (hx : x ≤ 8) (z : Int) (hz : (lv : Int) / 2 ^ x = z) : (binOp .shr T (.int .u8 (lv : Int)) (.int .i64 (x : Int))).run P w = .ok (.int .u8 z) w := by
  have e : Op.shift .shr .u8 (lv : Int) .i64 (x : Int) = pure (.int .u8 ((lv : Int) / 2 ^ (x : Int).toNat)) := shift_shr .u8 .i64 _ _ (by omega) (by show (x : Int) ≤ ((8 : Nat) : Int); omega)
  show (Op.shift .shr .u8 (lv : Int) .i64 (x : Int)).run P w = _
  rw [e, Int.toNat_natCast, hz]
  rfl
theorem run_and_u8 {P : Program} (w : World) (T : TypeId) (a b z : Int) (hz : bits .and .u8 a b = z) : (binOp .and T (.int .u8 a) (.int .u8 b)).run P w = .ok (.int .u8 z) w := by
  subst hz
  rfl
end Go.Proofs.YtfipflghnhfcjaaDoor
