/- OnesCount64, for the layers above bits, at this seat's numbers. -/
import Derived.Test.YtihjijfeogapdaaGreatDoorUb
import Derived.Test.YtihjijfeogapdaaGreatDoorPop
import Derived.Laws.Bits128
namespace Go.Proofs.YtihjijfeogapdaaGreatDoor
open Go.RowKit Go.MuLone Go.RwLone

theorem step12 (d m x : Nat) (hx : x < 18446744073709551616) (hm : m < 18446744073709551616) (y : Nat) (hy : y = (x / d &&& m) + (x &&& m)) (hlt : y < 18446744073709551616) :
    IntKind.u64.wrap (bits .and .u64 ((x : Int) / (d : Int)) (m : Int) + bits .and .u64 (x : Int) (m : Int)) = (y : Int) := by
  have e : ((x : Int) / (d : Int)) = ((x / d : Nat) : Int) := (Int.natCast_ediv x d).symm
  rw [e, u64_and_nat _ _ (Nat.lt_of_le_of_lt (Nat.div_le_self _ _) hx) hm, u64_and_nat _ _ hx hm, ← Int.natCast_add, ← hy]
  exact wrap_u64_nat y hlt
theorem step3 (m z u : Nat) (h1 : z / 16 + z < 18446744073709551616) (hm : m < 18446744073709551616) (hu : u = (z / 16 + z) &&& m) :
    bits .and .u64 (IntKind.u64.wrap ((z : Int) / 16 + (z : Int))) (m : Int) = (u : Int) := by
  have e : ((z : Int) / 16 + (z : Int)) = ((z / 16 + z : Nat) : Int) := by omega
  rw [e, wrap_u64_nat _ h1, u64_and_nat _ _ h1 hm, ← hu]
theorem step4 (d u v : Nat) (hv : v = u + u / d) (hlt : v < 18446744073709551616) : IntKind.u64.wrap ((u : Int) + (u : Int) / (d : Int)) = (v : Int) := by
  have e : ((u : Int) / (d : Int)) = ((u / d : Nat) : Int) := (Int.natCast_ediv u d).symm
  rw [e, ← Int.natCast_add, ← hv]
  exact wrap_u64_nat v hlt
theorem wrap64_mod (n : Int) : bits .and .i64 (wrap64 n) 127 = n % 128 := by
  have h : wrap64 n = n % 18446744073709551616 ∨ wrap64 n = n % 18446744073709551616 - 18446744073709551616 := by
    unfold wrap64; omega
  rw [i64_and127]
  rcases h with h | h
  · rw [h]; omega
  · rw [h]; omega

theorem lane_lt (m x : Nat) (hm : m < 9223372036854775808) (d : Nat) : (x / d &&& m) + (x &&& m) < 18446744073709551616 := by
  have h1 : x / d &&& m ≤ m := Nat.and_le_right
  have h2 : x &&& m ≤ m := Nat.and_le_right
  omega

end Go.Proofs.YtihjijfeogapdaaGreatDoor
