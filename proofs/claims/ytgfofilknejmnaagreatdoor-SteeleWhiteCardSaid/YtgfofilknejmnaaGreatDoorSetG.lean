/- OnesCount64, for the layers above bits, at this seat's numbers. -/
import Derived.Test.YtgfofilknejmnaaGreatDoorUb
import Derived.Test.YtgfofilknejmnaaGreatDoorPop
import Derived.Laws.Bits128
namespace Go.Proofs.YtgfofilknejmnaaGreatDoor
open Go.RowKit Go.MuLone Go.RwLone

theorem step12 (d m x : Nat) (hx : x < 18446744073709551616) (hm : m < 18446744073709551616) (y : Nat) (hy : y = (x / d &&& m) + (x &&& m)) (hlt : y < 18446744073709551616) :
    IntKind.u64.wrap (bits .and .u64 ((x : Int) / (d : Int)) (m : Int) + bits .and .u64 (x : Int) (m : Int)) = (y : Int) := by
  have e : ((x : Int) / (d : Int)) = ((x / d : Nat) : Int) := (Int.natCast_ediv x d).symm
  rw [e, u64_and_nat _ _ (Nat.lt_of_le_of_lt (Nat.div_le_self _ _) hx) hm, u64_and_nat _ _ hx hm, ← Int.natCast_add, ← hy]
  exact wrap_u64_nat y hlt
theorem step3 (m z u : Nat) (h1 : z / 16 + z < 18446744073709551616) (hm : m < 18446744073709551616) (hu : u = (z / 16 + z) &&& m) :
    bits .and .u64 (IntKind.u64.wrap ((z : Int) / 16 + (z : Int))) (m : Int) = (u : Int) := by
  have e : ((z : Int) / 16 + (z : Int)) = ((z / 16 + z : Nat) : Int) := by omega
  rw [e, wrap_u64_nat _ h1, u64_and_nat _ _ h1 hm, ← hu]
theorem step4 (d u v : Nat) (hv : v = u + u / d) (hlt : v < 18446744073709551616) : IntKind.u64.wrap ((u : Int) + (u : Int) / (d : Int)) = (v : Int) := by
  have e : ((u : Int) / (d : Int)) = ((u / d : Nat) : Int) := (Int.natCast_ediv u d).symm
  rw [e, ← Int.natCast_add, ← hv]
  exact wrap_u64_nat v hlt
theorem wrap64_mod (n : Int) : bits .and .i64 (wrap64 n) 127 = n % 128 := by
  have h : wrap64 n = n % 18446744073709551616 ∨ wrap64 n = n % 18446744073709551616 - 18446744073709551616 := by
    unfold wrap64; omega
  rw [i64_and127]
  rcases h with h | h
  · rw [h]; omega
  · rw [h]; omega

theorem lane_lt (m x : Nat) (hm : m < 9223372036854775808) (d : Nat) : (x / d &&& m) + (x &&& m) < 18446744073709551616 := by
  have h1 : x / d &&& m ≤ m := Nat.and_le_right
  have h2 : x &&& m ≤ m := Nat.and_le_right
  omega

theorem ones_any (x : Nat) (hx : x < 18446744073709551616) (w : World) :
    Calls Tryz.prog 74 #[.int .u64 x] w fun e w' => e = .returned (.int .i64 ((pop 64 x : Nat) : Int)) ∧ w = w' := by
  have hp := ones_pop x hx
  have hy0 := lane_lt 6148914691236517205 x (by decide) 2
  obtain ⟨y, hy⟩ : ∃ y, y = (x / 2 &&& 6148914691236517205) + (x &&& 6148914691236517205) := ⟨_, rfl⟩
  rw [← hy] at hy0
  have fy : IntKind.u64.wrap (bits .and .u64 ((x : Int) / 2) 6148914691236517205 + bits .and .u64 (x : Int) 6148914691236517205) = (y : Int) := step12 2 6148914691236517205 x hx (by decide) y hy hy0
  have hz0 := lane_lt 3689348814741910323 y (by decide) 4
  obtain ⟨z, hz⟩ : ∃ z, z = (y / 4 &&& 3689348814741910323) + (y &&& 3689348814741910323) := ⟨_, rfl⟩
  have hz1 : z ≤ 7378697629483820646 := by
    have h1 : y / 4 &&& 3689348814741910323 ≤ 3689348814741910323 := Nat.and_le_right
    have h2 : y &&& 3689348814741910323 ≤ 3689348814741910323 := Nat.and_le_right
    omega
  rw [← hz] at hz0
  have fz : IntKind.u64.wrap (bits .and .u64 ((y : Int) / 4) 3689348814741910323 + bits .and .u64 (y : Int) 3689348814741910323) = (z : Int) := step12 4 3689348814741910323 y hy0 (by decide) z hz hz0
  obtain ⟨u, hu⟩ : ∃ u, u = (z / 16 + z) &&& 1085102592571150095 := ⟨_, rfl⟩
  have hu1 : u ≤ 1085102592571150095 := by rw [hu]; exact Nat.and_le_right
  have fu : bits .and .u64 (IntKind.u64.wrap ((z : Int) / 16 + (z : Int))) 1085102592571150095 = (u : Int) := step3 1085102592571150095 z u (by omega) (by decide) hu
  obtain ⟨v, hv⟩ : ∃ v, v = u + u / 256 := ⟨_, rfl⟩
  obtain ⟨t, ht⟩ : ∃ t, t = v + v / 65536 := ⟨_, rfl⟩
  obtain ⟨r, hr⟩ : ∃ r, r = t + t / 4294967296 := ⟨_, rfl⟩
  have fv : IntKind.u64.wrap ((u : Int) + (u : Int) / 256) = (v : Int) := step4 256 u v hv (by omega)
  have ft : IntKind.u64.wrap ((v : Int) + (v : Int) / 65536) = (t : Int) := step4 65536 v t ht (by omega)
  have fr : IntKind.u64.wrap ((t : Int) + (t : Int) / 4294967296) = (r : Int) := step4 4294967296 t r hr (by omega)
  have hp' : r % 128 = pop 64 x := by
    rw [← hp, hr, ht, hv, hu, hz, hy]
    rfl
  clear hp hy hz hu hv ht hr hy0 hz0 hz1 hu1 hx
  have HP : Hid (r % 128 = pop 64 x) := hp'
  clear hp'
  go_enter Tryz.func74, Tryz.ntmps74
  go_wp2
  go_ret
  exact ⟨ret_i64 (by rw [wrap64_mod, ← HP.out]; rfl), rfl⟩
end Go.Proofs.YtgfofilknejmnaaGreatDoor
