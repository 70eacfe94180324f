/- How long slices of bytes that came in can be: from the weights of what came in; at this seat's numbers. -/
import Derived.Test.YtooddbhlanjfbaaGreatDoorArgsM
import Derived.SizedLaws
namespace Go.Proofs.YtooddbhlanjfbaaGreatDoor
open Go Go.RowKit Go.ChangeShapes Go.WideShapes Go.ChangeAt
set_option linter.unusedVariables false
theorem bytesU8M : Tryz.prog.bytesOf 5 = 1 := by kernel_rfl
theorem bytesw_small {H : Type} {enc : TypeId × Value → H} {W : World} {a0 : Option Addr} {len cap : Nat} {d : DataW H} {ps : List MemPlace} {ts : List TypeId} {ds : List (DataW H)}
    (h : DataW.Trod enc Tryz.prog W 0 (fun _ => true) true 23 (.slice a0 len cap) d ps) (hz : (DataW.weightsEach Tryz.prog ts ds).all (· ≤ reachBytes) = true) {j : Nat} (ht : ts[j]? = some 23) (hd : ds[j]? = some d) : len ≤ reachBytes := by
  obtain ⟨fuel, hf⟩ := h
  rcases open_ints Tryz.underlying23 Tryz.underlying5 cellsU8M hf with ⟨hcs, hx⟩ | ⟨a, len', cap', zs, hcs, _, hl, hm, hlz, hx, _, _⟩
  · simp [Value.cells] at hcs
    obtain ⟨rfl, rfl, rfl⟩ := hcs
    exact Nat.zero_le _
  · simp [Value.cells] at hcs
    obtain ⟨rfl, rfl, rfl⟩ := hcs
    have hd2 := congrArg Prod.fst hx
    simp only at hd2
    subst hd2
    have h1 := sized_slice hz ht hd Tryz.underlying23
    rw [bytesU8M, Nat.mul_one] at h1
    simp [lits] at h1
    simp only [if_true] at hlz
    omega
theorem bytesw_sum {n m : Nat} (h : n ≤ reachBytes) (k : m ≤ reachBytes) : n + m ≤ 9223372036854775807 := by
  have := reachBytes_lt
  omega
end Go.Proofs.YtooddbhlanjfbaaGreatDoor
