/- Slices of deeds (two bytes), as arguments, at this seat's numbers. -/
import Derived.Test.YtacnikibmhlmiaaRows
import Derived.Test.YtacnikibmhlmiaaPhE
import Derived.ProofKit
import Derived.ChangeSlices
import Derived.Deep.SlicePairs
import Derived.Below
import Derived.SizedLaws
namespace Go.Proofs.Ytacnikibmhlmiaa
open Go.ChangeShapes Go.WideShapes Go.ChangeAt Go.RowKit Go.Deep

theorem laidOut : laidOutB Try.prog = true := by kernel_rfl
theorem cellsByteQ : Try.prog.cellsOf 5 = 1 := by kernel_rfl
def numQ (v : Value) : Int := match v with | .int _ n => n | _ => 0
theorem cellsDue : Try.prog.cellsOf 31 = 2 := by kernel_rfl
/-- A slice of deeds that came in: each of its two numbers. -/
def DuesAt (w : World) (a : Option Addr) (n : Nat) (K N : Nat → Int) : Prop :=
  ∀ k, k < n → ∃ b off, a = some ⟨b, off, none⟩ ∧ b < w.heap.size ∧ w.cell? ⟨b, off + k * 2, none⟩ = some (.int .u8 (K k)) ∧ w.cell? ⟨b, off + k * 2 + 1, none⟩ = some (.int .u8 (N k)) ∧ (Lit.int .u8 (K k)).wf = true ∧ (Lit.int .u8 (N k)).wf = true

theorem open_dues_arg {H : Type} {enc : TypeId × Value → H} {W : World} {a0 : Option Addr} {len cap : Nat} {d : DataW H} {ps : List MemPlace}
    (h : DataW.Trod enc Try.prog W 0 (fun _ => true) true 22 (.slice a0 len cap) d ps) : ∃ K N : Nat → Int, len ≤ 9223372036854775807 ∧ DuesAt W a0 len K N := by
  obtain ⟨fuel, hf⟩ := h
  rcases open_slice_pairs Try.underlying22 Try.underlying31 cellsDue rfl rfl cellsByteQ cellsByteQ hf with ⟨hcs, hx⟩ | ⟨a, len', cap', m, n, V0, V1, D0, D1, P0, P1, hcs, _, hl, hm, hmm, hx, hall⟩
  · simp [Value.cells] at hcs
    obtain ⟨rfl, rfl, rfl⟩ := hcs
    exact ⟨fun _ => 0, fun _ => 0, by omega, fun k hk => absurd hk (by omega)⟩
  · simp [Value.cells] at hcs
    obtain ⟨rfl, rfl, rfl⟩ := hcs
    simp only [if_true] at hmm
    subst hmm
    unfold maxLen at hm
    refine ⟨fun k => numQ (V0 k), fun k => numQ (V1 k), by omega, fun k hk => ?_⟩
    obtain ⟨c0, c1, t0, t1⟩ := hall k (by omega)
    obtain ⟨z0, e0, _, w0⟩ := DataW.trod_int Try.underlying5 t0
    obtain ⟨z1, e1, _, w1⟩ := DataW.trod_int Try.underlying5 t1
    have v0 : V0 k = .int .u8 z0 := by simpa using e0
    have v1 : V1 k = .int .u8 z1 := by simpa using e1
    obtain ⟨b, off, spot⟩ := a
    have hspot : spot = none := by simpa [Addr.add] using World.cell?_spot (hall 0 (by omega)).1
    subst hspot
    rw [add_plain] at c0 c1
    refine ⟨b, off, rfl, World.block_lt_of_cell? W _ c0, ?_, ?_, ?_, ?_⟩
    · rw [c0]; show some (V0 k) = some (.int .u8 (numQ (V0 k))); rw [v0]; rfl
    · rw [Nat.add_assoc, c1]; show some (V1 k) = some (.int .u8 (numQ (V1 k))); rw [v1]; rfl
    · show (Lit.int .u8 (numQ (V0 k))).wf = true; rw [v0]; exact w0
    · show (Lit.int .u8 (numQ (V1 k))).wf = true; rw [v1]; exact w1
theorem bytesDue : Try.prog.bytesOf 31 = 2 := by kernel_rfl
theorem dues_small {H : Type} {enc : TypeId × Value → H} {W : World} {a0 : Option Addr} {len cap : Nat} {d : DataW H} {ps : List MemPlace} {ts : List TypeId} {ds : List (DataW H)}
    (h : DataW.Trod enc Try.prog W 0 (fun _ => true) true 22 (.slice a0 len cap) d ps) (hz : (DataW.weightsEach Try.prog ts ds).all (· ≤ reachBytes) = true) {j : Nat} (ht : ts[j]? = some 22) (hd : ds[j]? = some d) : len ≤ reachBytes := by
  obtain ⟨fuel, hf⟩ := h
  rcases open_slice_pairs Try.underlying22 Try.underlying31 cellsDue rfl rfl cellsByteQ cellsByteQ hf with ⟨hcs, hx⟩ | ⟨a, len', cap', m, n, V0, V1, D0, D1, P0, P1, hcs, _, hl, hm, hmm, hx, hall⟩
  · simp [Value.cells] at hcs
    obtain ⟨rfl, rfl, rfl⟩ := hcs
    exact Nat.zero_le _
  · simp [Value.cells] at hcs
    obtain ⟨rfl, rfl, rfl⟩ := hcs
    have hd2 := congrArg Prod.fst hx
    simp only at hd2
    subst hd2
    have h1 := sized_slice hz ht hd Try.underlying22
    rw [bytesDue] at h1
    simp at h1
    simp only [if_true] at hmm
    omega
theorem dues_sum {n m : Nat} (h : n ≤ reachBytes) (k : m ≤ reachBytes) : n + m ≤ 9223372036854775807 := by
  have := reachBytes_lt
  omega
end Go.Proofs.Ytacnikibmhlmiaa
