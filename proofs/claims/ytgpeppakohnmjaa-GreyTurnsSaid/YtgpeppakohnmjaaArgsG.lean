/- Slices of references, and of deeds (two numbers), as arguments, at this seat's numbers. -/
import Derived.Test.YtgpeppakohnmjaaRows
import Derived.Test.YtgpeppakohnmjaaGrA
import Derived.ProofKit
import Derived.ChangeSlices
import Derived.Deep.SlicePairs
import Derived.Below
namespace Go.Proofs.Ytgpeppakohnmjaa
open Go.ChangeShapes Go.WideShapes Go.ChangeAt Go.RowKit Go.Deep

theorem laidOut : laidOutB Try.prog = true := by kernel_rfl
theorem cellsIntC : Try.prog.cellsOf 3 = 1 := by kernel_rfl
def numV (v : Value) : Int := match v with | .int _ n => n | _ => 0
/-- A slice of references that came in: each of its cells. -/
def RefsAtW (w : World) (a : Option Addr) (zs : List Int) : Prop :=
  ∀ k, k < zs.length → ∃ b off, a = some ⟨b, off, none⟩ ∧ b < w.heap.size ∧ w.cell? ⟨b, off + k, none⟩ = some (.int .i64 (zs.getD k 0)) ∧ (Lit.int .i64 (zs.getD k 0)).wf = true

theorem cellsRefI : Try.prog.cellsOf 27 = 1 := by kernel_rfl
theorem open_refs_arg {H : Type} {enc : TypeId × Value → H} {W : World} {a0 : Option Addr} {len cap : Nat} {d : DataW H} {ps : List MemPlace}
    (h : DataW.Trod enc Try.prog W 0 (fun _ => true) true 26 (.slice a0 len cap) d ps) : ∃ zs : List Int, zs.length = len ∧ zs.length ≤ 9223372036854775807 ∧ RefsAtW W a0 zs := by
  obtain ⟨fuel, hf⟩ := h
  rcases open_ints Try.underlying26 Try.underlying27 cellsRefI hf with ⟨hcs, hx⟩ | ⟨a, len', cap', zs, hcs, _, hl, hm, hz, hx, hcell, hwz⟩
  · simp [Value.cells] at hcs
    obtain ⟨rfl, rfl, rfl⟩ := hcs
    exact ⟨[], rfl, by simp, fun k hk => absurd hk (by simp)⟩
  · simp [Value.cells] at hcs
    obtain ⟨rfl, rfl, rfl⟩ := hcs
    simp only [if_true] at hz
    unfold maxLen at hm
    obtain ⟨b, off, spot⟩ := a
    have hlen : (zs.take len).length = len := by simp; omega
    refine ⟨zs.take len, hlen, by omega, fun k hk => ?_⟩
    have hspot : spot = none := by simpa [Addr.add] using World.cell?_spot (hcell 0 (by omega))
    subst hspot
    have hc := hcell k (by omega)
    have hg : (zs.take len).getD k 0 = zs.getD k 0 := by simp [List.getD, List.getElem?_take_of_lt (show k < len by omega)]
    rw [add_plain] at hc
    have hk2 : k < zs.length := by omega
    have hz2 : zs.getD k 0 = zs[k] := by simp [List.getD, hk2]
    have hw : (Lit.int .i64 zs[k]).wf = true := hwz _ (List.getElem_mem hk2)
    exact ⟨b, off, rfl, World.block_lt_of_cell? W _ hc, by rw [hg]; exact hc, by rw [hg, hz2]; exact hw⟩
theorem cellsCall : Try.prog.cellsOf 29 = 2 := by kernel_rfl
/-- A slice of calls that came in: each of its two numbers. -/
def CallsAt (w : World) (a : Option Addr) (n : Nat) (K N : Nat → Int) : Prop :=
  ∀ k, k < n → ∃ b off, a = some ⟨b, off, none⟩ ∧ b < w.heap.size ∧ w.cell? ⟨b, off + k * 2, none⟩ = some (.int .i64 (K k)) ∧ w.cell? ⟨b, off + k * 2 + 1, none⟩ = some (.int .i64 (N k)) ∧ (Lit.int .i64 (K k)).wf = true ∧ (Lit.int .i64 (N k)).wf = true

theorem open_calls_arg {H : Type} {enc : TypeId × Value → H} {W : World} {a0 : Option Addr} {len cap : Nat} {d : DataW H} {ps : List MemPlace}
    (h : DataW.Trod enc Try.prog W 0 (fun _ => true) true 22 (.slice a0 len cap) d ps) : ∃ K N : Nat → Int, len ≤ 9223372036854775807 ∧ CallsAt W a0 len K N := by
  obtain ⟨fuel, hf⟩ := h
  rcases open_slice_pairs Try.underlying22 Try.underlying29 cellsCall rfl rfl cellsIntC cellsRefI hf with ⟨hcs, hx⟩ | ⟨a, len', cap', m, n, V0, V1, D0, D1, P0, P1, hcs, _, hl, hm, hmm, hx, hall⟩
  · simp [Value.cells] at hcs
    obtain ⟨rfl, rfl, rfl⟩ := hcs
    exact ⟨fun _ => 0, fun _ => 0, by omega, fun k hk => absurd hk (by omega)⟩
  · simp [Value.cells] at hcs
    obtain ⟨rfl, rfl, rfl⟩ := hcs
    simp only [if_true] at hmm
    subst hmm
    unfold maxLen at hm
    refine ⟨fun k => numV (V0 k), fun k => numV (V1 k), by omega, fun k hk => ?_⟩
    obtain ⟨c0, c1, t0, t1⟩ := hall k (by omega)
    obtain ⟨z0, e0, _, w0⟩ := DataW.trod_int Try.underlying3 t0
    obtain ⟨z1, e1, _, w1⟩ := DataW.trod_int Try.underlying27 t1
    have v0 : V0 k = .int .i64 z0 := by simpa using e0
    have v1 : V1 k = .int .i64 z1 := by simpa using e1
    obtain ⟨b, off, spot⟩ := a
    have hspot : spot = none := by simpa [Addr.add] using World.cell?_spot (hall 0 (by omega)).1
    subst hspot
    rw [add_plain] at c0 c1
    refine ⟨b, off, rfl, World.block_lt_of_cell? W _ c0, ?_, ?_, ?_, ?_⟩
    · rw [c0]; show some (V0 k) = some (.int .i64 (numV (V0 k))); rw [v0]; rfl
    · rw [Nat.add_assoc, c1]; show some (V1 k) = some (.int .i64 (numV (V1 k))); rw [v1]; rfl
    · show (Lit.int .i64 (numV (V0 k))).wf = true; rw [v0]; exact w0
    · show (Lit.int .i64 (numV (V1 k))).wf = true; rw [v1]; exact w1
end Go.Proofs.Ytgpeppakohnmjaa
