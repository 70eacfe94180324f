/- Slices of ints, and of bytes, as arguments, at this seat's numbers. -/
import Derived.Test.YtfipflghnhfcjaaArgsC
import Derived.ChangeSlices
namespace Go.Proofs.Ytfipflghnhfcjaa
open Go.ChangeShapes Go.WideShapes Go.ChangeAt Go.RowKit

/-- A slice of ints that came in: each of its cells. -/
def NumsAt (w : World) (a : Option Addr) (zs : List Int) : Prop :=
  ∀ k, k < zs.length → ∃ b off, a = some ⟨b, off, none⟩ ∧ b < w.heap.size ∧ w.cell? ⟨b, off + k, none⟩ = some (.int .i64 (zs.getD k 0)) ∧ (Lit.int .i64 (zs.getD k 0)).wf = true

theorem cellsIntI : Try.prog.cellsOf 3 = 1 := by kernel_rfl
theorem open_nums_arg {H : Type} {enc : TypeId × Value → H} {W : World} {a0 : Option Addr} {len cap : Nat} {d : DataW H} {ps : List MemPlace}
    (h : DataW.Trod enc Try.prog W 0 (fun _ => true) true 22 (.slice a0 len cap) d ps) : ∃ zs : List Int, zs.length = len ∧ zs.length ≤ 9223372036854775807 ∧ NumsAt W a0 zs := by
  obtain ⟨fuel, hf⟩ := h
  rcases open_ints Try.underlying22 Try.underlying3 cellsIntI hf with ⟨hcs, hx⟩ | ⟨a, len', cap', zs, hcs, _, hl, hm, hz, hx, hcell, hwz⟩
  · simp [Value.cells] at hcs
    obtain ⟨rfl, rfl, rfl⟩ := hcs
    exact ⟨[], rfl, by simp, fun k hk => absurd hk (by simp)⟩
  · simp [Value.cells] at hcs
    obtain ⟨rfl, rfl, rfl⟩ := hcs
    simp only [if_true] at hz
    unfold maxLen at hm
    obtain ⟨b, off, spot⟩ := a
    have hlen : (zs.take len).length = len := by simp; omega
    refine ⟨zs.take len, hlen, by omega, fun k hk => ?_⟩
    have hspot : spot = none := by simpa [Addr.add] using World.cell?_spot (hcell 0 (by omega))
    subst hspot
    have hc := hcell k (by omega)
    have hg : (zs.take len).getD k 0 = zs.getD k 0 := by simp [List.getD, List.getElem?_take_of_lt (show k < len by omega)]
    rw [add_plain] at hc
    have hk2 : k < zs.length := by omega
    have hz2 : zs.getD k 0 = zs[k] := by simp [List.getD, hk2]
    have hw : (Lit.int .i64 zs[k]).wf = true := hwz _ (List.getElem_mem hk2)
    exact ⟨b, off, rfl, World.block_lt_of_cell? W _ hc, by rw [hg]; exact hc, by rw [hg, hz2]; exact hw⟩
end Go.Proofs.Ytfipflghnhfcjaa
