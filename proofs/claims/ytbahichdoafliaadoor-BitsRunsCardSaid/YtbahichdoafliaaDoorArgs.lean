/- Slices of ints as arguments, at this seat's numbers. -/
import Derived.Test.YtbahichdoafliaaDoorRows
import Derived.Test.YtbahichdoafliaaDoorBitsS
import Derived.ProofKit
import Derived.ChangeSlices
import Derived.Below
namespace Go.Proofs.YtbahichdoafliaaDoor
open Go.ChangeShapes Go.WideShapes Go.ChangeAt Go.RowKit

theorem laidOut : laidOutB Tryd.prog = true := by kernel_rfl
theorem cellsInt : Tryd.prog.cellsOf 3 = 1 := by kernel_rfl

theorem open_ints_arg {H : Type} {enc : TypeId × Value → H} {W : World} {a0 : Option Addr} {len cap : Nat} {d : DataW H} {ps : List MemPlace}
    (h : DataW.Trod enc Tryd.prog W 0 (fun _ => true) true 22 (.slice a0 len cap) d ps) : ∃ zs : List Int, zs.length = len ∧ zs.length ≤ 9223372036854775807 ∧ IntsAt W a0 zs := by
  obtain ⟨fuel, hf⟩ := h
  rcases open_ints Tryd.underlying22 Tryd.underlying3 cellsInt hf with ⟨hcs, hx⟩ | ⟨a, len', cap', zs, hcs, _, hl, hm, hz, hx, hcell, hwz⟩
  · simp [Value.cells] at hcs
    obtain ⟨rfl, rfl, rfl⟩ := hcs
    exact ⟨[], rfl, by simp, fun k hk => absurd hk (by simp)⟩
  · simp [Value.cells] at hcs
    obtain ⟨rfl, rfl, rfl⟩ := hcs
    simp only [if_true] at hz
    unfold maxLen at hm
    obtain ⟨b, off, spot⟩ := a
    have hlen : (zs.take len).length = len := by simp; omega
    refine ⟨zs.take len, hlen, by omega, fun k hk => ?_⟩
    have hspot : spot = none := by simpa [Addr.add] using World.cell?_spot (hcell 0 (by omega))
    subst hspot
    have hc := hcell k (by omega)
    have hg : (zs.take len).getD k 0 = zs.getD k 0 := by simp [List.getD, List.getElem?_take_of_lt (show k < len by omega)]
    rw [add_plain] at hc
    exact ⟨b, off, rfl, World.block_lt_of_cell? W _ hc, by rw [hg]; exact hc⟩
end Go.Proofs.YtbahichdoafliaaDoor
