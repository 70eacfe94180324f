/- A slice of fours of bytes as an argument; at this seat's numbers. -/
import Derived.Test.YtooddbhlanjfbaaGreatDoorArgsM
namespace Go.Proofs.YtooddbhlanjfbaaGreatDoor
open Go.ChangeShapes Go.WideShapes Go.ChangeAt Go.RowKit Go.Deep

/-- A slice of fours of bytes that came in. -/
def FoursW (w : World) (a : Option Addr) (n : Nat) (Q : Nat → Nat → Int) : Prop :=
  ∀ k, k < n → ∃ b off, a = some ⟨b, off, none⟩ ∧ b < w.heap.size ∧ ∀ j, j < 4 → w.cell? ⟨b, off + k * 4 + j, none⟩ = some (.int .u8 (Q k j)) ∧ (Lit.int .u8 (Q k j)).wf = true
theorem cellsEFoursW : Tryz.prog.cellsOf 5 = 1 := by kernel_rfl
theorem cellsFoursW : Tryz.prog.cellsOf 46 = 4 := by kernel_rfl
theorem open_foursw_arg {H : Type} {enc : TypeId × Value → H} {W : World} {a0 : Option Addr} {len cap : Nat} {d : DataW H} {ps : List MemPlace}
    (h : DataW.Trod enc Tryz.prog W 0 (fun _ => true) true 27 (.slice a0 len cap) d ps) : ∃ Q : Nat → Nat → Int, len ≤ 9223372036854775807 ∧ FoursW W a0 len Q := by
  obtain ⟨fuel, hf⟩ := h
  rcases open_slice Tryz.underlying27 hf with h0 | ⟨a, len', cap', m, n, D, Pl, hcs, hb, hl, hm, hmm, _, hx⟩
  · have hcs := h0.1
    simp [Value.cells] at hcs
    obtain ⟨rfl, rfl, rfl⟩ := hcs
    exact ⟨fun _ _ => 0, by omega, fun k hk => absurd hk (by omega)⟩
  · simp [Value.cells] at hcs
    obtain ⟨rfl, rfl, rfl⟩ := hcs
    simp only [if_true] at hmm
    subst hmm
    unfold maxLen at hm
    have hall : ∀ k, k < len → ∀ j, j < 4 → ∃ z, W.cell? (a.add (k * 4 + j)) = some (.int .u8 z) ∧ (Lit.int .u8 z).wf = true := fun k hk j hj => by
      obtain ⟨cs', h1, h2⟩ := hx k (by omega)
      rw [cellsFoursW] at h1
      obtain ⟨_, hlen, hcell⟩ := World.cells?_some h1
      obtain ⟨xs, n2, _, _, _, hxl, hg⟩ := DataW.trod_array Tryz.underlying46 h2
      have hgj := hg j hj
      rw [cellsEFoursW, Nat.mul_one] at hgj
      have hcj : cs'[j]? = some cs'[j] := List.getElem?_eq_getElem (by omega)
      have hdrop : (cs'.drop j).take 1 = [cs'[j]] := by
        rw [List.drop_eq_getElem_cons (by omega)]; rfl
      rw [hdrop, List.getElem?_eq_getElem (by omega)] at hgj
      obtain ⟨z, e0, _, wz⟩ := DataW.trod_int Tryz.underlying5 hgj
      have hc := hcell j (by omega)
      rw [add_add] at hc
      have e1 : cs'[j] = .int .u8 z := by simpa using e0
      rw [hcj, e1] at hc
      exact ⟨z, hc, wz⟩
    obtain ⟨b, off, spot⟩ := a
    refine ⟨fun k j => numM ((W.cell? ((⟨b, off, spot⟩ : Addr).add (k * 4 + j))).getD undef), by omega, fun k hk => ?_⟩
    have hspot : spot = none := by
      obtain ⟨z, hc, _⟩ := hall 0 (by omega) 0 (by decide)
      simpa [Addr.add] using World.cell?_spot hc
    subst hspot
    obtain ⟨z0, hc0, _⟩ := hall k hk 0 (by decide)
    rw [add_plain] at hc0
    refine ⟨b, off, rfl, World.block_lt_of_cell? W _ hc0, fun j hj => ?_⟩
    obtain ⟨z, hc, wz⟩ := hall k hk j hj
    have e2 : numM ((W.cell? ((⟨b, off, none⟩ : Addr).add (k * 4 + j))).getD undef) = z := by rw [hc]; rfl
    simp only [e2]
    rw [add_plain, ← Nat.add_assoc] at hc
    exact ⟨hc, wz⟩

end Go.Proofs.YtooddbhlanjfbaaGreatDoor
