/- A graph, slices of bytes, of edges, of pairs, two bytes, as arguments; at this seat's numbers. -/
import Derived.Test.YtidpmplkbgllfaaGreatDoorRows
import Derived.Test.YtidpmplkbgllfaaGreatDoorGoW
import Derived.ProofKit
import Derived.ChangeSlices
import Derived.Deep.SlicePairs
import Derived.OpenShut
import Derived.Below
namespace Go.Proofs.YtidpmplkbgllfaaGreatDoor
open Go.ChangeShapes Go.WideShapes Go.ChangeAt Go.RowKit Go.Deep

theorem laidOut : laidOutB Tryz.prog = true := by kernel_rfl
def numM (v : Value) : Int := match v with | .int _ n => n | _ => 0
/-- A slice of pairs of bytes that came in. -/
def PairsW (w : World) (a : Option Addr) (n : Nat) (Q : Nat → Nat → Int) : Prop :=
  ∀ k, k < n → ∃ b off, a = some ⟨b, off, none⟩ ∧ b < w.heap.size ∧ ∀ j, j < 2 → w.cell? ⟨b, off + k * 2 + j, none⟩ = some (.int .u8 (Q k j)) ∧ (Lit.int .u8 (Q k j)).wf = true
theorem cellsU8M : Tryz.prog.cellsOf 5 = 1 := by kernel_rfl
theorem open_bytesw_arg {H : Type} {enc : TypeId × Value → H} {W : World} {a0 : Option Addr} {len cap : Nat} {d : DataW H} {ps : List MemPlace}
    (h : DataW.Trod enc Tryz.prog W 0 (fun _ => true) true 22 (.slice a0 len cap) d ps) : ∃ zs : List Int, zs.length = len ∧ zs.length ≤ 9223372036854775807 ∧ BytesW W a0 zs := by
  obtain ⟨fuel, hf⟩ := h
  rcases open_ints Tryz.underlying22 Tryz.underlying5 cellsU8M hf with ⟨hcs, hx⟩ | ⟨a, len', cap', zs, hcs, _, hl, hm, hz, hx, hcell, hwz⟩
  · simp [Value.cells] at hcs
    obtain ⟨rfl, rfl, rfl⟩ := hcs
    exact ⟨[], rfl, by simp, fun k hk => absurd hk (by simp)⟩
  · simp [Value.cells] at hcs
    obtain ⟨rfl, rfl, rfl⟩ := hcs
    simp only [if_true] at hz
    unfold maxLen at hm
    obtain ⟨b, off, spot⟩ := a
    have hlen : (zs.take len).length = len := by simp; omega
    refine ⟨zs.take len, hlen, by omega, fun k hk => ?_⟩
    have hspot : spot = none := by simpa [Addr.add] using World.cell?_spot (hcell 0 (by omega))
    subst hspot
    have hc := hcell k (by omega)
    have hg : (zs.take len).getD k 0 = zs.getD k 0 := by simp [List.getD, List.getElem?_take_of_lt (show k < len by omega)]
    rw [add_plain] at hc
    have hk2 : k < zs.length := by omega
    have hz2 : zs.getD k 0 = zs[k] := by simp [List.getD, hk2]
    have hw : (Lit.int .u8 zs[k]).wf = true := hwz _ (List.getElem_mem hk2)
    exact ⟨b, off, rfl, World.block_lt_of_cell? W _ hc, by rw [hg]; exact hc, by rw [hg, hz2]; exact hw⟩
theorem cellsEEdgesW : Tryz.prog.cellsOf 58 = 1 := by kernel_rfl
theorem cellsEPairsW : Tryz.prog.cellsOf 5 = 1 := by kernel_rfl
theorem cellsEdgesW : Tryz.prog.cellsOf 59 = 3 := by kernel_rfl
theorem open_edgesw_arg {H : Type} {enc : TypeId × Value → H} {W : World} {a0 : Option Addr} {len cap : Nat} {d : DataW H} {ps : List MemPlace}
    (h : DataW.Trod enc Tryz.prog W 0 (fun _ => true) true 23 (.slice a0 len cap) d ps) : ∃ Q : Nat → Nat → Int, len ≤ 9223372036854775807 ∧ EdgesW W a0 len Q := by
  obtain ⟨fuel, hf⟩ := h
  rcases open_slice Tryz.underlying23 hf with h0 | ⟨a, len', cap', m, n, D, Pl, hcs, hb, hl, hm, hmm, _, hx⟩
  · have hcs := h0.1
    simp [Value.cells] at hcs
    obtain ⟨rfl, rfl, rfl⟩ := hcs
    exact ⟨fun _ _ => 0, by omega, fun k hk => absurd hk (by omega)⟩
  · simp [Value.cells] at hcs
    obtain ⟨rfl, rfl, rfl⟩ := hcs
    simp only [if_true] at hmm
    subst hmm
    unfold maxLen at hm
    have hall : ∀ k, k < len → ∀ j, j < 3 → ∃ z, W.cell? (a.add (k * 3 + j)) = some (.int .u16 z) ∧ (Lit.int .u16 z).wf = true := fun k hk j hj => by
      obtain ⟨cs', h1, h2⟩ := hx k (by omega)
      rw [cellsEdgesW] at h1
      obtain ⟨_, hlen, hcell⟩ := World.cells?_some h1
      obtain ⟨xs, n2, _, _, _, hxl, hg⟩ := DataW.trod_array Tryz.underlying59 h2
      have hgj := hg j hj
      rw [cellsEEdgesW, Nat.mul_one] at hgj
      have hcj : cs'[j]? = some cs'[j] := List.getElem?_eq_getElem (by omega)
      have hdrop : (cs'.drop j).take 1 = [cs'[j]] := by
        rw [List.drop_eq_getElem_cons (by omega)]; rfl
      rw [hdrop, List.getElem?_eq_getElem (by omega)] at hgj
      obtain ⟨z, e0, _, wz⟩ := DataW.trod_int Tryz.underlying58 hgj
      have hc := hcell j (by omega)
      rw [add_add] at hc
      have e1 : cs'[j] = .int .u16 z := by simpa using e0
      rw [hcj, e1] at hc
      exact ⟨z, hc, wz⟩
    obtain ⟨b, off, spot⟩ := a
    refine ⟨fun k j => numM ((W.cell? ((⟨b, off, spot⟩ : Addr).add (k * 3 + j))).getD undef), by omega, fun k hk => ?_⟩
    have hspot : spot = none := by
      obtain ⟨z, hc, _⟩ := hall 0 (by omega) 0 (by decide)
      simpa [Addr.add] using World.cell?_spot hc
    subst hspot
    obtain ⟨z0, hc0, _⟩ := hall k hk 0 (by decide)
    rw [add_plain] at hc0
    refine ⟨b, off, rfl, World.block_lt_of_cell? W _ hc0, fun j hj => ?_⟩
    obtain ⟨z, hc, wz⟩ := hall k hk j hj
    have e2 : numM ((W.cell? ((⟨b, off, none⟩ : Addr).add (k * 3 + j))).getD undef) = z := by rw [hc]; rfl
    simp only [e2]
    rw [add_plain, ← Nat.add_assoc] at hc
    exact ⟨hc, wz⟩
section
set_option maxRecDepth 100000
variable {H : Type} {enc : TypeId × Value → H} {W : World}
theorem array2M {α : Type} {cs : Array α} (h : cs.size = 2) : ∃ c0 c1, cs = #[c0, c1] := by
  obtain ⟨l⟩ := cs
  match l, h with
  | [c0, c1], _ => exact ⟨c0, c1, rfl⟩
theorem list2M {α : Type} {xs : List α} (h : xs.length = 2) : ∃ c0 c1, xs = [c0, c1] := by
  match xs, h with
  | [c0, c1], _ => exact ⟨c0, c1, rfl⟩
theorem cellsGraph : Tryz.prog.cellsOf 25 = 2 := by kernel_rfl
theorem cellsSlB : Tryz.prog.cellsOf 22 = 1 := by kernel_rfl
theorem cellsSlE : Tryz.prog.cellsOf 23 = 1 := by kernel_rfl
theorem slice_of {t e : TypeId} (ht : Tryz.prog.underlying t = some (.slice e)) {n : Nat} {v : Value} {y : DataW H × List MemPlace} (h : DataW.trod enc Tryz.prog W 0 (fun _ => true) true n t [v] = some y) : ∃ a l c, v = .slice a l c := by
  rcases open_slice ht h with h0 | ⟨a, len', cap', m, n, D, Pl, hcs, _⟩
  · have hcs := h0.1
    exact ⟨none, 0, 0, by simpa using hcs⟩
  · exact ⟨some a, len', cap', by simpa using hcs⟩
theorem open_graph_arg {r : Reach} {b0 : Nat} {v : Value} {d : DataW H} {ps : List MemPlace} (hv : Value.okWide Tryz.prog W r b0 25 v)
    (h : DataW.Trod enc Tryz.prog W 0 (fun _ => true) true 25 v d ps) : ∃ (a0 : Option Addr) (zs : List Int) (cf : Nat) (e0 : Option Addr) (ne ce : Nat) (Q : Nat → Nat → Int), v = .agg #[.slice a0 zs.length cf, .slice e0 ne ce] ∧ BytesW W a0 zs ∧ EdgesW W e0 ne Q := by
  obtain ⟨cs, rfl, hsz⟩ := okWide_struct Tryz.underlying25 hv
  obtain ⟨c0, c1, rfl⟩ := array2M (hsz.trans cellsGraph)
  obtain ⟨fuel, hf⟩ := h
  obtain ⟨xs, n, _, _, _, hlen, hg⟩ := DataW.trod_struct Tryz.underlying25 hf
  obtain ⟨y0, y1, rfl⟩ := list2M hlen
  have g0 := hg 0 _ rfl
  have g1 := hg 1 _ rfl
  simp [cellsSlB, cellsSlE, Value.cells] at g0 g1
  obtain ⟨a, l, c, rfl⟩ := slice_of Tryz.underlying22 g0
  obtain ⟨a', l', c', rfl⟩ := slice_of Tryz.underlying23 g1
  obtain ⟨zs, rfl, _, hz⟩ := open_bytesw_arg (a0 := a) (len := l) (cap := c) (d := y0.1) (ps := y0.2) ⟨n, by simpa [Value.cells] using g0⟩
  obtain ⟨Q, _, hq⟩ := open_edgesw_arg (a0 := a') (len := l') (cap := c') (d := y1.1) (ps := y1.2) ⟨n, by simpa [Value.cells] using g1⟩
  exact ⟨a, zs, c, a', l', c', Q, rfl, hz, hq⟩
end
end Go.Proofs.YtidpmplkbgllfaaGreatDoor
