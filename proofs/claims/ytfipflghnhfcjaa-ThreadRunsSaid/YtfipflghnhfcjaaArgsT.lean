/- Slices of references, of bools, and of deeds (three numbers), as arguments, at this seat's numbers. -/
import Derived.Test.YtfipflghnhfcjaaRows
import Derived.Test.YtfipflghnhfcjaaThB
import Derived.ProofKit
import Derived.ChangeSlices
import Derived.Deep.SlicePairs
import Derived.Below
namespace Go.Proofs.Ytfipflghnhfcjaa
open Go.ChangeShapes Go.WideShapes Go.ChangeAt Go.RowKit Go.Deep

theorem laidOut : laidOutB Try.prog = true := by kernel_rfl
theorem cellsIntC : Try.prog.cellsOf 3 = 1 := by kernel_rfl
def numV (v : Value) : Int := match v with | .int _ n => n | _ => 0
/-- A slice of references that came in: each of its cells. -/
def RefsAtW (w : World) (a : Option Addr) (zs : List Int) : Prop :=
  ∀ k, k < zs.length → ∃ b off, a = some ⟨b, off, none⟩ ∧ b < w.heap.size ∧ w.cell? ⟨b, off + k, none⟩ = some (.int .i64 (zs.getD k 0)) ∧ (Lit.int .i64 (zs.getD k 0)).wf = true

theorem cellsRefI : Try.prog.cellsOf 30 = 1 := by kernel_rfl
theorem open_refs_arg {H : Type} {enc : TypeId × Value → H} {W : World} {a0 : Option Addr} {len cap : Nat} {d : DataW H} {ps : List MemPlace}
    (h : DataW.Trod enc Try.prog W 0 (fun _ => true) true 40 (.slice a0 len cap) d ps) : ∃ zs : List Int, zs.length = len ∧ zs.length ≤ 9223372036854775807 ∧ RefsAtW W a0 zs := by
  obtain ⟨fuel, hf⟩ := h
  rcases open_ints Try.underlying40 Try.underlying30 cellsRefI hf with ⟨hcs, hx⟩ | ⟨a, len', cap', zs, hcs, _, hl, hm, hz, hx, hcell, hwz⟩
  · simp [Value.cells] at hcs
    obtain ⟨rfl, rfl, rfl⟩ := hcs
    exact ⟨[], rfl, by simp, fun k hk => absurd hk (by simp)⟩
  · simp [Value.cells] at hcs
    obtain ⟨rfl, rfl, rfl⟩ := hcs
    simp only [if_true] at hz
    unfold maxLen at hm
    obtain ⟨b, off, spot⟩ := a
    have hlen : (zs.take len).length = len := by simp; omega
    refine ⟨zs.take len, hlen, by omega, fun k hk => ?_⟩
    have hspot : spot = none := by simpa [Addr.add] using World.cell?_spot (hcell 0 (by omega))
    subst hspot
    have hc := hcell k (by omega)
    have hg : (zs.take len).getD k 0 = zs.getD k 0 := by simp [List.getD, List.getElem?_take_of_lt (show k < len by omega)]
    rw [add_plain] at hc
    have hk2 : k < zs.length := by omega
    have hz2 : zs.getD k 0 = zs[k] := by simp [List.getD, hk2]
    have hw : (Lit.int .i64 zs[k]).wf = true := hwz _ (List.getElem_mem hk2)
    exact ⟨b, off, rfl, World.block_lt_of_cell? W _ hc, by rw [hg]; exact hc, by rw [hg, hz2]; exact hw⟩
section
variable {H : Type} {enc : TypeId × Value → H} {P : Program} {w : World} {base : Nat} {spare : Nat → Bool} {held : Bool}
theorem open_slice_triples {t e : TypeId} {f0 f1 f2 : Field} {fuel : Nat} {cs : List Value} {x : DataW H × List MemPlace} (ht : P.underlying t = some (.slice e)) (he : P.underlying e = some (.struct #[f0, f1, f2]))
    (ce : P.cellsOf e = 3) (o0 : f0.offset = 0) (o1 : f1.offset = 1) (o2 : f2.offset = 2) (c0 : P.cellsOf f0.type = 1) (c1 : P.cellsOf f1.type = 1) (c2 : P.cellsOf f2.type = 1)
    (h : DataW.trod enc P w base spare held fuel t cs = some x) :
    cs = [.slice none 0 0] ∨ ∃ (a : Addr) (len cap m n : Nat), cs = [.slice (some a) len cap] ∧ len ≤ cap ∧ cap ≤ maxLen ∧ m = (if spare a.block then cap else len) ∧
      ∀ i, i < m → ∃ (v : Fin 3 → Value) (y : Fin 3 → DataW H × List MemPlace), (∀ j : Fin 3, w.cell? (a.add (i * 3 + j.val)) = some (v j)) ∧
        DataW.trod enc P w base spare held n f0.type [v 0] = some (y 0) ∧ DataW.trod enc P w base spare held n f1.type [v 1] = some (y 1) ∧ DataW.trod enc P w base spare held n f2.type [v 2] = some (y 2) := by
  rcases open_slice ht h with h0 | ⟨a, len, cap, m, n, D, Pl, rfl, hb, hl, hm, hmm, rfl, hx⟩
  · exact .inl h0.1
  refine .inr ⟨a, len, cap, m, n - 1, rfl, hl, hm, hmm, fun i hi => ?_⟩
  obtain ⟨cs', h1, h2⟩ := hx i hi
  rw [ce] at h1
  obtain ⟨_, hlen, hcell⟩ := World.cells?_some h1
  obtain ⟨xs, k, hk, hxy, _, hxl, hf⟩ := DataW.trod_struct he h2
  have hk' : k = n - 1 := by omega
  subst hk'
  match xs, hxl, cs', hlen with
  | [y0, y1, y2], _, [v0, v1, v2], _ =>
    have g0 := hf 0 f0 rfl
    have g1 := hf 1 f1 rfl
    have g2 := hf 2 f2 rfl
    simp [o0, o1, o2, c0, c1, c2] at g0 g1 g2
    have e0 := hcell 0 (by omega)
    have e1 := hcell 1 (by omega)
    have e2 := hcell 2 (by omega)
    rw [add_add] at e0 e1 e2
    refine ⟨fun j => [v0, v1, v2].getD j.val undef, fun j => [y0, y1, y2].getD j.val default, fun j => ?_, g0, g1, g2⟩
    match j with
    | ⟨0, _⟩ => simpa using e0
    | ⟨1, _⟩ => simpa using e1
    | ⟨2, _⟩ => simpa using e2
end

/-- A slice of deeds that came in: each of its three numbers. -/
def TripAt (w : World) (a : Option Addr) (n : Nat) (Q : Nat → Nat → Int) : Prop :=
  ∀ k, k < n → ∃ b off, a = some ⟨b, off, none⟩ ∧ b < w.heap.size ∧ ∀ j, j < 3 → w.cell? ⟨b, off + k * 3 + j, none⟩ = some (.int .i64 (Q k j)) ∧ (Lit.int .i64 (Q k j)).wf = true
theorem cellsTrip : Try.prog.cellsOf 42 = 3 := by kernel_rfl
theorem open_trips_arg {H : Type} {enc : TypeId × Value → H} {W : World} {a0 : Option Addr} {len cap : Nat} {d : DataW H} {ps : List MemPlace}
    (h : DataW.Trod enc Try.prog W 0 (fun _ => true) true 37 (.slice a0 len cap) d ps) : ∃ Q : Nat → Nat → Int, len ≤ 9223372036854775807 ∧ TripAt W a0 len Q := by
  obtain ⟨fuel, hf⟩ := h
  rcases open_slice_triples Try.underlying37 Try.underlying42 cellsTrip rfl rfl rfl cellsIntC cellsIntC cellsRefI hf with hcs | ⟨a, len', cap', m, n, hcs, hl, hm, hmm, hall⟩
  · simp [Value.cells] at hcs
    obtain ⟨rfl, rfl, rfl⟩ := hcs
    exact ⟨fun _ _ => 0, by omega, fun k hk => absurd hk (by omega)⟩
  · simp [Value.cells] at hcs
    obtain ⟨rfl, rfl, rfl⟩ := hcs
    simp only [if_true] at hmm
    subst hmm
    unfold maxLen at hm
    refine ⟨fun k j => numV ((W.cell? (a.add (k * 3 + j))).getD undef), by omega, fun k hk => ?_⟩
    obtain ⟨b, off, spot⟩ := a
    have hspot : spot = none := by
      obtain ⟨v, y, hc, _⟩ := hall 0 (by omega)
      have := hc 0
      simpa [Addr.add] using World.cell?_spot this
    subst hspot
    obtain ⟨v, y, hc, t0, t1, t2⟩ := hall k (by omega)
    have hv : ∀ j : Fin 3, ∃ z, v j = .int .i64 z ∧ (Lit.int .i64 z).wf = true := fun j => by
      match j with
      | ⟨0, _⟩ => obtain ⟨z, e, _, wf⟩ := DataW.trod_int Try.underlying3 t0; exact ⟨z, by simpa using e, wf⟩
      | ⟨1, _⟩ => obtain ⟨z, e, _, wf⟩ := DataW.trod_int Try.underlying3 t1; exact ⟨z, by simpa using e, wf⟩
      | ⟨2, _⟩ => obtain ⟨z, e, _, wf⟩ := DataW.trod_int Try.underlying30 t2; exact ⟨z, by simpa using e, wf⟩
    have h0 := hc 0
    rw [add_plain] at h0
    refine ⟨b, off, rfl, World.block_lt_of_cell? W _ h0, fun j hj => ?_⟩
    have hcj := hc ⟨j, hj⟩
    obtain ⟨z, hz, hw⟩ := hv ⟨j, hj⟩
    rw [hz] at hcj
    have e2 : numV ((W.cell? ((⟨b, off, none⟩ : Addr).add (k * 3 + j))).getD undef) = z := by rw [hcj]; rfl
    simp only [e2]
    rw [add_plain, ← Nat.add_assoc] at hcj
    exact ⟨hcj, hw⟩

/-- A slice of bools that came in. -/
def BoolsAt (w : World) (a : Option Addr) (bs : List Bool) : Prop :=
  ∀ k, k < bs.length → ∃ b off, a = some ⟨b, off, none⟩ ∧ b < w.heap.size ∧ w.cell? ⟨b, off + k, none⟩ = some (.bool (bs.getD k false))
def boolV (v : Value) : Bool := match v with | .bool b => b | _ => false
theorem cellsBool : Try.prog.cellsOf 4 = 1 := by kernel_rfl
theorem open_bools_arg {H : Type} {enc : TypeId × Value → H} {W : World} {a0 : Option Addr} {len cap : Nat} {d : DataW H} {ps : List MemPlace}
    (h : DataW.Trod enc Try.prog W 0 (fun _ => true) true 57 (.slice a0 len cap) d ps) : ∃ bs : List Bool, bs.length = len ∧ bs.length ≤ 9223372036854775807 ∧ BoolsAt W a0 bs := by
  obtain ⟨fuel, hf⟩ := h
  rcases open_slice Try.underlying57 hf with h0 | ⟨a, len', cap', m, n, D, Pl, hcs, hb, hl, hm, hmm, _, hx⟩
  · have hcs := h0.1
    simp [Value.cells] at hcs
    obtain ⟨rfl, rfl, rfl⟩ := hcs
    exact ⟨[], rfl, by simp, fun k hk => absurd hk (by simp)⟩
  · simp [Value.cells] at hcs
    obtain ⟨rfl, rfl, rfl⟩ := hcs
    simp only [if_true] at hmm
    subst hmm
    unfold maxLen at hm
    have hall : ∀ k, k < len → ∃ b, W.cell? (a.add k) = some (.bool b) := fun k hk => by
      obtain ⟨cs', h1, h2⟩ := hx k (by omega)
      rw [cellsBool] at h1
      obtain ⟨_, hlen, hcell⟩ := World.cells?_some h1
      obtain ⟨b, e, _⟩ := DataW.trod_bool Try.underlying4 h2
      subst e
      have e0 := hcell 0 (by omega)
      rw [add_add] at e0
      exact ⟨b, by simpa using e0⟩
    obtain ⟨b, off, spot⟩ := a
    refine ⟨(List.range len).map fun k => boolV ((W.cell? ((⟨b, off, spot⟩ : Addr).add k)).getD undef), by simp, by simp; omega, fun k hk => ?_⟩
    have hk2 : k < len := by simpa using hk
    have hspot : spot = none := by
      obtain ⟨_, hc⟩ := hall 0 (by omega)
      simpa [Addr.add] using World.cell?_spot hc
    subst hspot
    obtain ⟨q, hc⟩ := hall k hk2
    have e2 : ((List.range len).map fun k => boolV ((W.cell? ((⟨b, off, none⟩ : Addr).add k)).getD undef)).getD k false = q := by
      simp [List.getD, hk2, hc, boolV]
    rw [e2]
    rw [add_plain] at hc
    exact ⟨b, off, rfl, World.block_lt_of_cell? W _ hc, hc⟩
end Go.Proofs.Ytfipflghnhfcjaa
