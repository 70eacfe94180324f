/- Slices of deeds (structs of four ints) as arguments, at this seat's numbers. -/
import Derived.Test.YtoemfehlnnbjdaaDoorArgsC
namespace Go.Proofs.YtoemfehlnnbjdaaDoor
open Go.ChangeShapes Go.WideShapes Go.ChangeAt Go.RowKit Go.Deep

section
variable {H : Type} {enc : TypeId × Value → H} {P : Program} {w : World} {base : Nat} {spare : Nat → Bool} {held : Bool}
theorem open_slice_quads {t e : TypeId} {f0 f1 f2 f3 : Field} {fuel : Nat} {cs : List Value} {x : DataW H × List MemPlace} (ht : P.underlying t = some (.slice e)) (he : P.underlying e = some (.struct #[f0, f1, f2, f3]))
    (ce : P.cellsOf e = 4) (o0 : f0.offset = 0) (o1 : f1.offset = 1) (o2 : f2.offset = 2) (o3 : f3.offset = 3) (c0 : P.cellsOf f0.type = 1) (c1 : P.cellsOf f1.type = 1) (c2 : P.cellsOf f2.type = 1) (c3 : P.cellsOf f3.type = 1)
    (h : DataW.trod enc P w base spare held fuel t cs = some x) :
    cs = [.slice none 0 0] ∨ ∃ (a : Addr) (len cap m n : Nat), cs = [.slice (some a) len cap] ∧ len ≤ cap ∧ cap ≤ maxLen ∧ m = (if spare a.block then cap else len) ∧
      ∀ i, i < m → ∃ (v : Fin 4 → Value) (y : Fin 4 → DataW H × List MemPlace), (∀ j : Fin 4, w.cell? (a.add (i * 4 + j.val)) = some (v j)) ∧
        DataW.trod enc P w base spare held n f0.type [v 0] = some (y 0) ∧ DataW.trod enc P w base spare held n f1.type [v 1] = some (y 1) ∧ DataW.trod enc P w base spare held n f2.type [v 2] = some (y 2) ∧ DataW.trod enc P w base spare held n f3.type [v 3] = some (y 3) := by
  rcases open_slice ht h with h0 | ⟨a, len, cap, m, n, D, Pl, rfl, hb, hl, hm, hmm, rfl, hx⟩
  · exact .inl h0.1
  refine .inr ⟨a, len, cap, m, n - 1, rfl, hl, hm, hmm, fun i hi => ?_⟩
  obtain ⟨cs', h1, h2⟩ := hx i hi
  rw [ce] at h1
  obtain ⟨_, hlen, hcell⟩ := World.cells?_some h1
  obtain ⟨xs, k, hk, hxy, _, hxl, hf⟩ := DataW.trod_struct he h2
  have hk' : k = n - 1 := by omega
  subst hk'
  match xs, hxl, cs', hlen with
  | [y0, y1, y2, y3], _, [v0, v1, v2, v3], _ =>
    have g0 := hf 0 f0 rfl
    have g1 := hf 1 f1 rfl
    have g2 := hf 2 f2 rfl
    have g3 := hf 3 f3 rfl
    simp [o0, o1, o2, o3, c0, c1, c2, c3] at g0 g1 g2 g3
    have e0 := hcell 0 (by omega)
    have e1 := hcell 1 (by omega)
    have e2 := hcell 2 (by omega)
    have e3 := hcell 3 (by omega)
    rw [add_add] at e0 e1 e2 e3
    refine ⟨fun j => [v0, v1, v2, v3].getD j.val undef, fun j => [y0, y1, y2, y3].getD j.val default, fun j => ?_, g0, g1, g2, g3⟩
    match j with
    | ⟨0, _⟩ => simpa using e0
    | ⟨1, _⟩ => simpa using e1
    | ⟨2, _⟩ => simpa using e2
    | ⟨3, _⟩ => simpa using e3
end

/-- A slice of deeds that came in: each of its four numbers. -/
def DeedsAt (w : World) (a : Option Addr) (n : Nat) (Q : Nat → Nat → Int) : Prop :=
  ∀ k, k < n → ∃ b off, a = some ⟨b, off, none⟩ ∧ b < w.heap.size ∧ ∀ j, j < 4 → w.cell? ⟨b, off + k * 4 + j, none⟩ = some (.int .i64 (Q k j)) ∧ (Lit.int .i64 (Q k j)).wf = true
theorem cellsDeed : Tryd.prog.cellsOf 81 = 4 := by kernel_rfl
theorem open_deeds_arg {H : Type} {enc : TypeId × Value → H} {W : World} {a0 : Option Addr} {len cap : Nat} {d : DataW H} {ps : List MemPlace}
    (h : DataW.Trod enc Tryd.prog W 0 (fun _ => true) true 22 (.slice a0 len cap) d ps) : ∃ Q : Nat → Nat → Int, len ≤ 9223372036854775807 ∧ DeedsAt W a0 len Q := by
  obtain ⟨fuel, hf⟩ := h
  rcases open_slice_quads Tryd.underlying22 Tryd.underlying81 cellsDeed rfl rfl rfl rfl cellsIntC cellsIntC cellsIntC cellsIntC hf with hcs | ⟨a, len', cap', m, n, hcs, hl, hm, hmm, hall⟩
  · simp [Value.cells] at hcs
    obtain ⟨rfl, rfl, rfl⟩ := hcs
    exact ⟨fun _ _ => 0, by omega, fun k hk => absurd hk (by omega)⟩
  · simp [Value.cells] at hcs
    obtain ⟨rfl, rfl, rfl⟩ := hcs
    simp only [if_true] at hmm
    subst hmm
    unfold maxLen at hm
    refine ⟨fun k j => numV ((W.cell? (a.add (k * 4 + j))).getD undef), by omega, fun k hk => ?_⟩
    obtain ⟨b, off, spot⟩ := a
    have hspot : spot = none := by
      obtain ⟨v, y, hc, _⟩ := hall 0 (by omega)
      have := hc 0
      simpa [Addr.add] using World.cell?_spot this
    subst hspot
    obtain ⟨v, y, hc, t0, t1, t2, t3⟩ := hall k (by omega)
    have hv : ∀ j : Fin 4, ∃ z, v j = .int .i64 z ∧ (Lit.int .i64 z).wf = true := fun j => by
      match j with
      | ⟨0, _⟩ => obtain ⟨z, e, _, wf⟩ := DataW.trod_int Tryd.underlying3 t0; exact ⟨z, by simpa using e, wf⟩
      | ⟨1, _⟩ => obtain ⟨z, e, _, wf⟩ := DataW.trod_int Tryd.underlying3 t1; exact ⟨z, by simpa using e, wf⟩
      | ⟨2, _⟩ => obtain ⟨z, e, _, wf⟩ := DataW.trod_int Tryd.underlying3 t2; exact ⟨z, by simpa using e, wf⟩
      | ⟨3, _⟩ => obtain ⟨z, e, _, wf⟩ := DataW.trod_int Tryd.underlying3 t3; exact ⟨z, by simpa using e, wf⟩
    have h0 := hc 0
    rw [add_plain] at h0
    refine ⟨b, off, rfl, World.block_lt_of_cell? W _ h0, fun j hj => ?_⟩
    have hcj := hc ⟨j, hj⟩
    obtain ⟨z, hz, hw⟩ := hv ⟨j, hj⟩
    rw [hz] at hcj
    have e2 : numV ((W.cell? ((⟨b, off, none⟩ : Addr).add (k * 4 + j))).getD undef) = z := by rw [hcj]; rfl
    simp only [e2]
    rw [add_plain, ← Nat.add_assoc] at hcj
    exact ⟨hcj, hw⟩
end Go.Proofs.YtoemfehlnnbjdaaDoor
