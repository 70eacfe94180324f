/- Two slices of bytes in one array, as an argument; at this seat's numbers. -/
import Derived.Test.YtooddbhlanjfbaaGreatDoorArgsZ
namespace Go.Proofs.YtooddbhlanjfbaaGreatDoor
open Go Go.ChangeShapes Go.WideShapes Go.ChangeAt Go.RowKit Go.Deep
set_option linter.unusedVariables false
section
set_option maxRecDepth 100000
variable {H : Type} {enc : TypeId × Value → H} {W : World}
theorem bytesw_in {a0 : Option Addr} {len cap fuel : Nat} {d : DataW H} {ps : List MemPlace} (hf : DataW.trod enc Tryz.prog W 0 (fun _ => true) true fuel 23 (Value.slice a0 len cap).cells.toList = some (d, ps)) (hz : ∀ n ∈ d.weights Tryz.prog 23, n ≤ reachBytes) : len ≤ reachBytes := by
  rcases open_ints Tryz.underlying23 Tryz.underlying5 cellsU8M hf with ⟨hcs, hx⟩ | ⟨a, len', cap', zs, hcs, _, hl, hm, hlz, hx, _, _⟩
  · simp [Value.cells] at hcs
    obtain ⟨rfl, rfl, rfl⟩ := hcs
    exact Nat.zero_le _
  · simp [Value.cells] at hcs
    obtain ⟨rfl, rfl, rfl⟩ := hcs
    have hd2 := congrArg Prod.fst hx
    simp only at hd2
    subst hd2
    have h1 := hz _ (by unfold DataW.weights; rw [Tryz.underlying23]; exact List.mem_cons_self)
    rw [bytesU8M, Nat.mul_one] at h1
    simp [lits] at h1
    simp only [if_true] at hlz
    omega
theorem cellsTwoS : Tryz.prog.cellsOf 69 = 2 := by kernel_rfl
theorem open_twos_arg {r : Reach} {b0 : Nat} {v : Value} {d : DataW H} {ps : List MemPlace} {ts : List TypeId} {ds : List (DataW H)} (hv : Value.okWide Tryz.prog W r b0 69 v)
    (h : DataW.Trod enc Tryz.prog W 0 (fun _ => true) true 69 v d ps) (hz : (DataW.weightsEach Tryz.prog ts ds).all (· ≤ reachBytes) = true) {j : Nat} (ht : ts[j]? = some 69) (hd : ds[j]? = some d) :
    ∃ (a1 : Option Addr) (us : List Int) (c1 : Nat) (a2 : Option Addr) (vs : List Int) (c2 : Nat), v = .agg #[.slice a1 us.length c1, .slice a2 vs.length c2] ∧ us.length + vs.length ≤ 9223372036854775807 ∧ BytesW W a1 us ∧ BytesW W a2 vs := by
  have hv2 := hv
  simp only [Value.okWide, Tryz.underlying69] at hv2
  obtain ⟨cs, rfl, hsz, _⟩ := hv2
  obtain ⟨c0, c1, rfl⟩ := array2M (hsz.trans cellsTwoS)
  obtain ⟨fuel, hf⟩ := h
  obtain ⟨xs, n, hn, hdd, hps, hlen, hg⟩ := DataW.trod_array Tryz.underlying69 hf
  obtain ⟨y0, y1, rfl⟩ := list2M hlen
  have g0 := hg 0 (by decide)
  have g1 := hg 1 (by decide)
  simp [cellsSlB, Value.cells] at g0 g1
  obtain ⟨a, l, c, rfl⟩ := slice_of Tryz.underlying23 g0
  obtain ⟨a', l', c', rfl⟩ := slice_of Tryz.underlying23 g1
  have hd2 := congrArg Prod.fst hdd
  simp only [List.map_cons, List.map_nil] at hd2
  subst hd2
  have all := DataW.weights_mem_each (P := Tryz.prog) ht hd
  have hw : ∀ n ∈ (DataW.agg [y0.1, y1.1]).weights Tryz.prog 69, n ≤ reachBytes := fun m hm => by
    have h1 := List.all_eq_true.1 hz m (all m hm)
    exact of_decide_eq_true h1
  unfold DataW.weights at hw
  simp only [Tryz.underlying69] at hw
  obtain ⟨us, rfl, _, hu⟩ := open_bytesw_arg (a0 := a) (len := l) (cap := c) (d := y0.1) (ps := y0.2) ⟨n, by simpa [Value.cells] using g0⟩
  obtain ⟨vs, rfl, _, hv⟩ := open_bytesw_arg (a0 := a') (len := l') (cap := c') (d := y1.1) (ps := y1.2) ⟨n, by simpa [Value.cells] using g1⟩
  have l0 := bytesw_in (a0 := a) (cap := c) (d := y0.1) (ps := y0.2) (by simpa [Value.cells] using g0) (fun m hm => hw m (by unfold DataW.weightsAll; exact List.mem_append_left _ hm))
  have l1 := bytesw_in (a0 := a') (cap := c') (d := y1.1) (ps := y1.2) (by simpa [Value.cells] using g1) (fun m hm => hw m (by unfold DataW.weightsAll; exact List.mem_append_right _ (by unfold DataW.weightsAll; exact List.mem_append_left _ hm)))
  exact ⟨a, us, c, a', vs, c', rfl, bytesw_sum l0 l1, hu, hv⟩
end
end Go.Proofs.YtooddbhlanjfbaaGreatDoor
