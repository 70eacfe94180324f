/- A map's keys of type [2]int, at this seat's numbers. -/
import Derived.Test.YtlloanoohphgcaaDoorMdA
import Derived.DeepKeys4
namespace Go.Proofs.YtlloanoohphgcaaDoor
open Go Go.RowKit Go.Maps
set_option linter.unusedSimpArgs false

theorem keyPair : Keyed Tryd.prog 50 :=
  Keyed.of_law (deep_law_laid (m := 2) (by kernel_rfl) (by omega) (of_decide_eq_true (by kernel_rfl)) (by kernel_rfl) (by kernel_rfl))
theorem pair_fuel : ∃ m, Tryd.prog.types.size = m + 1 := ⟨Tryd.prog.types.size - 1, by
  have : 0 < Tryd.prog.types.size := of_decide_eq_true (by kernel_rfl)
  omega⟩
theorem pair_key : Tryd.prog.keyType 50 = true := by kernel_rfl
theorem pair_cells : Tryd.prog.cellsOf 50 = 2 := by kernel_rfl
theorem int_cells : Tryd.prog.cellsOf 3 = 1 := by kernel_rfl
/-- How the key (a, b) is written. -/
def pairLit (a b : Int) : Lit := .string (keyBytes [.int .i64 a, .int .i64 b])
theorem pair_lit {a b : Int} (ha : (Lit.int .i64 a).wf = true) (hb : (Lit.int .i64 b).wf = true) : keyOf Tryd.prog 50 (.agg #[.int .i64 a, .int .i64 b]) = some (pairLit a b) := by
  obtain ⟨m, hm⟩ := pair_fuel
  have h1 : ∀ x : Int, (Lit.int .i64 x).wf = true → Tryd.prog.keyLits (m + 1) 3 [.int .i64 x] = some [.int .i64 x] := fun x hx => by
    simp [Program.keyLits, Tryd.underlying3, hx]
  have hf : (Value.agg #[.int .i64 a, .int .i64 b]).formed Tryd.prog 50 = true := by simp [Value.formed, Tryd.underlying50, pair_cells]
  have h2 : Tryd.prog.keyLits (m + 1 + 1) 50 [.int .i64 a, .int .i64 b] = some [.int .i64 a, .int .i64 b] := by
    unfold Program.keyLits
    simp [Tryd.underlying50, pair_cells, int_cells, List.range_succ, h1 a ha, h1 b hb]
  unfold keyOf
  simp [Tryd.underlying50, pair_key, hf, hm, h2, Value.cells, pairLit]
theorem pair_ne {a b c d : Int} (ha : (Lit.int .i64 a).wf = true) (hb : (Lit.int .i64 b).wf = true) (hc : (Lit.int .i64 c).wf = true) (hd : (Lit.int .i64 d).wf = true) (h : ¬ (a = c ∧ b = d)) : pairLit a b ≠ pairLit c d := fun e => by
  have := keyPair.inj (pair_lit ha hb) (e ▸ pair_lit hc hd)
  simp at this
  exact h this
end Go.Proofs.YtlloanoohphgcaaDoor
