/- law 15's write: a write of raw numbers; at this seat's numbers. -/
import Derived.Test.YtooddbhlanjfbaaGreatDoorUv
import Derived.Test.YtooddbhlanjfbaaGreatDoorUm
namespace Go.Proofs.YtooddbhlanjfbaaGreatDoor
open Go Go.RowKit Go.Shelf Go.MuLone Go.RwLone
set_option linter.unusedSimpArgs false
set_option linter.unusedVariables false
attribute [local go_sem] Oper.semAt_some

theorem mod_run {q L : Nat} (hL : 0 < L) (hq : q < 256) : ∃ i : Nat, (q : Int).tmod (L : Int) = (i : Int) ∧ i < L ∧ IntKind.i64.wrap (q : Int) = (q : Int) :=
  ⟨q % L, by rw [Int.tmod_eq_emod_of_nonneg (by omega)]; omega, Nat.mod_lt _ hL, by simp [IntKind.wrap, IntKind.bits, IntKind.signed]; omega⟩
/-- What write answers. -/
def WriteIs (R : List Int) (w : World) (e : Ending) (w' : World) : Prop :=
  ∃ (x o y : Int) (p : Bool), e = .returned (.agg #[.int .i64 x, .int .i64 o, .int .i64 y, .bool p, .bool false]) ∧ x ∈ R ∧ (o ∈ R ∨ o = 0) ∧ (y ∈ R ∨ y = 0) ∧ Below w.heap.size w w'
end Go.Proofs.YtooddbhlanjfbaaGreatDoor
