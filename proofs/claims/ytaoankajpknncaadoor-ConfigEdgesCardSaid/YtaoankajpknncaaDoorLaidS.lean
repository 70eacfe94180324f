/- What the seat's listed variable gives, at this seat's numbers: the engines' names; and a heap that has them. -/
import Derived.Test.YtaoankajpknncaaDoorRows
import Derived.Test.YtaoankajpknncaaDoorCfA
import Derived.Lib.LaidTab
import Derived.LaidMore
import Derived.MakeChecks
import Derived.ProofKit
import Derived.ChangeOld
namespace Go.Proofs.YtaoankajpknncaaDoor
open Go Go.RowKit Go.ChangeShapes Go.WideShapes

abbrev nm0 : ByteArray := ⟨#[115, 116, 101, 101, 108, 101]⟩
abbrev nm1 : ByteArray := ⟨#[100, 105, 106, 107, 115, 116, 114, 97]⟩
abbrev nm2 : ByteArray := ⟨#[121, 117, 97, 115, 97]⟩
abbrev nm3 : ByteArray := ⟨#[118, 121, 98]⟩
def NamesAt (w : World) : Prop := ∃ T fr, w.heap[0]? = some (.cells #[.string nm0, .string nm1, .string nm2, .string nm3] T fr)

theorem laidOut : laidOutB Tryd.prog = true := by kernel_rfl
theorem own : ownKnob Tryd.prog.godebug = none := by kernel_rfl
abbrev theLaid : List (String × DataW Unit) := [("hawthorn/config.engines", Rows.laid_hawthorn_config_engines)]

theorem list4 {α : Type} {xs : List α} (h : xs.length = 4) : ∃ c0 c1 c2 c3, xs = [c0, c1, c2, c3] := by
  match xs, h with
  | [c0, c1, c2, c3], _ => exact ⟨c0, c1, c2, c3, rfl⟩
theorem cellsNames : Tryd.prog.cellsOf 53 = 4 := by kernel_rfl
theorem cellsStr : Tryd.prog.cellsOf 9 = 1 := by kernel_rfl
theorem str_of {H : Type} {enc : TypeId × Value → H} {W : World} {base : Nat} {sp : Nat → Bool} {held : Bool} {n : Nat} {v : Value} {y : DataW H × List MemPlace} {l : List UInt8}
    (h : DataW.trod enc Tryd.prog W base sp held n 9 [v] = some y) (hy : y.1 = .lit (.string l)) : v = .string ⟨l.toArray⟩ := by
  obtain ⟨s, e0, rfl, _⟩ := DataW.trod_string Tryd.underlying9 h
  simp only [DataW.lit.injEq, Lit.string.injEq] at hy
  subst hy
  obtain ⟨⟨x⟩⟩ := s
  simpa using e0

theorem laid_tab {W : World} (h : laidMetH Tryd.prog theLaid W) : NamesAt W := by
  rw [MakeChecks.laidMetH_plain _ _ _ (by kernel_rfl)] at h
  obtain ⟨ps, ⟨g', t', cs, fuel, p, q, hg', ht', hvar, hd, _, _⟩, _⟩ := h
  obtain rfl := Option.some.inj ((show Tryd.prog.globalNamed "hawthorn/config.engines" = some 0 by kernel_rfl).symm.trans hg')
  obtain rfl := Option.some.inj ((show (Tryd.prog.globals[0]?).map (·.type) = some 53 by kernel_rfl).symm.trans ht')
  unfold World.var? at hvar
  rw [hg'] at hvar
  simp only [Option.bind_some] at hvar
  obtain ⟨xs, m, _, hx, hl, hlen, hg⟩ := DataW.trod_array Tryd.underlying53 hd
  obtain ⟨y0, y1, y2, y3, rfl⟩ := list4 hlen
  rw [cellsNames] at hl
  obtain ⟨c0, c1, c2, c3, hcs⟩ := list4 hl
  rw [hcs] at hg
  have g0 := hg 0 (by decide)
  have g1 := hg 1 (by decide)
  have g2 := hg 2 (by decide)
  have g3 := hg 3 (by decide)
  simp [cellsStr] at g0 g1 g2 g3
  have hx1 := congrArg Prod.fst hx
  simp only [Rows.laid_hawthorn_config_engines, List.map_cons, List.map_nil, DataW.agg.injEq, List.cons.injEq, and_true] at hx1
  obtain ⟨e0, e1, e2, e3⟩ := hx1
  rw [str_of g0 e0.symm, str_of g1 e1.symm, str_of g2 e2.symm, str_of g3 e3.symm] at hcs
  have hcs2 : cs = #[.string nm0, .string nm1, .string nm2, .string nm3] := Array.ext' hcs
  subst hcs2
  split at hvar
  · rename_i cs2 T fr hh
    cases hvar
    exact ⟨T, fr, hh⟩
  · cases hvar

/-- The door's own heap meets the condition. -/
theorem door_met (os : Os) (args : Array Value) : laidMetH Tryd.prog theLaid ((World.doorLaid Tryd.prog 400 os).forCall (fun _ _ => 0) ⟨#[], args, []⟩).memory :=
  laidMetH_of_parts3 (fuel := 8) (laidMet_of_run' 8 (by kernel_rfl) (by kernel_rfl)) (by kernel_rfl) (by kernel_rfl)
end Go.Proofs.YtaoankajpknncaaDoor
