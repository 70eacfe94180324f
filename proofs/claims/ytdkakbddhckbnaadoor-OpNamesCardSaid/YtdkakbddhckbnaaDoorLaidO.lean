/- What the seat's listed variable gives, at this seat's numbers: the table of operations; and a heap that has it. -/
import Derived.Test.YtdkakbddhckbnaaDoorRows
import Derived.Test.YtdkakbddhckbnaaDoorOpA
import Derived.Lib.LaidTab
import Derived.LaidMore
import Derived.MakeChecks
import Derived.ProofKit
import Derived.ChangeOld
namespace Go.Proofs.YtdkakbddhckbnaaDoor
open Go Go.RowKit Go.ChangeShapes Go.WideShapes

theorem laidOut : laidOutB Tryd.prog = true := by kernel_rfl
theorem own : ownKnob Tryd.prog.godebug = none := by kernel_rfl
abbrev theLaid : List (String × DataW Unit) := [("hawthorn/op.operations", Rows.laid_hawthorn_op_operations)]

theorem list13 {α : Type} {xs : List α} (h : xs.length = 13) : ∃ c0 c1 c2 c3 c4 c5 c6 c7 c8 c9 c10 c11 c12, xs = [c0, c1, c2, c3, c4, c5, c6, c7, c8, c9, c10, c11, c12] := by
  match xs, h with
  | [c0, c1, c2, c3, c4, c5, c6, c7, c8, c9, c10, c11, c12], _ => exact ⟨c0, c1, c2, c3, c4, c5, c6, c7, c8, c9, c10, c11, c12, rfl⟩
theorem list8 {α : Type} {xs : List α} (h : xs.length = 8) : ∃ c0 c1 c2 c3 c4 c5 c6 c7, xs = [c0, c1, c2, c3, c4, c5, c6, c7] := by
  match xs, h with
  | [c0, c1, c2, c3, c4, c5, c6, c7], _ => exact ⟨c0, c1, c2, c3, c4, c5, c6, c7, rfl⟩
theorem cellsTab : Tryd.prog.cellsOf 49 = 104 := by kernel_rfl
theorem cellsOpn : Tryd.prog.cellsOf 47 = 8 := by kernel_rfl
theorem cellsStr : Tryd.prog.cellsOf 9 = 1 := by kernel_rfl
theorem str_of {H : Type} {enc : TypeId × Value → H} {W : World} {base : Nat} {sp : Nat → Bool} {held : Bool} {n : Nat} {v : Value} {y : DataW H × List MemPlace} {l : List UInt8}
    (h : DataW.trod enc Tryd.prog W base sp held n 9 [v] = some y) (hy : y.1 = .lit (.string l)) : v = .string ⟨l.toArray⟩ := by
  obtain ⟨s, e0, rfl, _⟩ := DataW.trod_string Tryd.underlying9 h
  simp only [DataW.lit.injEq, Lit.string.injEq] at hy
  subst hy
  obtain ⟨⟨x⟩⟩ := s
  simpa using e0
theorem boo_of {H : Type} {enc : TypeId × Value → H} {W : World} {base : Nat} {sp : Nat → Bool} {held : Bool} {n : Nat} {v : Value} {y : DataW H × List MemPlace} {q : Bool}
    (h : DataW.trod enc Tryd.prog W base sp held n 4 [v] = some y) (hy : y.1 = .lit (.bool q)) : v = .bool q := by
  obtain ⟨a, e0, e1⟩ := DataW.trod_bool Tryd.underlying4 h
  subst e1
  simp only [DataW.lit.injEq, Lit.bool.injEq] at hy
  subst hy
  simpa using e0
theorem opn_of {H : Type} {enc : TypeId × Value → H} {W : World} {base : Nat} {sp : Nat → Bool} {held : Bool} {n : Nat} {cs : List Value} {y : DataW H × List MemPlace} {l : List UInt8} {q1 q2 q3 q4 q5 q6 q7 : Bool}
    (h : DataW.trod enc Tryd.prog W base sp held n 47 cs = some y) (hy : y.1 = .agg [.lit (.string l), .lit (.bool q1), .lit (.bool q2), .lit (.bool q3), .lit (.bool q4), .lit (.bool q5), .lit (.bool q6), .lit (.bool q7)]) :
    cs = [.string ⟨l.toArray⟩, .bool q1, .bool q2, .bool q3, .bool q4, .bool q5, .bool q6, .bool q7] := by
  obtain ⟨xs, m, _, hx, hl, hlen, hg⟩ := DataW.trod_struct Tryd.underlying47 h
  obtain ⟨y0, y1, y2, y3, y4, y5, y6, y7, rfl⟩ := list8 hlen
  obtain ⟨c0, c1, c2, c3, c4, c5, c6, c7, rfl⟩ := list8 (hl.trans cellsOpn)
  have g0 := hg 0 _ rfl
  have g1 := hg 1 _ rfl
  have g2 := hg 2 _ rfl
  have g3 := hg 3 _ rfl
  have g4 := hg 4 _ rfl
  have g5 := hg 5 _ rfl
  have g6 := hg 6 _ rfl
  have g7 := hg 7 _ rfl
  simp [cellsOneB, cellsStr] at g0 g1 g2 g3 g4 g5 g6 g7
  subst hx
  simp only [List.map_cons, List.map_nil, DataW.agg.injEq, List.cons.injEq, and_true] at hy
  obtain ⟨e0, e1, e2, e3, e4, e5, e6, e7⟩ := hy
  rw [str_of g0 e0, boo_of g1 e1, boo_of g2 e2, boo_of g3 e3, boo_of g4 e4, boo_of g5 e5, boo_of g6 e6, boo_of g7 e7]
/-- A list of parts of eight. -/
theorem list_parts {α : Type} (L : List α) : ∀ k, L.length = k * 8 → L = (List.range k).flatMap (fun i => (L.drop (i * 8)).take 8)
  | 0, h => by simpa using h
  | k + 1, h => by
    have ih := list_parts (L.take (k * 8)) k (by rw [List.length_take]; omega)
    rw [List.range_succ, List.flatMap_append]
    have e : (List.range k).flatMap (fun i => ((L.take (k * 8)).drop (i * 8)).take 8) = (List.range k).flatMap (fun i => (L.drop (i * 8)).take 8) := by
      simp only [List.flatMap]
      congr 1
      apply List.map_congr_left
      intro i hi
      rw [List.mem_range] at hi
      rw [List.drop_take, List.take_take]
      congr 1
      omega
    rw [← e, ← ih]
    simp only [List.flatMap_cons, List.flatMap_nil, List.append_nil]
    rw [List.take_of_length_le (show (L.drop (k * 8)).length ≤ 8 by rw [List.length_drop]; omega), List.take_append_drop]

theorem laid_tab {W : World} (h : laidMetH Tryd.prog theLaid W) : TabOp W := by
  rw [MakeChecks.laidMetH_plain _ _ _ (by kernel_rfl)] at h
  obtain ⟨ps, ⟨g', t', cs, fuel, p, q, hg', ht', hvar, hd, _, _⟩, _⟩ := h
  obtain rfl := Option.some.inj ((show Tryd.prog.globalNamed "hawthorn/op.operations" = some 0 by kernel_rfl).symm.trans hg')
  obtain rfl := Option.some.inj ((show (Tryd.prog.globals[0]?).map (·.type) = some 49 by kernel_rfl).symm.trans ht')
  unfold World.var? at hvar
  rw [hg'] at hvar
  simp only [Option.bind_some] at hvar
  obtain ⟨xs, m, _, hx, hl, hlen, hg⟩ := DataW.trod_array Tryd.underlying49 hd
  obtain ⟨y0, y1, y2, y3, y4, y5, y6, y7, y8, y9, y10, y11, y12, rfl⟩ := list13 hlen
  rw [cellsTab] at hl
  simp only [cellsOpn] at hg
  have hx1 := congrArg Prod.fst hx
  simp only [Rows.laid_hawthorn_op_operations, List.map_cons, List.map_nil, DataW.agg.injEq, List.cons.injEq, and_true] at hx1
  obtain ⟨e0, e1, e2, e3, e4, e5, e6, e7, e8, e9, e10, e11, e12⟩ := hx1
  have g0 := opn_of ((hg 0 (by decide)).trans rfl) e0.symm
  have g1 := opn_of ((hg 1 (by decide)).trans rfl) e1.symm
  have g2 := opn_of ((hg 2 (by decide)).trans rfl) e2.symm
  have g3 := opn_of ((hg 3 (by decide)).trans rfl) e3.symm
  have g4 := opn_of ((hg 4 (by decide)).trans rfl) e4.symm
  have g5 := opn_of ((hg 5 (by decide)).trans rfl) e5.symm
  have g6 := opn_of ((hg 6 (by decide)).trans rfl) e6.symm
  have g7 := opn_of ((hg 7 (by decide)).trans rfl) e7.symm
  have g8 := opn_of ((hg 8 (by decide)).trans rfl) e8.symm
  have g9 := opn_of ((hg 9 (by decide)).trans rfl) e9.symm
  have g10 := opn_of ((hg 10 (by decide)).trans rfl) e10.symm
  have g11 := opn_of ((hg 11 (by decide)).trans rfl) e11.symm
  have g12 := opn_of ((hg 12 (by decide)).trans rfl) e12.symm
  have hP := list_parts cs.toList 13 hl
  simp only [show List.range 13 = [0, 1, 2, 3, 4, 5, 6, 7, 8, 9, 10, 11, 12] by decide, List.flatMap_cons, List.flatMap_nil, g0, g1, g2, g3, g4, g5, g6, g7, g8, g9, g10, g11, g12] at hP
  have hcs2 : cs = tabArr := Array.ext' hP
  subst hcs2
  split at hvar
  · rename_i cs2 T fr hh
    cases hvar
    exact ⟨T, fr, hh⟩
  · cases hvar

/-- The door's own heap meets the condition. -/
theorem door_met (os : Os) (args : Array Value) : laidMetH Tryd.prog theLaid ((World.doorLaid Tryd.prog 400 os).forCall (fun _ _ => 0) ⟨#[], args, []⟩).memory :=
  laidMetH_of_parts3 (fuel := 8) (laidMet_of_run' 8 (by kernel_rfl) (by kernel_rfl)) (by kernel_rfl) (by kernel_rfl)
end Go.Proofs.YtdkakbddhckbnaaDoor
