/- A configuration as a value; arguments of its kind, and rows of six bytes; '==' of two; at this seat's numbers. -/
import Derived.Test.YtooddbhlanjfbaaGreatDoorUa
import Derived.Test.YtooddbhlanjfbaaGreatDoorProg
import Derived.WalkKit
import Derived.IntWalk
import Derived.Lib.Hide
import Derived.Laws.StructEq
import Derived.OpenShut
import Derived.ChangeSame
import Derived.ProofKit
namespace Go.Proofs.YtooddbhlanjfbaaGreatDoor
open Go Go.RowKit Go.ChangeShapes Go.WideShapes
set_option linter.unusedSimpArgs false
set_option linter.unusedVariables false

/-- The eleven fields. -/
structure Cfg where
  e : Int
  k : Bool
  p : Int
  t : Int
  r : Int
  s : Int
  g : Int
  f : Int
  m : Int
  l : Int
  b : Int
deriving DecidableEq

def Cfg.cells (c : Cfg) : List Value := [.int .i64 c.e, .bool c.k, .int .i64 c.p, .int .i64 c.t, .int .i64 c.r, .int .i64 c.s, .int .i64 c.g, .int .i64 c.f, .int .i64 c.m, .int .i64 c.l, .int .i64 c.b]
abbrev Cfg.arr (c : Cfg) : Array Value := #[.int .i64 c.e, .bool c.k, .int .i64 c.p, .int .i64 c.t, .int .i64 c.r, .int .i64 c.s, .int .i64 c.g, .int .i64 c.f, .int .i64 c.m, .int .i64 c.l, .int .i64 c.b]
abbrev Cfg.val (c : Cfg) : Value := .agg #[.int .i64 c.e, .bool c.k, .int .i64 c.p, .int .i64 c.t, .int .i64 c.r, .int .i64 c.s, .int .i64 c.g, .int .i64 c.f, .int .i64 c.m, .int .i64 c.l, .int .i64 c.b]
theorem Cfg.cells_arr (c : Cfg) : c.cells.toArray = c.arr := rfl
theorem Cfg.cells_length (c : Cfg) : c.cells.length = 11 := rfl

def inB (x lo hi : Int) : Bool := decide (lo ≤ x) && decide (x ≤ hi)
/-- May it be? -/
def Cfg.may (c : Cfg) : Bool :=
  inB c.e 0 3 && (inB c.p 1 64 && (inB c.t 1 4 && (inB c.r 1 8 && (inB c.s 0 8 && (inB c.g 0 4 && (inB c.f 0 6 && (inB c.m 1 64 && (inB c.l 0 64 && (inB c.b 1 16 && (!decide (c.e = 2) || c.k))))))))))
theorem inB_iff {x lo hi : Int} : inB x lo hi = true ↔ lo ≤ x ∧ x ≤ hi := by simp [inB]
theorem inB_not {x lo hi : Int} : inB x lo hi = false ↔ x < lo ∨ hi < x := by
  rw [← Bool.not_eq_true, inB_iff]; omega

/-- All but the engine, and whether it is black. -/
def Cfg.rest (c : Cfg) : Bool := inB c.p 1 64 && (inB c.t 1 4 && (inB c.r 1 8 && (inB c.s 0 8 && (inB c.g 0 4 && (inB c.f 0 6 && (inB c.m 1 64 && (inB c.l 0 64 && inB c.b 1 16)))))))
theorem Cfg.may_rest (c : Cfg) : c.may = (inB c.e 0 3 && (c.rest && (!decide (c.e = 2) || c.k))) := by
  unfold Cfg.may Cfg.rest; simp only [Bool.and_assoc]
/-- With another engine. -/
def Cfg.at (c : Cfg) (e : Int) (k : Bool) : Cfg := { c with e := e, k := k }
theorem Cfg.at_rest (c : Cfg) (e : Int) (k : Bool) : (c.at e k).rest = c.rest := rfl
theorem Cfg.at_at (c : Cfg) (e e' : Int) (k k' : Bool) : (c.at e k).at e' k' = c.at e' k' := rfl
theorem Cfg.at_self (c : Cfg) : c.at c.e c.k = c := rfl

def Cfg.wf (c : Cfg) : Prop := (Lit.int .i64 c.e).wf = true ∧ (Lit.int .i64 c.p).wf = true ∧ (Lit.int .i64 c.t).wf = true ∧ (Lit.int .i64 c.r).wf = true ∧ (Lit.int .i64 c.s).wf = true ∧ (Lit.int .i64 c.g).wf = true ∧ (Lit.int .i64 c.f).wf = true ∧ (Lit.int .i64 c.m).wf = true ∧ (Lit.int .i64 c.l).wf = true ∧ (Lit.int .i64 c.b).wf = true

theorem array11 {α : Type} {cs : Array α} (h : cs.size = 11) : ∃ c0 c1 c2 c3 c4 c5 c6 c7 c8 c9 c10, cs = #[c0, c1, c2, c3, c4, c5, c6, c7, c8, c9, c10] := by
  obtain ⟨l⟩ := cs
  match l, h with
  | [c0, c1, c2, c3, c4, c5, c6, c7, c8, c9, c10], _ => exact ⟨c0, c1, c2, c3, c4, c5, c6, c7, c8, c9, c10, rfl⟩
theorem array6 {α : Type} {cs : Array α} (h : cs.size = 6) : ∃ c0 c1 c2 c3 c4 c5, cs = #[c0, c1, c2, c3, c4, c5] := by
  obtain ⟨l⟩ := cs
  match l, h with
  | [c0, c1, c2, c3, c4, c5], _ => exact ⟨c0, c1, c2, c3, c4, c5, rfl⟩
theorem list11 {α : Type} {xs : List α} (h : xs.length = 11) : ∃ c0 c1 c2 c3 c4 c5 c6 c7 c8 c9 c10, xs = [c0, c1, c2, c3, c4, c5, c6, c7, c8, c9, c10] := by
  match xs, h with
  | [c0, c1, c2, c3, c4, c5, c6, c7, c8, c9, c10], _ => exact ⟨c0, c1, c2, c3, c4, c5, c6, c7, c8, c9, c10, rfl⟩
theorem list6 {α : Type} {xs : List α} (h : xs.length = 6) : ∃ c0 c1 c2 c3 c4 c5, xs = [c0, c1, c2, c3, c4, c5] := by
  match xs, h with
  | [c0, c1, c2, c3, c4, c5], _ => exact ⟨c0, c1, c2, c3, c4, c5, rfl⟩

theorem cellsCfg : Tryz.prog.cellsOf 30 = 11 := by kernel_rfl
theorem cellsSix : Tryz.prog.cellsOf 22 = 6 := by kernel_rfl
theorem cellsOneI : Tryz.prog.cellsOf 3 = 1 := by kernel_rfl
theorem cellsOneB : Tryz.prog.cellsOf 4 = 1 := by kernel_rfl
theorem cellsOneU : Tryz.prog.cellsOf 5 = 1 := by kernel_rfl

section
variable {H : Type} {enc : TypeId × Value → H} {W : World}
theorem int_of {n : Nat} {v : Value} {y : DataW H × List MemPlace} (h : DataW.trod enc Tryz.prog W 0 (fun _ => true) true n 3 [v] = some y) : ∃ a, v = .int .i64 a ∧ (Lit.int .i64 a).wf = true := by
  obtain ⟨a, e0, _, wa⟩ := DataW.trod_int Tryz.underlying3 h
  exact ⟨a, by simpa using e0, wa⟩
theorem u8_of {n : Nat} {v : Value} {y : DataW H × List MemPlace} (h : DataW.trod enc Tryz.prog W 0 (fun _ => true) true n 5 [v] = some y) : ∃ a, v = .int .u8 a ∧ (Lit.int .u8 a).wf = true := by
  obtain ⟨a, e0, _, wa⟩ := DataW.trod_int Tryz.underlying5 h
  exact ⟨a, by simpa using e0, wa⟩
theorem bool_of {n : Nat} {v : Value} {y : DataW H × List MemPlace} (h : DataW.trod enc Tryz.prog W 0 (fun _ => true) true n 4 [v] = some y) : ∃ a, v = .bool a := by
  obtain ⟨a, e0, _⟩ := DataW.trod_bool Tryz.underlying4 h
  exact ⟨a, by simpa using e0⟩

set_option maxRecDepth 100000 in
theorem open_cfg_arg {r : Reach} {b0 : Nat} {v : Value} {d : DataW H} {ps : List MemPlace} (hv : Value.okWide Tryz.prog W r b0 30 v)
    (h : DataW.Trod enc Tryz.prog W 0 (fun _ => true) true 30 v d ps) : ∃ c : Cfg, v = c.val ∧ c.wf := by
  obtain ⟨cs, rfl, hsz⟩ := okWide_struct Tryz.underlying30 hv
  obtain ⟨c0, c1, c2, c3, c4, c5, c6, c7, c8, c9, c10, rfl⟩ := array11 (hsz.trans cellsCfg)
  obtain ⟨fuel, hf⟩ := h
  obtain ⟨xs, n, _, _, _, hlen, hg⟩ := DataW.trod_struct Tryz.underlying30 hf
  obtain ⟨y0, y1, y2, y3, y4, y5, y6, y7, y8, y9, y10, rfl⟩ := list11 hlen
  have g0 := hg 0 _ rfl
  have g1 := hg 1 _ rfl
  have g2 := hg 2 _ rfl
  have g3 := hg 3 _ rfl
  have g4 := hg 4 _ rfl
  have g5 := hg 5 _ rfl
  have g6 := hg 6 _ rfl
  have g7 := hg 7 _ rfl
  have g8 := hg 8 _ rfl
  have g9 := hg 9 _ rfl
  have g10 := hg 10 _ rfl
  simp [cellsOneI, cellsOneB, Value.cells] at g0 g1 g2 g3 g4 g5 g6 g7 g8 g9 g10
  obtain ⟨a0, rfl, w0⟩ := int_of g0
  obtain ⟨a1, rfl⟩ := bool_of g1
  obtain ⟨a2, rfl, w2⟩ := int_of g2
  obtain ⟨a3, rfl, w3⟩ := int_of g3
  obtain ⟨a4, rfl, w4⟩ := int_of g4
  obtain ⟨a5, rfl, w5⟩ := int_of g5
  obtain ⟨a6, rfl, w6⟩ := int_of g6
  obtain ⟨a7, rfl, w7⟩ := int_of g7
  obtain ⟨a8, rfl, w8⟩ := int_of g8
  obtain ⟨a9, rfl, w9⟩ := int_of g9
  obtain ⟨a10, rfl, w10⟩ := int_of g10
  exact ⟨⟨a0, a1, a2, a3, a4, a5, a6, a7, a8, a9, a10⟩, rfl, w0, w2, w3, w4, w5, w6, w7, w8, w9, w10⟩

theorem wf_u8 {a : Int} (h : (Lit.int .u8 a).wf = true) : 0 ≤ a ∧ a ≤ 255 := by
  simp [Lit.wf, IntKind.min, IntKind.max, IntKind.signed, IntKind.bits] at h
  omega
set_option maxRecDepth 100000 in
theorem open_six_arg {r : Reach} {b0 : Nat} {v : Value} {d : DataW H} {ps : List MemPlace} (hv : Value.okWide Tryz.prog W r b0 22 v)
    (h : DataW.Trod enc Tryz.prog W 0 (fun _ => true) true 22 v d ps) : ∃ a0 a1 a2 a3 a4 a5 : Nat, v = .agg #[.int .u8 (a0 : Int), .int .u8 (a1 : Int), .int .u8 (a2 : Int), .int .u8 (a3 : Int), .int .u8 (a4 : Int), .int .u8 (a5 : Int)] ∧ (a0 ≤ 255 ∧ a1 ≤ 255 ∧ a2 ≤ 255 ∧ a3 ≤ 255 ∧ a4 ≤ 255 ∧ a5 ≤ 255) := by
  have hv2 := hv
  simp only [Value.okWide, Tryz.underlying22] at hv2
  obtain ⟨cs, rfl, hsz, _⟩ := hv2
  obtain ⟨c0, c1, c2, c3, c4, c5, rfl⟩ := array6 (hsz.trans cellsSix)
  obtain ⟨fuel, hf⟩ := h
  obtain ⟨xs, n, _, _, _, hlen, hg⟩ := DataW.trod_array Tryz.underlying22 hf
  obtain ⟨y0, y1, y2, y3, y4, y5, rfl⟩ := list6 hlen
  have g0 := hg 0 (by decide)
  have g1 := hg 1 (by decide)
  have g2 := hg 2 (by decide)
  have g3 := hg 3 (by decide)
  have g4 := hg 4 (by decide)
  have g5 := hg 5 (by decide)
  simp [cellsOneU, Value.cells] at g0 g1 g2 g3 g4 g5
  obtain ⟨a0, rfl, w0⟩ := u8_of g0
  obtain ⟨a1, rfl, w1⟩ := u8_of g1
  obtain ⟨a2, rfl, w2⟩ := u8_of g2
  obtain ⟨a3, rfl, w3⟩ := u8_of g3
  obtain ⟨a4, rfl, w4⟩ := u8_of g4
  obtain ⟨a5, rfl, w5⟩ := u8_of g5
  have b0 := wf_u8 w0
  have b1 := wf_u8 w1
  have b2 := wf_u8 w2
  have b3 := wf_u8 w3
  have b4 := wf_u8 w4
  have b5 := wf_u8 w5
  obtain ⟨n0, rfl⟩ := Int.eq_ofNat_of_zero_le b0.1
  obtain ⟨n1, rfl⟩ := Int.eq_ofNat_of_zero_le b1.1
  obtain ⟨n2, rfl⟩ := Int.eq_ofNat_of_zero_le b2.1
  obtain ⟨n3, rfl⟩ := Int.eq_ofNat_of_zero_le b3.1
  obtain ⟨n4, rfl⟩ := Int.eq_ofNat_of_zero_le b4.1
  obtain ⟨n5, rfl⟩ := Int.eq_ofNat_of_zero_le b5.1
  exact ⟨n0, n1, n2, n3, n4, n5, rfl, by omega, by omega, by omega, by omega, by omega, by omega⟩
end

theorem fieldsCfg : Tryz.prog.underlying 30 = some (.struct (Tryz.prog.fieldsOf 30)) := by kernel_rfl
theorem stoodCfg : Tryz.prog.stoodInHeld 30 = false := by kernel_rfl
theorem equalIn_cfg (a c : Cfg) (w : World) : (Op.equalIn 10000 30 a.val c.val).run Tryz.prog w = .ok (decide (a = c)) w := by
  have u3 := Tryz.underlying3
  have u4 := Tryz.underlying4
  rw [show (10000 : Nat) = 9999 + 1 from rfl, run_equalIn_agg w 9999 30 _ _ fieldsCfg stoodCfg]
  obtain ⟨a0, a1, a2, a3, a4, a5, a6, a7, a8, a9, a10⟩ := a
  obtain ⟨c0, c1, c2, c3, c4, c5, c6, c7, c8, c9, c10⟩ := c
  simp only [Program.fieldsOf, Tryz.underlying30]
  simp [go_sem, Op.eqFields, part, u3, u4]
  by_cases h0 : a0 = c0 <;> by_cases h1 : a1 = c1 <;> simp [h0, h1]
  by_cases h2 : a2 = c2 <;> by_cases h3 : a3 = c3 <;> simp [h2, h3]
  by_cases h4 : a4 = c4 <;> by_cases h5 : a5 = c5 <;> simp [h4, h5]
  by_cases h6 : a6 = c6 <;> by_cases h7 : a7 = c7 <;> simp [h6, h7]
  by_cases h8 : a8 = c8 <;> by_cases h9 : a9 = c9 <;> simp [h8, h9]
  by_cases h10 : a10 = c10 <;> simp [h10]
theorem eql_cfg (a c : Cfg) (w : World) : (binOp .eql 30 a.val c.val).run Tryz.prog w = .ok (.bool (decide (a = c))) w := by
  rw [run_eql_struct, equalIn_cfg]; rfl
theorem neq_cfg (a c : Cfg) (w : World) : (binOp .neq 30 a.val c.val).run Tryz.prog w = .ok (.bool (!decide (a = c))) w := by
  rw [run_neq_struct, equalIn_cfg]; rfl
end Go.Proofs.YtooddbhlanjfbaaGreatDoor
