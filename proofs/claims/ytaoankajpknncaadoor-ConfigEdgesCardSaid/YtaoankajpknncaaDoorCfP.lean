/- ConfigEdges: one number of a configuration put; the tables; at this seat's numbers. -/
import Derived.Test.YtaoankajpknncaaDoorCfJ
namespace Go.Proofs.YtaoankajpknncaaDoor
open Go Go.RowKit
set_option linter.unusedSimpArgs false
set_option linter.unusedVariables false
attribute [local go_sem] Oper.semAt_some

def offB : Nat → Nat
  | 0 => 0
  | 1 => 2
  | 2 => 3
  | 3 => 4
  | 4 => 5
  | 5 => 6
  | 6 => 7
  | 7 => 8
  | 8 => 9
  | _ => 10
/-- One number put. -/
def Cfg.put (c : Cfg) (k : Nat) (x : Int) : Cfg :=
  match k with
  | 0 => { c with e := x }
  | 1 => { c with p := x }
  | 2 => { c with t := x }
  | 3 => { c with r := x }
  | 4 => { c with s := x }
  | 5 => { c with g := x }
  | 6 => { c with f := x }
  | 7 => { c with m := x }
  | 8 => { c with l := x }
  | _ => { c with b := x }
theorem Cfg.put_arr (c : Cfg) (k : Nat) (hk : k < 10) (x : Int) : (c.put k x).arr = c.arr.setIfInBounds (offB k) (.int .i64 x) := by
  match k, hk with
  | 0, _ => rfl
  | 1, _ => rfl
  | 2, _ => rfl
  | 3, _ => rfl
  | 4, _ => rfl
  | 5, _ => rfl
  | 6, _ => rfl
  | 7, _ => rfl
  | 8, _ => rfl
  | 9, _ => rfl
theorem Cfg.put_off (c : Cfg) (k : Nat) (hk : k < 10) : c.arr[offB k]? = some (.int .i64 (c.num k)) := by
  match k, hk with
  | 0, _ => rfl
  | 1, _ => rfl
  | 2, _ => rfl
  | 3, _ => rfl
  | 4, _ => rfl
  | 5, _ => rfl
  | 6, _ => rfl
  | 7, _ => rfl
  | 8, _ => rfl
  | 9, _ => rfl
theorem Cfg.put_num (c : Cfg) (k : Nat) (hk : k < 10) (x : Int) (j : Nat) (hj : j < 10) : (c.put k x).num j = if j = k then x else c.num j := by
  match k, hk, j, hj with
  | 0, _, 0, _ | 1, _, 1, _ | 2, _, 2, _ | 3, _, 3, _ | 4, _, 4, _ | 5, _, 5, _ | 6, _, 6, _ | 7, _, 7, _ | 8, _, 8, _ | 9, _, 9, _ => rfl
  | 0, _, 1, _ | 0, _, 2, _ | 0, _, 3, _ | 0, _, 4, _ | 0, _, 5, _ | 0, _, 6, _ | 0, _, 7, _ | 0, _, 8, _ | 0, _, 9, _ => rfl
  | 1, _, 0, _ | 1, _, 2, _ | 1, _, 3, _ | 1, _, 4, _ | 1, _, 5, _ | 1, _, 6, _ | 1, _, 7, _ | 1, _, 8, _ | 1, _, 9, _ => rfl
  | 2, _, 0, _ | 2, _, 1, _ | 2, _, 3, _ | 2, _, 4, _ | 2, _, 5, _ | 2, _, 6, _ | 2, _, 7, _ | 2, _, 8, _ | 2, _, 9, _ => rfl
  | 3, _, 0, _ | 3, _, 1, _ | 3, _, 2, _ | 3, _, 4, _ | 3, _, 5, _ | 3, _, 6, _ | 3, _, 7, _ | 3, _, 8, _ | 3, _, 9, _ => rfl
  | 4, _, 0, _ | 4, _, 1, _ | 4, _, 2, _ | 4, _, 3, _ | 4, _, 5, _ | 4, _, 6, _ | 4, _, 7, _ | 4, _, 8, _ | 4, _, 9, _ => rfl
  | 5, _, 0, _ | 5, _, 1, _ | 5, _, 2, _ | 5, _, 3, _ | 5, _, 4, _ | 5, _, 6, _ | 5, _, 7, _ | 5, _, 8, _ | 5, _, 9, _ => rfl
  | 6, _, 0, _ | 6, _, 1, _ | 6, _, 2, _ | 6, _, 3, _ | 6, _, 4, _ | 6, _, 5, _ | 6, _, 7, _ | 6, _, 8, _ | 6, _, 9, _ => rfl
  | 7, _, 0, _ | 7, _, 1, _ | 7, _, 2, _ | 7, _, 3, _ | 7, _, 4, _ | 7, _, 5, _ | 7, _, 6, _ | 7, _, 8, _ | 7, _, 9, _ => rfl
  | 8, _, 0, _ | 8, _, 1, _ | 8, _, 2, _ | 8, _, 3, _ | 8, _, 4, _ | 8, _, 5, _ | 8, _, 6, _ | 8, _, 7, _ | 8, _, 9, _ => rfl
  | 9, _, 0, _ | 9, _, 1, _ | 9, _, 2, _ | 9, _, 3, _ | 9, _, 4, _ | 9, _, 5, _ | 9, _, 6, _ | 9, _, 7, _ | 9, _, 8, _ => rfl
theorem Cfg.put_k (c : Cfg) (k : Nat) (hk : k < 10) (x : Int) : (c.put k x).k = c.k := by
  match k, hk with
  | 0, _ | 1, _ | 2, _ | 3, _ | 4, _ | 5, _ | 6, _ | 7, _ | 8, _ | 9, _ => rfl
theorem Cfg.put_put (c : Cfg) (k : Nat) (hk : k < 10) (x y : Int) : (c.put k x).put k y = c.put k y := by
  match k, hk with
  | 0, _ | 1, _ | 2, _ | 3, _ | 4, _ | 5, _ | 6, _ | 7, _ | 8, _ | 9, _ => rfl
theorem Cfg.put_self (c : Cfg) (k : Nat) (hk : k < 10) : c.put k (c.num k) = c := by
  match k, hk with
  | 0, _ | 1, _ | 2, _ | 3, _ | 4, _ | 5, _ | 6, _ | 7, _ | 8, _ | 9, _ => rfl
/-- With any engine but that it must be black, one number put: may it be? -/
theorem Cfg.put_may (c : Cfg) (hc : ∀ j, j < 10 → inB (c.num j) (lowB j) (highB j) = true) (hk : c.k = true) (k : Nat) (h10 : k < 10) (x : Int) : (c.put k x).may = inB x (lowB k) (highB k) := by
  cases hq : inB x (lowB k) (highB k)
  · rw [← Bool.not_eq_true, Cfg.may_nums]
    intro h
    have := h.1 k h10
    rw [c.put_num k h10 x k h10, if_pos rfl, hq] at this
    cases this
  · rw [Cfg.may_nums]
    refine ⟨fun j hj => ?_, fun _ => by rw [c.put_k k h10]; exact hk⟩
    rw [c.put_num k h10 x j hj]
    by_cases hjk : j = k
    · subst hjk; rw [if_pos rfl]; exact hq
    · rw [if_neg hjk]; exact hc j hj
def lowCells : Array Value := #[.int .i64 0, .int .i64 1, .int .i64 1, .int .i64 1, .int .i64 0, .int .i64 0, .int .i64 0, .int .i64 1, .int .i64 0, .int .i64 1]
def highCells : Array Value := #[.int .i64 3, .int .i64 64, .int .i64 4, .int .i64 8, .int .i64 8, .int .i64 4, .int .i64 6, .int .i64 64, .int .i64 64, .int .i64 16]
theorem low_at (k : Nat) (hk : k < 10) : lowCells[k]? = some (.int .i64 (lowB k)) := by
  match k, hk with
  | 0, _ | 1, _ | 2, _ | 3, _ | 4, _ | 5, _ | 6, _ | 7, _ | 8, _ | 9, _ => rfl
theorem high_at (k : Nat) (hk : k < 10) : highCells[k]? = some (.int .i64 (highB k)) := by
  match k, hk with
  | 0, _ | 1, _ | 2, _ | 3, _ | 4, _ | 5, _ | 6, _ | 7, _ | 8, _ | 9, _ => rfl
theorem bounds_le (k : Nat) : 0 ≤ lowB k ∧ lowB k ≤ 1 ∧ lowB k ≤ highB k ∧ highB k ≤ 64 := by
  match k with
  | 0 | 1 | 2 | 3 | 4 | 5 | 6 | 7 | 8 => decide
  | n + 9 => exact ⟨by show (0 : Int) ≤ 1; decide, by show (1 : Int) ≤ 1; decide, by show (1 : Int) ≤ 16; decide, by show (16 : Int) ≤ 64; decide⟩
theorem cellsPtr : Tryd.prog.cellsOf 33 = 1 := by kernel_rfl
def ptrsAt (bc : Nat) : Array Value := #[.pointer (some ⟨bc, 0, none⟩), .pointer (some ⟨bc, 2, none⟩), .pointer (some ⟨bc, 3, none⟩), .pointer (some ⟨bc, 4, none⟩), .pointer (some ⟨bc, 5, none⟩), .pointer (some ⟨bc, 6, none⟩), .pointer (some ⟨bc, 7, none⟩), .pointer (some ⟨bc, 8, none⟩), .pointer (some ⟨bc, 9, none⟩), .pointer (some ⟨bc, 10, none⟩)]
theorem index_ptrs (bc k : Nat) (hk : k < 10) (W : World) : (Instr.index 34 (.agg #[.pointer (some ⟨bc, 0, none⟩), .pointer (some ⟨bc, 2, none⟩), .pointer (some ⟨bc, 3, none⟩), .pointer (some ⟨bc, 4, none⟩), .pointer (some ⟨bc, 5, none⟩), .pointer (some ⟨bc, 6, none⟩), .pointer (some ⟨bc, 7, none⟩), .pointer (some ⟨bc, 8, none⟩), .pointer (some ⟨bc, 9, none⟩), .pointer (some ⟨bc, 10, none⟩)]) (.int .i64 (k : Int))).run Tryd.prog W = .ok (.pointer (some ⟨bc, offB k, none⟩)) W := by
  match k, hk with
  | 0, _ | 1, _ | 2, _ | 3, _ | 4, _ | 5, _ | 6, _ | 7, _ | 8, _ | 9, _ => simp [go_sem, Instr.index, Tryd.underlying34, part, cellsPtr]; rfl
end Go.Proofs.YtaoankajpknncaaDoor
