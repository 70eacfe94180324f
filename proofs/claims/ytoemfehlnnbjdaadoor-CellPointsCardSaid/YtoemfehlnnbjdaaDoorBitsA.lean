/- Leaf functions of package bits at this seat's numbers. -/
import Derived.Test.YtoemfehlnnbjdaaDoorLocks
import Derived.Test.YtoemfehlnnbjdaaDoorHeap
import Derived.Conc.MuLone
import Derived.WalkKit
import Derived.Outline
import Derived.Defers
import Derived.WalkSpells
import Derived.WalkLawsBesides
import Derived.Laws.BitsAllLaws
import Derived.Laws.LoneSync
import Derived.RegionCalls
namespace Go.Proofs.YtoemfehlnnbjdaaDoor
open Go.RowKit

theorem ret_u64 {a b : Int} (h : a = b) : Ending.returned (.int .u64 a) = .returned (.int .u64 b) := by rw [h]
theorem ret_i64 {a b : Int} (h : a = b) : Ending.returned (.int .i64 a) = .returned (.int .i64 b) := by rw [h]

theorem knows_yes (b : Nat) (n i : Int) (w : World) (h0 : w.cell? ⟨b, 0, none⟩ = some (.int .i64 n)) (hi : 0 ≤ i) (hn : i < n) :
    Calls Tryd.prog 64 #[.pointer (some ⟨b, 0, none⟩), .int .i64 i] w fun e w' => e = .returned (.bool true) ∧ w = w' := by
  go_enter Tryd.func64, Tryd.ntmps64
  go_wp2
  go_ret
  exact ⟨rfl, rfl⟩

theorem knows_no (b : Nat) (n i : Int) (w : World) (h0 : w.cell? ⟨b, 0, none⟩ = some (.int .i64 n)) (hi : i < 0 ∨ n ≤ i) :
    Calls Tryd.prog 64 #[.pointer (some ⟨b, 0, none⟩), .int .i64 i] w fun e w' => e = .returned (.bool false) ∧ w = w' := by
  by_cases h : i < 0
  · have h' : ¬ (0 ≤ i) := by omega
    go_enter Tryd.func64, Tryd.ntmps64
    go_wp2
    go_ret
    exact ⟨rfl, rfl⟩
  · have h' : decide (i < n) = false := by simp; omega
    have h'' : 0 ≤ i := by omega
    clear hi h
    go_enter Tryd.func64, Tryd.ntmps64
    go_wp2
    go_ret
    exact ⟨by simp, rfl⟩

theorem bitOf_any (i : Int) (w : World) (h0 : 0 ≤ i) :
    Calls Tryd.prog 67 #[.int .i64 i] w fun e w' => e = .returned (.int .u64 ((bitN i : Nat) : Int)) ∧ w = w' := by
  go_enter Tryd.func67, Tryd.ntmps67
  go_wp2
  go_ret
  exact ⟨ret_u64 (bitN_wrap i), rfl⟩

theorem part_zero (i : Int) (w : World) (h0 : 0 ≤ i) (h1 : i < 4096) :
    Calls Tryd.prog 102 #[.int .i64 0, .int .i64 i] w fun e w' => e = .returned (.int .i64 (i / 64)) ∧ w = w' := by
  go_enter Tryd.func102, Tryd.ntmps102
  go_wp2
  go_ret
  exact ⟨ret_i64 (by omega), rfl⟩

theorem heightFor_zero (n : Int) (w : World) (h0 : 0 ≤ n) (h1 : n ≤ 4096) :
    Calls Tryd.prog 62 #[.int .i64 n] w fun e w' => e = .returned (.int .i64 0) ∧ w = w' := by
  have hf : ¬ (0 < (n - 1) / 4096) := by omega
  go_enter Tryd.func62, Tryd.ntmps62
  go_wp2
  refine wp_loop_rounds 1 ?_
  rw [rounds_succ]
  go_wp2
  go_ret
  exact ⟨rfl, rfl⟩

theorem uload_any (a : Addr) (x : Int) (w : World) (hc : w.cell? a = some (.int .u64 x)) :
    Calls Tryd.prog 49 #[.pointer (some a)] w fun e w' => e = .returned (.int .u64 x) ∧ w = w' := by
  have hl := run_call_load (P := Tryd.prog) Tryd.func84 (by kernel_rfl) (by kernel_rfl) (by kernel_rfl) .u64 (by kernel_rfl) hc
  go_enter Tryd.func49, Tryd.ntmps49
  go_wp2
  go_ret
  exact ⟨rfl, rfl⟩

theorem run_call_bits {P : Program} {f : FuncId} {fn : Func} (op : BinOp) (hf : P.funcs[f]? = some fn) (hname : (fn.name == "runtime.NumGoroutine") = false) (hb : fn.body.isNone = true) (hn : Extern.findNext fn = none) (k : IntKind)
    (he : Extern.find fn = some (Extern.Atomic.update (Op.intBits op) k false)) {a : Addr} {x y s : Int} {w : World} (hc : w.cell? a = some (.int k x)) (hz : w.frozen? a = false)
    (hs : (Op.intBits op k x y).run P w = .ok (.int k s) w) :
    (callFunc f #[.pointer (some a), .int k y]).run P w = .ok (.value (.int k x)) (w.setCell a (.int k s)) := by
  rw [run_callFunc_extern hf hname hb hn he]
  change (Sem.run P (do
    let a' ← asAddr (.pointer (some a))
    let old ← Extern.Atomic.read (.int k) a'
    let new ← Op.intBits op k (← asInt old) (← asInt (.int k y))
    store a' new .atomic
    pure (if false = true then new else old)) w).andThen _ = _
  simp [Extern.Atomic.read, asAddr, asInt, asIntOf, hc, hz, hs, run_store P w a (.int k s) .atomic rfl, Result.andThen]

theorem uor_any (a : Addr) (x y : Nat) (w : World) (hx : x < 18446744073709551616) (hy : y < 18446744073709551616) (hc : w.cell? a = some (.int .u64 x)) (hz : w.frozen? a = false) :
    Calls Tryd.prog 69 #[.pointer (some a), .int .u64 y] w fun e w' => e = .returned (.int .u64 x) ∧ w.setCell a (.int .u64 ((x ||| y : Nat) : Int)) = w' := by
  have hl := run_call_bits (P := Tryd.prog) .or Tryd.func104 (by kernel_rfl) (by kernel_rfl) (by kernel_rfl) .u64 (by kernel_rfl) (y := y) (s := ((x ||| y : Nat) : Int)) hc hz (by rw [← u64_or_nat x y hx hy]; rfl)
  clear hx hy
  go_enter Tryd.func69, Tryd.ntmps69
  go_wp2
  go_ret
  exact ⟨rfl, rfl⟩

theorem uand_any (a : Addr) (x y : Nat) (w : World) (hx : x < 18446744073709551616) (hy : y < 18446744073709551616) (hc : w.cell? a = some (.int .u64 x)) (hz : w.frozen? a = false) :
    Calls Tryd.prog 88 #[.pointer (some a), .int .u64 y] w fun e w' => e = .returned (.int .u64 x) ∧ w.setCell a (.int .u64 ((x &&& y : Nat) : Int)) = w' := by
  have hl := run_call_bits (P := Tryd.prog) .and Tryd.func110 (by kernel_rfl) (by kernel_rfl) (by kernel_rfl) .u64 (by kernel_rfl) (y := y) (s := ((x &&& y : Nat) : Int)) hc hz (by rw [← u64_and_nat x y hx hy]; rfl)
  clear hx hy
  go_enter Tryd.func88, Tryd.ntmps88
  go_wp2
  go_ret
  exact ⟨rfl, rfl⟩

theorem run_call_loadp {P : Program} {f : FuncId} {fn : Func} (hf : P.funcs[f]? = some fn) (hname : (fn.name == "runtime.NumGoroutine") = false) (hb : fn.body.isNone = true) (hn : Extern.findNext fn = none)
    (he : Extern.find fn = some (Extern.Atomic.loadT .ptr)) {a : Addr} {x : Option Addr} {w : World} (hc : w.cell? a = some (.pointer x)) :
    (callFunc f #[.pointer (some a)]).run P w = .ok (.value (.pointer x)) w := by
  rw [run_callFunc_extern hf hname hb hn he]
  change (Sem.run P (do Extern.Atomic.read .ptr (← asAddr (.pointer (some a)))) w).andThen _ = _
  simp [Extern.Atomic.read, asAddr, hc, Result.andThen]

theorem run_call_storep {P : Program} {f : FuncId} {fn : Func} (hf : P.funcs[f]? = some fn) (hname : (fn.name == "runtime.NumGoroutine") = false) (hb : fn.body.isNone = true) (hn : Extern.findNext fn = none)
    (he : Extern.find fn = some Extern.Atomic.storeT) {a : Addr} {y : Option Addr} {u : Value} {w : World} (hc : w.cell? a = some u) (hz : w.frozen? a = false) :
    (callFunc f #[.pointer (some a), .pointer y]).run P w = .ok (.value (.tuple #[])) (w.setCell a (.pointer y)) := by
  rw [run_callFunc_extern hf hname hb hn he]
  change (Sem.run P (do
    store (← asAddr (.pointer (some a))) (.pointer y) .atomic
    pure Extern.Atomic.none_) w).andThen _ = _
  simp [asAddr, hc, hz, run_store P w a (.pointer y) .atomic rfl, Result.andThen, Extern.Atomic.none_]

theorem run_from_unsafe0 {P : Program} {src dst u e : TypeId} {cells : Nat} (a : Addr) (hs : P.underlying src = some .unsafePointer) (hd : P.underlying dst = some (.pointer u)) (hu : (P.info? u).isSome = true) (w : World)
    (hsh : w.shape? a.block = some (e, cells)) (hlies : liesAt P P.depth e (cells / P.cellsOf e) a.off u 1 = true) :
    (convert src dst (.pointer (some a))).run P w = .ok (.pointer (some a)) w := by
  obtain ⟨j, hj⟩ := Option.isSome_iff_exists.1 hu
  simp [convert, run_underlying hs, run_underlying hd, Conv.unsafePointer, Conv.seenAt, viewAt, hsh, variablesAt, hlies, sizeOf, typeInfo, hj]

theorem pload_nil (a : Addr) (w : World) (hc : w.cell? a = some (.pointer none)) :
    Calls Tryd.prog 101 #[.pointer (some a)] w fun e w' => e = .returned (.pointer none) ∧ w = w' := by
  have hl := run_call_loadp (P := Tryd.prog) Tryd.func115 (by kernel_rfl) (by kernel_rfl) (by kernel_rfl) (by kernel_rfl) hc
  have hcv : ∀ w : World, (convert 103 101 (.pointer none)).run Tryd.prog w = .ok (.pointer none) w := fun _ => by kernel_rfl
  go_enter Tryd.func101, Tryd.ntmps101
  go_wp2
  go_ret
  exact ⟨rfl, rfl⟩

theorem pload_some (a : Addr) (lb : Nat) (w : World) (hc : w.cell? a = some (.pointer (some ⟨lb, 0, none⟩))) (hsh : w.shape? lb = some (156, 64)) :
    Calls Tryd.prog 101 #[.pointer (some a)] w fun e w' => e = .returned (.pointer (some ⟨lb, 0, none⟩)) ∧ w = w' := by
  have hl := run_call_loadp (P := Tryd.prog) Tryd.func115 (by kernel_rfl) (by kernel_rfl) (by kernel_rfl) (by kernel_rfl) hc
  have hcv := run_from_unsafe0 (P := Tryd.prog) (src := 103) (dst := 101) (u := 156) (e := 156) (cells := 64) ⟨lb, 0, none⟩ Tryd.underlying103 Tryd.underlying101 (by kernel_rfl) w hsh (by kernel_rfl)
  go_enter Tryd.func101, Tryd.ntmps101
  go_wp2
  go_ret
  exact ⟨rfl, rfl⟩

theorem pstore_some (a : Addr) (y : Value) (lb : Nat) (z : Value) (w : World) (hc : w.cell? a = some y) (hz : w.frozen? a = false) (hl : w.cell? ⟨lb, 0, none⟩ = some z) :
    Calls Tryd.prog 99 #[.pointer (some a), .pointer (some ⟨lb, 0, none⟩)] w fun e w' => e = .returned (.tuple #[]) ∧ w.setCell a (.pointer (some ⟨lb, 0, none⟩)) = w' := by
  have hcv := run_convert_to_unsafe (P := Tryd.prog) (src := 101) (dst := 103) Tryd.underlying101 Tryd.underlying103 (by kernel_rfl) hl
  have hst := run_call_storep (P := Tryd.prog) Tryd.func114 (by kernel_rfl) (by kernel_rfl) (by kernel_rfl) (by kernel_rfl) (y := some ⟨lb, 0, none⟩) hc hz
  go_enter Tryd.func99, Tryd.ntmps99
  go_wp2
  go_end0
  exact ⟨rfl, rfl⟩
end Go.Proofs.YtoemfehlnnbjdaaDoor
