/- The closure of lay, Once.Do for the first time, at this seat's numbers. -/
import Derived.Test.YtoemfehlnnbjdaaDoorBitsB
namespace Go.Proofs.YtoemfehlnnbjdaaDoor
open Go.RowKit Go.MuLone

/-- A set's thirteen cells: n, height; the lock (its mutex' state lw, its readers' count rc); the once (done d, its mutex' state os); the leaf, the kids. -/
def setArr (n lw rc d os : Int) (l : Option Addr) : Array Value :=
  #[.int .i64 n, .int .i64 0, .int .i32 lw, .int .u32 0, .int .u32 0, .int .u32 0, .int .i32 rc, .int .i32 0, .int .u32 d, .int .i32 os, .int .u32 0, .pointer l, .pointer none]
def zeros64 : Array Value := Array.replicate 64 (.int .u64 0)

theorem lay1_any (hb ab b : Nat) (n lw rc d os : Int) (l : Option Addr) (w : World) (h0 : w.cell? ⟨hb, 0, none⟩ = some (.int .i64 0)) (h1 : w.cell? ⟨ab, 0, none⟩ = some (.pointer (some ⟨b, 8, none⟩)))
    (hB : Blk w b (setArr n lw rc d os l) 113) :
    Calls Tryd.prog 98 #[.pointer (some ⟨hb, 0, none⟩), .pointer (some ⟨ab, 0, none⟩)] w fun e w' => e = .returned (.tuple #[]) ∧
      (w.alloc (.cells zeros64 156)).setCell ⟨b, 11, none⟩ (.pointer (some ⟨w.heap.size, 0, none⟩)) = w' := by
  have hB1 := hB.alloc (.cells zeros64 156)
  have hc : (w.alloc (.cells zeros64 156)).cell? ⟨b, 11, none⟩ = some (.pointer l) := hB1.cell 11
  have hz : (w.alloc (.cells zeros64 156)).frozen? ⟨b, 11, none⟩ = false := hB1.free 11
  have hl : (w.alloc (.cells zeros64 156)).cell? ⟨w.heap.size, 0, none⟩ = some (.int .u64 0) := (Blk.new w zeros64 156).cell 0
  clear hB hB1
  go_enter Tryd.func98, Tryd.ntmps98
  go_wp2_with fail
  refine (pstore_some ⟨b, 11, none⟩ (.pointer l) w.heap.size (.int .u64 0) _ hc hz hl).mono ?_
  rintro e w' ⟨rfl, rfl⟩
  go_wp2
  go_end0
  exact ⟨rfl, rfl⟩

set_option maxRecDepth 100000 in
set_option maxHeartbeats 1600000 in
theorem slow_first (hb ab b : Nat) (n lw rc : Int) (w : World) (hhb : hb ≠ b) (hab : ab ≠ b) (h0 : w.cell? ⟨hb, 0, none⟩ = some (.int .i64 0)) (h1 : w.cell? ⟨ab, 0, none⟩ = some (.pointer (some ⟨b, 8, none⟩)))
    (hB : Blk w b (setArr n lw rc 0 0 none) 113) :
    Calls Tryd.prog 113 #[.pointer (some ⟨b, 8, none⟩), .func (.func 98) #[] #[.pointer (some ⟨hb, 0, none⟩), .pointer (some ⟨ab, 0, none⟩)]] w fun e w' => e = .returned (.tuple #[]) ∧
      Blk w' b (setArr n lw rc 1 0 (some ⟨w.heap.size, 0, none⟩)) 113 ∧ Blk w' w.heap.size zeros64 156 ∧ Turn (· = b) w w' ∧ w'.heap.size = w.heap.size + 1 := by
  have hnot : ∀ (x : Bool) (w : World), (Op.unary .not (.bool x)).run Tryd.prog w = .ok (.bool (!x)) w := fun _ _ => rfl
  have hB1 : Blk (w.setCell ⟨b, 9, none⟩ (.int .i32 1)) b (setArr n lw rc 0 1 none) 113 := hB.setAt 9 _
  have k0 : (w.setCell ⟨b, 9, none⟩ (.int .i32 1)).cell? ⟨hb, 0, none⟩ = some (.int .i64 0) := cell_setBlock h0 hhb
  have k1 : (w.setCell ⟨b, 9, none⟩ (.int .i32 1)).cell? ⟨ab, 0, none⟩ = some (.pointer (some ⟨b, 8, none⟩)) := cell_setBlock h1 hab
  have c8 : (w.setCell ⟨b, 9, none⟩ (.int .i32 1)).cell? ⟨b, 8, none⟩ = some (.int .u32 0) := hB1.cell 8
  have c9 : w.cell? ⟨b, 9, none⟩ = some (.int .i32 0) := hB.cell 9
  have z9 : w.frozen? ⟨b, 9, none⟩ = false := hB.free 9
  clear h0 h1
  go_enter_defers Tryd.func113, Tryd.ntmps113
  go_wp2_with fail
  refine (lock_free Tryd.muLib ⟨b, 9, none⟩ _ c9 z9).mono ?_
  rintro e w' ⟨rfl, rfl⟩
  go_wp2_with fail
  refine (boolload_any _ 0 _ c8 false rfl).mono ?_
  rintro e w' ⟨rfl, rfl⟩
  go_wp2_with fail
  refine (lay1_any hb ab b n lw rc 0 1 none _ k0 k1 hB1).mono ?_
  rintro e w' ⟨rfl, rfl⟩
  go_wp2_with fail
  have hB2 : Blk (((w.setCell ⟨b, 9, none⟩ (.int .i32 1)).alloc (.cells zeros64 156)).setCell ⟨b, 11, none⟩ (.pointer (some ⟨w.heap.size, 0, none⟩))) b (setArr n lw rc 0 1 (some ⟨w.heap.size, 0, none⟩)) 113 := (hB1.alloc _).setAt 11 _
  have hL2 : Blk (((w.setCell ⟨b, 9, none⟩ (.int .i32 1)).alloc (.cells zeros64 156)).setCell ⟨b, 11, none⟩ (.pointer (some ⟨w.heap.size, 0, none⟩))) w.heap.size zeros64 156 := by
    have := Blk.new (w.setCell ⟨b, 9, none⟩ (.int .i32 1)) zeros64 156
    rw [World.size_setCell] at this
    exact this.setOther _ _ (by have := hB.lt; simp; omega)
  have hT2 : Turn (· = b) w (((w.setCell ⟨b, 9, none⟩ (.int .i32 1)).alloc (.cells zeros64 156)).setCell ⟨b, 11, none⟩ (.pointer (some ⟨w.heap.size, 0, none⟩))) :=
    (((Turn.refl (fun k => k = b) w).set _ _ (.inr rfl)).alloc _).set _ _ (.inr rfl)
  have hs2 : (((w.setCell ⟨b, 9, none⟩ (.int .i32 1)).alloc (.cells zeros64 156)).setCell ⟨b, 11, none⟩ (.pointer (some ⟨w.heap.size, 0, none⟩))).heap.size = w.heap.size + 1 := by simp
  generalize (((w.setCell ⟨b, 9, none⟩ (.int .i32 1)).alloc (.cells zeros64 156)).setCell ⟨b, 11, none⟩ (.pointer (some ⟨w.heap.size, 0, none⟩))) = w2 at *
  have hlb : w.heap.size ≠ b := by have := hB.lt; omega
  -- THE DOOR
  refine leaves_cons (f := 120) (args := #[.pointer (some ⟨b, 8, none⟩), .bool true]) (by simp) (by simp [go_sem]) ?_
  refine (store_deferred ⟨b, 8, none⟩ (.int .u32 0) .returning _ (hB2.cell 8) (hB2.free 8)).mono ?_
  rintro e u' w'' ⟨rfl, rfl, rfl⟩
  have hB3 : Blk (w2.drew.setCell ⟨b, 8, none⟩ (.int .u32 1)) b (setArr n lw rc 1 1 (some ⟨w.heap.size, 0, none⟩)) 113 := hB2.drew.setAt 8 _
  refine leaves_cons (f := 81) (args := #[.pointer (some ⟨b, 9, none⟩)]) (by simp [settle]) (by simp [go_sem]) ?_
  refine (unlock_deferred Tryd.muLib ⟨b, 9, none⟩ _ _ (hB3.cell 9) (hB3.free 9)).mono ?_
  rintro e u' w'' ⟨rfl, rfl, rfl⟩
  refine ⟨_, results_none rfl _ _ _, rfl, ?_⟩
  exact ⟨hB3.setAt 9 _, (hL2.drew.setOther _ _ hlb).setOther _ _ hlb, (hT2.drew.set _ _ (.inr rfl)).set _ _ (.inr rfl), by simp [hs2]⟩

/-- Do, for the first time. -/
theorem do_first (hb ab b : Nat) (n lw rc : Int) (w : World) (hhb : hb ≠ b) (hab : ab ≠ b) (h0 : w.cell? ⟨hb, 0, none⟩ = some (.int .i64 0)) (h1 : w.cell? ⟨ab, 0, none⟩ = some (.pointer (some ⟨b, 8, none⟩)))
    (hB : Blk w b (setArr n lw rc 0 0 none) 113) :
    Calls Tryd.prog 97 #[.pointer (some ⟨b, 8, none⟩), .func (.func 98) #[] #[.pointer (some ⟨hb, 0, none⟩), .pointer (some ⟨ab, 0, none⟩)]] w fun e w' => e = .returned (.tuple #[]) ∧
      Blk w' b (setArr n lw rc 1 0 (some ⟨w.heap.size, 0, none⟩)) 113 ∧ Blk w' w.heap.size zeros64 156 ∧ Turn (· = b) w w' ∧ w'.heap.size = w.heap.size + 1 := by
  have hnot : ∀ (x : Bool) (w : World), (Op.unary .not (.bool x)).run Tryd.prog w = .ok (.bool (!x)) w := fun _ _ => rfl
  have c8 : w.cell? ⟨b, 8, none⟩ = some (.int .u32 0) := hB.cell 8
  go_enter Tryd.func97, Tryd.ntmps97
  go_wp2_with fail
  refine (boolload_any _ 0 _ c8 false rfl).mono ?_
  rintro e w' ⟨rfl, rfl⟩
  go_wp2_with fail
  refine (slow_first hb ab b n lw rc _ hhb hab h0 h1 hB).mono ?_
  rintro e w' ⟨rfl, hQ⟩
  go_wp2_with fail
  go_end0
  exact ⟨rfl, hQ⟩
end Go.Proofs.YtoemfehlnnbjdaaDoor
