/- lay, find, New: sets whose numbers are below 4096, at this seat's numbers. -/
import Derived.Test.YtoemfehlnnbjdaaDoorBitsC
import Derived.Deep.QuietTactic
import Derived.BigQuiet
namespace Go.Proofs.YtoemfehlnnbjdaaDoor
open Go.RowKit Go.MuLone

theorem ret_ptr {l a b : Nat} (h : a = b) : Ending.returned (.pointer (some ⟨l, a, none⟩)) = .returned (.pointer (some ⟨l, b, none⟩)) := by rw [h]

/-- the lay of a word where the leaf lies already -/
theorem lay_again (b l : Nat) (n lw rc : Int) (ws : Array Value) (hws : ws.size = 64) (i : Int) (hi0 : 0 ≤ i) (hi1 : i < 4096) (w : World)
    (hB : Blk w b (setArr n lw rc 1 0 (some ⟨l, 0, none⟩)) 113) (hL : Blk w l ws 156) :
    Calls Tryd.prog 68 #[.pointer (some ⟨b, 8, none⟩), .int .i64 0, .int .i64 i] w fun e w' => e = .returned (.pointer (some ⟨l, (i / 64).toNat, none⟩)) ∧ Turn (fun _ => False) w w' := by
  have hmf : ∀ (fn : Fn) (first cap : Array Value) (w : World), (Instr.makeFunc fn first cap).run Tryd.prog w = .ok (.func fn first cap) w := fun _ _ _ _ => rfl
  have d0 : 0 ≤ i / 64 := by omega
  have d1 : i / 64 < 64 := by omega
  go_enter Tryd.func68, Tryd.ntmps68
  go_wp2_with fail
  refine (do_done _ _ _ (((hB.alloc _).alloc _).cell 8)).mono ?_
  rintro e w' ⟨rfl, rfl⟩
  have e0 := cell_allocKeep (Blk.new w #[.pointer (some ⟨b, 8, none⟩)] 137 |>.cell 0) (.cells #[.int .i64 0] 3)
  have e1 := (Blk.new (w.alloc (.cells #[.pointer (some ⟨b, 8, none⟩)] 137)) #[.int .i64 0] 3).cell 0
  have hB1 := (hB.alloc (.cells #[.pointer (some ⟨b, 8, none⟩)] 137)).alloc (.cells #[.int .i64 0] 3)
  have hL1 := (hL.alloc (.cells #[.pointer (some ⟨b, 8, none⟩)] 137)).alloc (.cells #[.int .i64 0] 3)
  have hT := ((Turn.refl (fun _ => False) w).alloc (.cells #[.pointer (some ⟨b, 8, none⟩)] 137)).alloc (.cells #[.int .i64 0] 3)
  rw [World.size_alloc] at e1
  generalize ((w.alloc (.cells #[.pointer (some ⟨b, 8, none⟩)] 137)).alloc (.cells #[.int .i64 0] 3)) = w1 at *
  replace e0 : w1.cell? ⟨w.heap.size, 0, none⟩ = some (.pointer (some ⟨b, 8, none⟩)) := e0
  replace e1 : w1.cell? ⟨w.heap.size + 1, 0, none⟩ = some (.int .i64 0) := e1
  go_wp2_with fail
  go_quiet (first | (go_at_call 101; exact quiet_left (pload_some _ l _ ((hB1.drewN _).cell 11) (by rw [(hL1.drewN _).shape, hws]))) | (go_at_call 102; exact quiet_left (part_zero i _ hi0 hi1)))
  go_wp2
  go_ret
  exact ⟨rfl, hT.drewN _⟩

/-- the first word: the leaf is laid -/
theorem lay_first (b : Nat) (n lw rc : Int) (i : Int) (hi0 : 0 ≤ i) (hi1 : i < 4096) (w : World)
    (hB : Blk w b (setArr n lw rc 0 0 none) 113) :
    Calls Tryd.prog 68 #[.pointer (some ⟨b, 8, none⟩), .int .i64 0, .int .i64 i] w fun e w' => ∃ l, w.heap.size ≤ l ∧ e = .returned (.pointer (some ⟨l, (i / 64).toNat, none⟩)) ∧
      Blk w' b (setArr n lw rc 1 0 (some ⟨l, 0, none⟩)) 113 ∧ Blk w' l zeros64 156 ∧ Turn (fun k => k = b) w w' := by
  have hmf : ∀ (fn : Fn) (first cap : Array Value) (w : World), (Instr.makeFunc fn first cap).run Tryd.prog w = .ok (.func fn first cap) w := fun _ _ _ _ => rfl
  have d0 : 0 ≤ i / 64 := by omega
  have d1 : i / 64 < 64 := by omega
  have hb := hB.lt
  go_enter Tryd.func68, Tryd.ntmps68
  go_wp2_with fail
  have e0 := cell_allocKeep (Blk.new w #[.pointer (some ⟨b, 8, none⟩)] 137 |>.cell 0) (.cells #[.int .i64 0] 3)
  have e1 := (Blk.new (w.alloc (.cells #[.pointer (some ⟨b, 8, none⟩)] 137)) #[.int .i64 0] 3).cell 0
  have hB1 := (hB.alloc (.cells #[.pointer (some ⟨b, 8, none⟩)] 137)).alloc (.cells #[.int .i64 0] 3)
  have hT := ((Turn.refl (fun k => k = b) w).alloc (.cells #[.pointer (some ⟨b, 8, none⟩)] 137)).alloc (.cells #[.int .i64 0] 3)
  have hs : ((w.alloc (.cells #[.pointer (some ⟨b, 8, none⟩)] 137)).alloc (.cells #[.int .i64 0] 3)).heap.size = w.heap.size + 2 := by simp
  rw [World.size_alloc] at e1
  generalize ((w.alloc (.cells #[.pointer (some ⟨b, 8, none⟩)] 137)).alloc (.cells #[.int .i64 0] 3)) = w1 at *
  replace e0 : w1.cell? ⟨w.heap.size, 0, none⟩ = some (.pointer (some ⟨b, 8, none⟩)) := e0
  replace e1 : w1.cell? ⟨w.heap.size + 1, 0, none⟩ = some (.int .i64 0) := e1
  refine (do_first (w.heap.size + 1) w.heap.size b n lw rc _ (by omega) (by omega) e1 e0 hB1).mono ?_
  rintro e w2 ⟨rfl, hB2, hL2, hT2, hs2⟩
  replace e0 : w2.cell? ⟨w.heap.size, 0, none⟩ = some (.pointer (some ⟨b, 8, none⟩)) := (hT2.cell (a := ⟨w.heap.size, 0, none⟩) (by simp; omega) (by simp; omega)).trans e0
  replace e1 : w2.cell? ⟨w.heap.size + 1, 0, none⟩ = some (.int .i64 0) := (hT2.cell (a := ⟨w.heap.size + 1, 0, none⟩) (by simp; omega) (by simp; omega)).trans e1
  have hT3 := hT.trans hT2 (fun _ _ h => h)
  have hle : w.heap.size ≤ w1.heap.size := hT.size
  clear hT2 hT hB1 hs2
  clear hs
  generalize w1.heap.size = l at *
  go_wp2_with fail
  go_quiet (first | (go_at_call 101; exact quiet_left (pload_some _ l _ ((hB2.drewN _).cell 11) ((hL2.drewN _).shape))) | (go_at_call 102; exact quiet_left (part_zero i _ hi0 hi1)))
  go_wp2
  go_ret
  exact ⟨l, hle, rfl, hB2.drewN _, hL2.drewN _, hT3.drewN _⟩

/-- find, where nothing is laid -/
theorem find_nil (b : Nat) (n lw rc : Int) (i : Int) (w : World) (hB : Blk w b (setArr n lw rc 0 0 none) 113) :
    Calls Tryd.prog 87 #[.pointer (some ⟨b, 8, none⟩), .int .i64 0, .int .i64 i] w fun e w' => e = .returned (.pointer none) ∧ w = w' := by
  go_enter Tryd.func87, Tryd.ntmps87
  go_wp2_with fail
  refine (pload_nil _ _ (hB.cell 11)).mono ?_
  rintro e w' ⟨rfl, rfl⟩
  go_wp2_with fail
  go_ret
  exact ⟨rfl, rfl⟩

/-- find, where the leaf is laid -/
theorem find_some (b l : Nat) (n lw rc : Int) (ws : Array Value) (hws : ws.size = 64) (i : Int) (hi0 : 0 ≤ i) (hi1 : i < 4096) (w : World) (hB : Blk w b (setArr n lw rc 1 0 (some ⟨l, 0, none⟩)) 113) (hL : Blk w l ws 156) :
    Calls Tryd.prog 87 #[.pointer (some ⟨b, 8, none⟩), .int .i64 0, .int .i64 i] w fun e w' => e = .returned (.pointer (some ⟨l, (i / 64).toNat, none⟩)) ∧ Turn (fun _ => False) w w' := by
  have d0 : 0 ≤ i / 64 := by omega
  have d1 : i / 64 < 64 := by omega
  go_enter Tryd.func87, Tryd.ntmps87
  go_wp2_with fail
  refine (pload_some _ l _ (hB.cell 11) (by rw [hL.shape, hws])).mono ?_
  rintro e w' ⟨rfl, rfl⟩
  go_wp2_with fail
  go_quiet ((go_at_call 102; exact quiet_left (part_zero i _ hi0 hi1)))
  go_wp2
  go_ret
  exact ⟨rfl, (Turn.refl _ w).drewN _⟩

/-- New, of fewer than 4096 numbers -/
theorem new_any (n : Int) (hn : n ≤ 4096) (w : World) :
    Calls Tryd.prog 38 #[.int .i64 n] w fun e w' => ∃ b, w.heap.size ≤ b ∧ e = .returned (.pointer (some ⟨b, 0, none⟩)) ∧ Blk w' b (setArr (n.toNat : Nat) 0 0 0 0 none) 113 ∧ Turn (fun _ => False) w w' := by
  by_cases h : 0 ≤ n
  · obtain ⟨m, rfl⟩ := Int.eq_ofNat_of_zero_le h
    have h4 : (m : Int) ≤ 4096 := hn
    clear hn
    go_enter Tryd.func38, Tryd.ntmps38
    go_wp2_with fail
    refine (heightFor_zero _ _ (by omega) (by omega)).mono ?_
    rintro e w' ⟨rfl, rfl⟩
    go_wp2_with fail
    go_ret
    exact ⟨w.heap.size, Nat.le_refl _, rfl, Blk.new w _ _, (Turn.refl _ w).alloc _⟩
  · have h' : n < 0 := by omega
    have e0 : n.toNat = 0 := by omega
    rw [e0]
    clear hn h e0
    go_enter Tryd.func38, Tryd.ntmps38
    go_wp2_with fail
    refine (heightFor_zero _ _ (by omega) (by omega)).mono ?_
    rintro e w' ⟨rfl, rfl⟩
    go_wp2_with fail
    go_ret
    exact ⟨w.heap.size, Nat.le_refl _, rfl, Blk.new w _ _, (Turn.refl _ w).alloc _⟩

end Go.Proofs.YtoemfehlnnbjdaaDoor
