/- Known, within, of, Name, Writes, Tells; at this seat's numbers. -/
import Derived.Test.YtdkakbddhckbnaaDoorOpA
namespace Go.Proofs.YtdkakbddhckbnaaDoor
open Go Go.RowKit
set_option linter.unusedSimpArgs false
set_option linter.unusedVariables false
attribute [local go_sem] Oper.semAt_some

theorem known_any (i : Int) (w : World) : Calls Tryd.prog 15 #[.int .i64 i] w fun e w' => e = .returned (.bool (inR i 13)) ∧ w = w' := by
  generalize hq : inR i 13 = q
  unfold inR at hq
  by_cases h1 : 0 ≤ i
  · have hx : decide (i < 13) = q := by simpa [h1] using hq
    clear hq
    go_enter Tryd.func15, Tryd.ntmps15
    go_wp2_with fail
    go_ret
    exact ⟨by simp [hx], rfl⟩
  · have hx : q = false := by simpa [h1] using hq.symm
    subst hx
    clear hq
    go_enter Tryd.func15, Tryd.ntmps15
    go_wp2_with fail
    go_ret
    exact ⟨rfl, rfl⟩
theorem within_any (i n : Int) (w : World) : Calls Tryd.prog 19 #[.int .i64 i, .int .i64 n] w fun e w' => e = .returned (.bool (inR i n)) ∧ w = w' := by
  generalize hq : inR i n = q
  unfold inR at hq
  by_cases h1 : 0 ≤ i
  · have hx : decide (i < n) = q := by simpa [h1] using hq
    clear hq
    go_enter Tryd.func19, Tryd.ntmps19
    go_wp2_with fail
    go_ret
    exact ⟨by simp [hx], rfl⟩
  · have hx : q = false := by simpa [h1] using hq.symm
    subst hx
    clear hq
    go_enter Tryd.func19, Tryd.ntmps19
    go_wp2_with fail
    go_ret
    exact ⟨rfl, rfl⟩

set_option maxRecDepth 100000 in
set_option maxHeartbeats 4000000 in
theorem of_any (i : Int) (w : World) (hT : TabOp w) : Calls Tryd.prog 20 #[.int .i64 i] w fun e w' => e = .returned (opOf i).val ∧ Below w.heap.size w w' := by
  have hB := below_new w (.cells noOp.arr 47)
  have cK := known_any i (w.alloc (.cells noOp.arr 47))
  cases hq : inR i 13
  · rw [hq] at cK
    rw [opOf_no hq]
    have HB := Lib.hid hB
    clear hq hB hT
    go_enter Tryd.func20, Tryd.ntmps20
    go_wp2_with fail
    refine cK.mono ?_
    rintro e w1 ⟨rfl, rfl⟩
    go_wp2_with fail
    refine bodyPost_ret (v := noOp.val) ?_ rfl ⟨rfl, below_new w _⟩
    simp [results, Tryd.f20, go_sem, noOp]
  · rw [hq] at cK
    rw [opOf_yes hq]
    obtain ⟨h0, h1⟩ := inR_iff.1 hq
    obtain ⟨n, rfl⟩ := Int.eq_ofNat_of_zero_le h0
    have hn : n < 13 := by omega
    have hT1 := hT.below hB
    obtain ⟨d0, d1, d2, d3, d4, d5, d6, d7⟩ := tab_at n hn
    have c0 := (hT1.cell (n * 8)).trans d0
    have c1 := (hT1.cell (n * 8 + 1)).trans d1
    have c2 := (hT1.cell (n * 8 + 2)).trans d2
    have c3 := (hT1.cell (n * 8 + 3)).trans d3
    have c4 := (hT1.cell (n * 8 + 4)).trans d4
    have c5 := (hT1.cell (n * 8 + 5)).trans d5
    have c6 := (hT1.cell (n * 8 + 6)).trans d6
    have c7 := (hT1.cell (n * 8 + 7)).trans d7
    rw [Int.toNat_natCast]
    have HB := Lib.hid hB
    clear hB hT hq hT1 d0 d1 d2 d3 d4 d5 d6 d7
    go_enter Tryd.func20, Tryd.ntmps20
    go_wp2_with fail
    refine cK.mono ?_
    rintro e w1 ⟨rfl, rfl⟩
    clear cK
    go_wp2_with fail
    refine bodyPost_ret (v := (opN n).val) ?_ rfl ⟨rfl, below_new w _⟩
    simp [results, Tryd.f20, go_sem]

theorem field_nm (o : Opn) (W : World) : (Instr.field 47 o.val 0).run Tryd.prog W = .ok (.string o.nm) W := by kernel_rfl
theorem field_w (o : Opn) (W : World) : (Instr.field 47 o.val 6).run Tryd.prog W = .ok (.bool o.w) W := by kernel_rfl
theorem field_t (o : Opn) (W : World) : (Instr.field 47 o.val 7).run Tryd.prog W = .ok (.bool o.t) W := by kernel_rfl
theorem name_any (i : Int) (w : World) (hT : TabOp w) : Calls Tryd.prog 14 #[.int .i64 i] w fun e w' => e = .returned (.string (opOf i).nm) ∧ Below w.heap.size w w' := by
  have cO := of_any i w hT
  clear hT
  generalize opOf i = o at *
  go_enter Tryd.func14, Tryd.ntmps14
  go_wp2_with fail
  refine cO.mono ?_
  rintro e w1 ⟨rfl, hB⟩
  have HB := Lib.hid hB
  clear cO hB
  have hf := field_nm o w1
  go_wp2_with fail
  go_ret
  exact ⟨rfl, HB.out⟩
theorem writes_any (i : Int) (w : World) (hT : TabOp w) : Calls Tryd.prog 17 #[.int .i64 i] w fun e w' => e = .returned (.bool (opOf i).w) ∧ Below w.heap.size w w' := by
  have cO := of_any i w hT
  clear hT
  generalize opOf i = o at *
  go_enter Tryd.func17, Tryd.ntmps17
  go_wp2_with fail
  refine cO.mono ?_
  rintro e w1 ⟨rfl, hB⟩
  have HB := Lib.hid hB
  clear cO hB
  have hf := field_w o w1
  go_wp2_with fail
  go_ret
  exact ⟨rfl, HB.out⟩
theorem tells_any (i : Int) (w : World) (hT : TabOp w) : Calls Tryd.prog 18 #[.int .i64 i] w fun e w' => e = .returned (.bool (opOf i).t) ∧ Below w.heap.size w w' := by
  have cO := of_any i w hT
  clear hT
  generalize opOf i = o at *
  go_enter Tryd.func18, Tryd.ntmps18
  go_wp2_with fail
  refine cO.mono ?_
  rintro e w1 ⟨rfl, hB⟩
  have HB := Lib.hid hB
  clear cO hB
  have hf := field_t o w1
  go_wp2_with fail
  go_ret
  exact ⟨rfl, HB.out⟩
end Go.Proofs.YtdkakbddhckbnaaDoor
