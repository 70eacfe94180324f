/- Code; at this seat's numbers. -/
import Derived.Test.YtdkakbddhckbnaaDoorOpB
namespace Go.Proofs.YtdkakbddhckbnaaDoor
open Go Go.RowKit
set_option linter.unusedSimpArgs false
set_option linter.unusedVariables false
attribute [local go_sem] Oper.semAt_some

/-- What Code answers: the first name that is s, counted from behind. -/
def codN (s : ByteArray) : Nat → Int × Bool
  | 0 => (0, false)
  | n + 1 => if (opN (12 - n)).nm.toList == s.toList then (((12 - n : Nat) : Int), true) else codN s n
theorem part_tab (p : Nat) (hp : p < 13) (W : World) : (Instr.index 49 (.agg tabArr) (.int .i64 (p : Int))).run Tryd.prog W = .ok (opN p).val W := by
  match p, hp with
  | 0, _ | 1, _ | 2, _ | 3, _ | 4, _ | 5, _ | 6, _ | 7, _ | 8, _ | 9, _ | 10, _ | 11, _ | 12, _ => simp [go_sem, Instr.index, Tryd.underlying49, part]; rfl
set_option maxRecDepth 100000 in
set_option maxHeartbeats 4000000 in
theorem code_any (s : ByteArray) (w : World) (hT : TabOp w) : Calls Tryd.prog 13 #[.string s] w fun e w' => e = .returned (.tuple #[.int .i64 (codN s 13).1, .bool (codN s 13).2]) ∧ Below w.heap.size w w' := by
  obtain ⟨T, fr, hg⟩ := hT
  go_enter Tryd.func13, Tryd.ntmps13
  go_wp2_with (refine wpList_load_row rfl 49 _ rfl 0 rfl T tabArr fr _ hg Tryd.underlying49 rfl (by kernel_rfl) ?_)
  clear hg
  go_loopw [4, 5, 7] (fun v4 v5 v7 wr => ∃ p : Nat, p ≤ 13 ∧ v7 = .int .i64 (p : Int) ∧ codN s (13 - p) = codN s 13 ∧ Below w.heap.size w wr) (fun _ _ v7 _ => 13 - (intOf v7).toNat)
  case atStart => exact ⟨0, by decide, rfl, rfl, Below.refl _ _⟩
  case round =>
    obtain ⟨p, hp, rfl, he, hB⟩ := hrel
    by_cases hlt : p < 13
    · have hltI : (p : Int) < 13 := by omega
      have hix := part_tab p hlt wr
      have hsub : 13 - p = (13 - (p + 1)) + 1 := by omega
      have hidx : 12 - (13 - (p + 1)) = p := by omega
      rw [hsub, codN, hidx] at he
      have hB2 := hB.alloc hB.size (.cells (opN p).arr 47)
      have hb := Blk.new wr (opN p).arr 47
      have f0 := hb.cell 0
      simp only [List.getElem?_toArray, List.getElem?_cons_succ, List.getElem?_cons_zero] at f0
      cases hq : ((opN p).nm.toList == s.toList)
      · rw [hq, if_neg (by decide)] at he
        have HE := Lib.hid (And.intro he hB2)
        clear he hsub hidx hB hB2 hb
        go_wp2_with fail
        go_roundw
        case rel => exact ⟨p + 1, by omega, by go_num, HE.out.1, HE.out.2⟩
        case measure => simp [intOf]; omega
      · rw [hq, if_pos rfl] at he
        have HE := Lib.hid (And.intro he hB2)
        clear he hsub hidx hB hB2 hb
        go_wp2_with fail
        go_ret2
        rw [← HE.out.1]
        exact ⟨rfl, HE.out.2⟩
    · obtain rfl : p = 13 := by omega
      have hN : ¬ ((13 : Nat) : Int) < 13 := by omega
      have HE := Lib.hid (And.intro he hB)
      clear he hp hlt hB
      go_wp2_with fail
      go_ret2
      rw [← HE.out.1]
      exact ⟨rfl, HE.out.2⟩
end Go.Proofs.YtdkakbddhckbnaaDoor
