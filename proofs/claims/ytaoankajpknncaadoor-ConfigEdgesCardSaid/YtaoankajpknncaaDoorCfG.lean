/- Name, Engine, fit; at this seat's numbers. -/
import Derived.Test.YtaoankajpknncaaDoorCfF
import Derived.Test.YtaoankajpknncaaDoorLaidS
namespace Go.Proofs.YtaoankajpknncaaDoor
open Go Go.RowKit
set_option linter.unusedSimpArgs false
set_option linter.unusedVariables false
attribute [local go_sem] Oper.semAt_some

def nmN : Nat → ByteArray
  | 0 => nm0
  | 1 => nm1
  | 2 => nm2
  | _ => nm3
def nameOf (i : Int) : ByteArray := if 0 ≤ i ∧ i < 4 then nmN i.toNat else ⟨#[]⟩
theorem NamesAt.cell {w : World} (h : NamesAt w) (n : Nat) (hn : n < 4) : w.cell? ⟨0, n, none⟩ = some (.string (nmN n)) := by
  obtain ⟨T, fr, hh⟩ := h
  unfold World.cell?
  rw [hh]
  match n, hn with
  | 0, _ => rfl
  | 1, _ => rfl
  | 2, _ => rfl
  | 3, _ => rfl
theorem NamesAt.below {w w' : World} (h : NamesAt w) (hB : Below w.heap.size w w') : NamesAt w' := by
  obtain ⟨T, fr, hh⟩ := h
  have hlt : 0 < w.heap.size := by
    rcases Nat.lt_or_ge 0 w.heap.size with h' | h'
    · exact h'
    · rw [Array.getElem?_eq_none h'] at hh; cases hh
  exact ⟨T, fr, (hB.block _ hlt).trans hh⟩

theorem name_any (i : Int) (w : World) (hT : NamesAt w) : Calls Tryd.prog 13 #[.int .i64 i] w fun e w' => e = .returned (.string (nameOf i)) ∧ w = w' := by
  unfold nameOf
  by_cases h0 : i < 0
  · rw [if_neg (by omega)]
    clear hT
    go_enter Tryd.func13, Tryd.ntmps13
    go_wp2_with fail
    go_ret
    exact ⟨rfl, rfl⟩
  · by_cases h4 : 4 ≤ i
    · rw [if_neg (by omega)]
      clear hT
      go_enter Tryd.func13, Tryd.ntmps13
      go_wp2_with fail
      go_ret
      exact ⟨rfl, rfl⟩
    · obtain ⟨n, rfl⟩ := Int.eq_ofNat_of_zero_le (Int.not_lt.1 h0)
      have hc := hT.cell n (by omega)
      rw [if_pos (by omega)]
      simp only [Int.toNat_natCast]
      have hlt : (n : Int) < 4 := by omega
      have hlt2 : n < 4 := by omega
      clear hT
      go_enter Tryd.func13, Tryd.ntmps13
      go_wp2_with fail
      go_ret
      exact ⟨rfl, rfl⟩

/-- What Engine answers. -/
def engN (s : ByteArray) : Nat → Int × Bool
  | 0 => (0, false)
  | n + 1 => if (nmN (3 - n)).toList == s.toList then (((3 - n : Nat) : Int), true) else engN s n
theorem NamesAt.c (w : World) (h : NamesAt w) : w.cell? ⟨0, 0, none⟩ = some (.string nm0) ∧ w.cell? ⟨0, 1, none⟩ = some (.string nm1) ∧ w.cell? ⟨0, 2, none⟩ = some (.string nm2) ∧ w.cell? ⟨0, 3, none⟩ = some (.string nm3) :=
  ⟨h.cell 0 (by decide), h.cell 1 (by decide), h.cell 2 (by decide), h.cell 3 (by decide)⟩
theorem index_names (p : Nat) (hp : p < 4) (W : World) : (Instr.index 53 (.agg #[.string nm0, .string nm1, .string nm2, .string nm3]) (.int .i64 (p : Int))).run Tryd.prog W = .ok (.string (nmN p)) W := by
  match p, hp with
  | 0, _ => simp [go_sem, Instr.index, Tryd.underlying53, part, cellsStr]; rfl
  | 1, _ => simp [go_sem, Instr.index, Tryd.underlying53, part, cellsStr]; rfl
  | 2, _ => simp [go_sem, Instr.index, Tryd.underlying53, part, cellsStr]; rfl
  | 3, _ => simp [go_sem, Instr.index, Tryd.underlying53, part, cellsStr]; rfl
set_option maxRecDepth 100000 in
theorem engine_any (s : ByteArray) (w : World) (hT : NamesAt w) : Calls Tryd.prog 12 #[.string s] w fun e w' => e = .returned (.tuple #[.int .i64 (engN s 4).1, .bool (engN s 4).2]) ∧ w = w' := by
  obtain ⟨c0, c1, c2, c3⟩ := hT.c
  clear hT
  go_enter Tryd.func12, Tryd.ntmps12
  go_wp2_with fail
  clear c0 c1 c2 c3
  go_loopw [7] (fun v7 wr => ∃ p : Nat, p ≤ 4 ∧ v7 = .int .i64 (p : Int) ∧ engN s (4 - p) = engN s 4 ∧ w = wr) (fun v7 _ => 4 - (intOf v7).toNat)
  case atStart => exact ⟨0, by decide, rfl, rfl, rfl⟩
  case round =>
    obtain ⟨p, hp, rfl, he, rfl⟩ := hrel
    by_cases hlt : p < 4
    · have hltI : (p : Int) < 4 := by omega
      have hix := index_names p hlt w
      have hsub : 4 - p = (4 - (p + 1)) + 1 := by omega
      have hidx : 3 - (4 - (p + 1)) = p := by omega
      rw [hsub, engN, hidx] at he
      cases hq : ((nmN p).toList == s.toList)
      · rw [hq, if_neg (by decide)] at he
        have HE := Lib.hid he
        clear he hsub hidx
        go_wp2_with fail
        go_roundw
        case rel => exact ⟨p + 1, by omega, by go_num, HE.out, trivial⟩
        case measure => simp [intOf]; omega
      · rw [hq, if_pos rfl] at he
        have HE := Lib.hid he
        clear he hsub hidx
        go_wp2_with fail
        go_ret2
        rw [← HE.out]
        exact ⟨rfl, rfl⟩
    · obtain rfl : p = 4 := by omega
      have hN : ¬ ((4 : Nat) : Int) < 4 := by omega
      have HE := Lib.hid he
      clear he hp hlt
      go_wp2_with fail
      go_ret2
      rw [← HE.out]
      exact ⟨rfl, rfl⟩
end Go.Proofs.YtaoankajpknncaaDoor
