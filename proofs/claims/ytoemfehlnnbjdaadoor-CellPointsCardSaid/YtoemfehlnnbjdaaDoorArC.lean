/- seek at no class, Room, Free, hasWord, Word, Set, at this seat's numbers. -/
import Derived.Test.YtoemfehlnnbjdaaDoorArB
namespace Go.Proofs.YtoemfehlnnbjdaaDoor
open Go Go.RowKit Go.Shelf Go.MuLone Go.RwLone
set_option linter.unusedSimpArgs false
set_option linter.unusedVariables false

theorem cells_none {c : Int} (h : okC c = false) : cellsOfC c = ((0 : Nat) : Int) := by
  have : c < 0 ∨ 2 < c := by simp [okC] at h; omega
  unfold cellsOfC
  rw [if_neg (by omega), if_neg (by omega), if_neg (by omega)]; rfl

set_option maxRecDepth 100000 in
set_option maxHeartbeats 4000000 in
theorem seek_no {w : World} {X : ArB} {s : ArS} (h : ArAt w X s) (hT : TableAt w) (c : Int) (hc : okC c = false) :
    Calls Tryd.prog 55 #[.pointer (some ⟨X.a, 0, none⟩), .int .i64 c] w (SeekPost s c w) := by
  have h0 := h.c0
  have hp64 := h.fits.p64
  have cC := cellsW c 0 w hT (cells_none hc)
  go_enter Tryd.func55, Tryd.ntmps55
  go_wp2_with fail
  go_step3
  go_wp2_with fail
  go_step3
  go_wp2_with fail
  clear h0
  go_loopw [6, 18] (fun v6 v18 wr => ∃ p : Nat, p ≤ s.P ∧ v6 = .int .i64 0 ∧ v18 = .int .i64 (p : Int) ∧ w = wr) (fun _ v18 _ => s.P - (intOf v18).toNat)
  case atStart => exact ⟨0, Nat.zero_le _, rfl, rfl, rfl⟩
  case round =>
    obtain ⟨p, hp, rfl, rfl, rfl⟩ := hrel
    by_cases hlt : p < s.P
    · have h0 : w.cell? ⟨X.c, p, none⟩ = some (.int .i64 (s.cls p)) := cell_row h.page hlt
      go_wp2_with fail
      refine cC.mono ?_
      rintro e w' ⟨rfl, rfl⟩
      go_wp2_with fail
      clear h0
      go_loopw [6, 25] (fun v6 v25 wx => v6 = .int .i64 0 ∧ v25 = .int .i64 0 ∧ w = wx) (fun _ _ _ => 0)
      case atStart => exact ⟨rfl, rfl, rfl⟩
      case round =>
        obtain ⟨rfl, rfl, rfl⟩ := hrel
        go_wp2_with fail
        go_roundw
        case rel => exact ⟨p + 1, by omega, rfl, by go_num, trivial⟩
        case measure => simp [intOf]; omega
    · go_wp2_with fail
      rw [Exit.noGoto_ret]
      go_ret2
      exact seek_post rfl rfl rfl (Below.refl _ _) (seekF_bad hc)

theorem seek_any {w : World} {X : ArB} {s : ArS} (h : ArAt w X s) (hT : TableAt w) (c : Int) :
    Calls Tryd.prog 55 #[.pointer (some ⟨X.a, 0, none⟩), .int .i64 c] w (SeekPost s c w) := by
  cases hc : okC c with
  | false => exact seek_no h hT c hc
  | true =>
    rcases okC_cases hc with rfl | rfl | rfl
    · exact seek_yes h hT 0 hc 2 16 rfl rfl rfl (by omega) (by omega) (by omega)
    · exact seek_yes h hT 1 hc 4 8 rfl rfl rfl (by omega) (by omega) (by omega)
    · exact seek_yes h hT 2 hc 8 4 rfl rfl rfl (by omega) (by omega) (by omega)

section
variable {w : World} {X : ArB} {s : ArS}

theorem room_any (h : ArAt w X s) (hT : TableAt w) (c : Int) :
    Calls Tryd.prog 25 #[.pointer (some ⟨X.a, 0, none⟩), .int .i64 c] w fun e w' => e = .returned (.bool (((seekF s c : Nat) : Int) != 0)) ∧ Below w.heap.size w w' := by
  have cS := seek_any h hT c
  unfold SeekPost at cS
  generalize (((seekF s c : Nat) : Int) != 0) = b at *
  generalize ((seekF s c : Nat) : Int) = r at *
  go_enter Tryd.func25, Tryd.ntmps25
  go_wp2_with fail
  refine cS.mono ?_
  rintro e w1 ⟨rfl, hB⟩
  clear cS
  go_wp2_with fail
  go_ret
  exact ⟨rfl, hB⟩

/-- How many of the first pages are free. -/
def freeTo (s : ArS) (p : Nat) : Nat := (List.range p).countP fun q => s.cls q == -1
theorem freeTo_succ (s : ArS) (p : Nat) : freeTo s (p + 1) = freeTo s p + if s.cls p = -1 then 1 else 0 := by
  unfold freeTo
  rw [List.range_succ, List.countP_append]
  by_cases h : s.cls p = -1 <;> simp [h]
theorem freeTo_le (s : ArS) (p : Nat) : freeTo s p ≤ p := by
  unfold freeTo
  have := List.countP_le_length (p := fun q => s.cls q == -1) (l := List.range p)
  simpa using this

set_option maxHeartbeats 1000000 in
theorem free_any (h : ArAt w X s) :
    Calls Tryd.prog 28 #[.pointer (some ⟨X.a, 0, none⟩)] w fun e w' => e = .returned (.int .i64 ((freeTo s s.P : Nat) : Int)) ∧ w = w' := by
  have h0 := h.c0
  have hp64 := h.fits.p64
  go_enter Tryd.func28, Tryd.ntmps28
  go_wp2_with fail
  clear h0
  go_loopw [3, 11] (fun v3 v11 wx => ∃ p : Nat, p ≤ s.P ∧ v3 = .int .i64 ((freeTo s p : Nat) : Int) ∧ v11 = .int .i64 (p : Int) ∧ w = wx) (fun _ v11 _ => s.P - (intOf v11).toNat)
  case atStart => exact ⟨0, Nat.zero_le _, rfl, rfl, rfl⟩
  case round =>
    obtain ⟨p, hp, rfl, rfl, rfl⟩ := hrel
    by_cases hlt : p < s.P
    · have h0 : w.cell? ⟨X.c, p, none⟩ = some (.int .i64 (s.cls p)) := cell_row h.page hlt
      have hfl := freeTo_le s p
      have hfs := freeTo_succ s p
      by_cases hm : s.cls p = -1
      · rw [hm] at h0
        rw [if_pos hm] at hfs
        have HF := Lib.hid hfs
        clear hfs hm
        go_wp2_with fail
        go_roundw
        case rel => exact ⟨p + 1, by omega, by rw [HF.out]; go_num, by go_num, trivial⟩
        case measure => simp [intOf]; omega
      · have hmE : (s.cls p == -1) = false := not_eqb hm
        rw [if_neg hm] at hfs
        have HF := Lib.hid hfs
        clear hfs hm
        go_wp2_with fail
        go_roundw
        case rel => exact ⟨p + 1, by omega, by rw [HF.out]; go_num, by go_num, trivial⟩
        case measure => simp [intOf]; omega
    · obtain rfl : p = s.P := by omega
      go_wp2_with fail
      go_ret
      exact ⟨rfl, rfl⟩

/-- Has the arena a word i of a cell r? -/
def hasWd (s : ArS) (r i : Int) : Bool := inS s.S r && (decide (0 ≤ i) && decide (i < wordsOf (s.cls (pg r.toNat))))

set_option maxHeartbeats 1000000 in
theorem hasWord_any (h : ArAt w X s) (hT : TableAt w) (r i : Int) :
    Calls Tryd.prog 63 #[.pointer (some ⟨X.a, 0, none⟩), .int .i64 r, .int .i64 i] w fun e w' => e = .returned (.bool (hasWd s r i)) ∧ Below w.heap.size w w' := by
  have cH := has_any h.toArMem r
  cases hS : inS s.S r with
  | false =>
    have hw : hasWd s r i = false := by simp [hasWd, hS]
    rw [hw]
    rw [hS] at cH
    clear hw hS
    go_enter Tryd.func63, Tryd.ntmps63
    go_wp2_with fail
    refine cH.mono ?_
    rintro e w1 ⟨rfl, hB⟩
    clear cH
    go_wp2_with fail
    go_ret
    exact ⟨rfl, hB⟩
  | true =>
    rw [hS] at cH
    by_cases h0 : 0 ≤ i
    · have hr : 0 ≤ r ∧ s.S r.toNat = true := by simpa [inS] using hS
      obtain ⟨n, rfl⟩ : ∃ n : Nat, r = n := ⟨r.toNat, by omega⟩
      obtain ⟨a1, a2, a3, _⟩ := h.fits.at_ n (by simpa using hr.2)
      have hw : hasWd s (n : Int) i = decide (i < wordsOf (s.cls (pg n))) := by simp [hasWd, hS, h0]
      rw [hw]
      obtain ⟨c, hcq⟩ : ∃ c, s.cls (pg n) = c := ⟨_, rfl⟩
      obtain ⟨W, hWq⟩ : ∃ W, wordsOf c = W := ⟨_, rfl⟩
      rw [hcq, hWq]
      have HCQ := Lib.hid hcq
      have HWQ := Lib.hid hWq
      have HS := Lib.hid hS
      clear hw hS hr hcq hWq
      go_enter Tryd.func63, Tryd.ntmps63
      go_wp2_with fail
      refine cH.mono ?_
      rintro e w1 ⟨rfl, hB⟩
      have hA := h.below hB
      have hT1 := hT.below hB
      have cP := page_yes hA.toArMem n a1 a2
      have cC := class_any hA.toArMem ((pg n : Nat) : Int)
      have e2 : clsI s ((pg n : Nat) : Int) = s.cls (pg n) := by
        unfold clsI; rw [if_pos (by unfold pg; omega)]; rfl
      rw [e2, HCQ.out] at cC
      have cW := wordsC_any c w1 hT1
      rw [HWQ.out] at cW
      have hw3 : W ≤ 8 := by
        rw [← HWQ.out]
        rcases cells_words c with ⟨e, _⟩ | ⟨e, _⟩ | ⟨e, _⟩ | ⟨e, _⟩ <;> omega
      clear e2 cH
      by_cases hlt : i < W
      · have hd : decide (i < W) = true := decide_eq_true hlt
        have HD := Lib.hid hd
        clear hd
        go_wp2_with fail
        refine cP.mono ?_
        rintro e w' ⟨rfl, rfl⟩
        go_wp2_with fail
        refine cC.mono ?_
        rintro e w' ⟨rfl, rfl⟩
        go_wp2_with fail
        refine cW.mono ?_
        rintro e w' ⟨rfl, rfl⟩
        go_wp2_with fail
        go_ret
        exact ⟨ret_bool HD.out.symm, hB⟩
      · have hd : decide (i < W) = false := decide_eq_false hlt
        have HD := Lib.hid hd
        clear hd
        go_wp2_with fail
        refine cP.mono ?_
        rintro e w' ⟨rfl, rfl⟩
        go_wp2_with fail
        refine cC.mono ?_
        rintro e w' ⟨rfl, rfl⟩
        go_wp2_with fail
        refine cW.mono ?_
        rintro e w' ⟨rfl, rfl⟩
        go_wp2_with fail
        go_ret
        exact ⟨rfl, hB⟩
    · have hw : hasWd s r i = false := by simp [hasWd, h0]
      rw [hw]
      have HS := Lib.hid hS
      clear hw hS
      go_enter Tryd.func63, Tryd.ntmps63
      go_wp2_with fail
      refine cH.mono ?_
      rintro e w1 ⟨rfl, hB⟩
      clear cH
      go_wp2_with fail
      go_ret
      exact ⟨rfl, hB⟩
end
end Go.Proofs.YtoemfehlnnbjdaaDoor
