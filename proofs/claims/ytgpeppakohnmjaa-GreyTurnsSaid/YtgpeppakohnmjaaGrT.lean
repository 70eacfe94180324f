/- GreyTurns, walked, at this seat's numbers. -/
import Derived.Test.YtgpeppakohnmjaaGrC
import Derived.Test.YtgpeppakohnmjaaArgsG
namespace Go.Proofs.Ytgpeppakohnmjaa
open Go Go.RowKit
set_option linter.unusedSimpArgs false
set_option linter.unusedVariables false
attribute [local go_sem] Oper.semAt_some

theorem u8_natT {a : Int} (h : (Lit.int .u8 a).wf = true) : ∃ n : Nat, a = (n : Int) ∧ n < 256 := by
  have h2 : 0 ≤ a ∧ a ≤ 255 := by
    simp [Lit.wf, IntKind.min, IntKind.max, IntKind.signed, IntKind.bits] at h
    omega
  exact ⟨a.toNat, by omega, by omega⟩
theorem take_next {zs : List Int} {i : Nat} (h : i < zs.length) : zs.take (i + 1) = zs.take i ++ [zs.getD i 0] := by
  rw [List.take_add_one, List.getElem?_eq_getElem h]
  simp [List.getD, h]
def TurnA (B s m : Nat) (zs : List Int) (wb : World) (v25 : Value) (wr : World) : Prop :=
  ∃ i n : Nat, i ≤ zs.length ∧ n = min i m ∧ v25 = .int .i64 (i : Int) ∧ GrIn B (fun _ => False) s (m : Int) (zs.take n) (decide (m < i)) wb wr
def TurnB (B s m : Nat) (ov : Bool) (zs : List Int) (wb : World) (v9 : Value) (wr : World) : Prop :=
  ∃ k : Nat, k ≤ zs.length ∧ v9 = .int .i64 ((k : Int) - 1) ∧ GrIn B (fun _ => False) s (m : Int) (zs.take k) ov wb wr

set_option maxRecDepth 100000 in
set_option maxHeartbeats 4000000 in
theorem turns_true (a0 : Option Addr) (zs : List Int) (cap : Nat) (lv : Nat) (hlv : lv < 256) (w : World) (_ : zs.length ≤ 9223372036854775807) (hZ : RefsAtW w a0 zs) :
    Calls Try.prog 4 #[.slice a0 zs.length cap, .int .u8 (lv : Int)] w fun e w' => e = .returned (.bool true) ∧ Below w.heap.size w w' := by
  have HZ := Lib.hid hZ
  clear hZ
  have hf := grfit_true w
  obtain ⟨m, hm⟩ : ∃ m, m = lv % 70 := ⟨_, rfl⟩
  have hmt : (lv : Int).tmod 70 = (m : Int) := by rw [Int.tmod_eq_emod_of_nonneg (by omega)]; omega
  have hm70 : m < 70 := by omega
  have hm0 : (0 : Int) ≤ (m : Int) := by omega
  clear hm
  go_enter Try.func4, Try.ntmps4
  go_wp2_with fail
  refine hf.mono ?_
  rintro e w1 ⟨rfl, hB⟩
  clear hf
  by_cases hbig : 100 < (zs.length : Int)
  · go_wp2_with fail
    go_ret
    exact ⟨rfl, hB⟩
  have hbigN : zs.length ≤ 100 := by omega
  go_wp2_with fail
  refine (grIn_new (B := w.heap.size) (F := fun _ => False) (wb := w) (wr := w1) (m : Int) (fun _ h => h.elim) hB (Nat.le_refl _)).mono ?_
  rintro e w2 ⟨s, rfl, h2, _⟩
  clear hB
  go_wp2_with fail
  go_loopw [25] (fun v25 wr => TurnA w.heap.size s m zs w v25 wr) (fun v25 _ => zs.length - (intOf v25).toNat)
  case atStart => exact ⟨0, 0, Nat.zero_le _, by omega, rfl, h2⟩
  case round =>
    clear h2
    obtain ⟨i, n, hi, hn, rfl, h1⟩ := hrel
    have hi0 : (0 : Int) ≤ (i : Int) := by omega
    by_cases hlt : i < zs.length
    · have hi1 : (i : Int) < (zs.length : Int) := by omega
      obtain ⟨bk, off, rfl, hbk, hc0, hwf⟩ := HZ.out i hlt
      have hc := (h1.below.cell (p := ⟨bk, off + i, none⟩) hbk).trans hc0
      have htk := take_next hlt
      generalize zs.getD i 0 = r at *
      clear hc0 hwf
      have hln : (zs.take n).length = n := by rw [List.length_take]; omega
      by_cases hnm : n < m
      · obtain rfl : n = i := by omega
        have hnI : (n : Int) < (m : Int) := by omega
        have e1 : decide (m < n) = false := by simp; omega
        have e2 : decide (m < n + 1) = false := by simp; omega
        rw [e1] at h1
        have cP := h1.push (by rw [hln]; exact hnI) (by omega) r
        rw [← htk] at cP
        rw [← e2] at cP
        clear h1 hln htk hn e1 e2
        go_wp2_with fail
        refine cP.mono ?_
        rintro e w4 ⟨rfl, h4, _⟩
        clear cP hc
        go_wp2_with fail
        go_roundw
        case rel => exact ⟨n + 1, n + 1, hlt, by omega, by go_num, h4⟩
        case measure => simp [intOf]; omega
      · have cP := h1.pushNo (by rw [hln]; omega) r
        have e2 : decide (m < i + 1) = true := by simp; omega
        rw [← e2] at cP
        have HN := Lib.hid hn
        clear hln htk hn h1 e2
        go_wp2_with fail
        refine cP.mono ?_
        rintro e w4 ⟨rfl, h4, _⟩
        clear cP hc
        go_wp2_with fail
        go_roundw
        case rel => exact ⟨i + 1, n, hlt, by have := HN.out; omega, by go_num, h4⟩
        case measure => simp [intOf]; omega
    · have hi1 : ¬ (i : Int) < (zs.length : Int) := by omega
      obtain rfl : i = zs.length := by omega
      have hov : ∀ q, decide (m < zs.length) = q → GrIn w.heap.size (fun _ => False) s (m : Int) (zs.take n) q w wr := fun q e => e ▸ h1
      clear h1
      rcases Nat.lt_or_ge m zs.length with hq | hq
      · have h1 := hov true (by simpa using hq)
        obtain rfl : n = m := by omega
        have hq1 : (n : Int) < (zs.length : Int) := by omega
        have hq2 : ¬ (zs.length : Int) < (n : Int) := by omega
        have hnl : n ≤ zs.length := by omega
        have hln : ((zs.take n).length : Int) = (n : Int) := by rw [List.length_take]; omega
        clear hn hlt hi hi0 hov hq
        go_wp2_with fail
        refine h1.over.mono ?_
        rintro e w3 ⟨rfl, rfl⟩
        go_wp2_with fail
        refine (h1.len (n : Int) hln).mono ?_
        rintro e w3 ⟨rfl, rfl⟩
        go_wp2_with fail
        go_loopw [9] (fun v9 wr => TurnB w.heap.size s n true zs w v9 wr) (fun v9 _ => (intOf v9 + 1).toNat)
        case atStart => exact ⟨n, hnl, rfl, h1⟩
        case round =>
          clear h1
          obtain ⟨k, hk, rfl, h1⟩ := hrel
          rcases Nat.eq_zero_or_pos k with rfl | hk0
          · rw [List.take_zero] at h1
            have e01 : (((0 : Nat)) : Int) - 1 = -1 := rfl
            simp only [e01]
            go_wp2_with fail
            refine h1.popNo.mono ?_
            rintro e w4 ⟨rfl, rfl⟩
            go_wp2_with fail
            refine h1.over.mono ?_
            rintro e w5 ⟨rfl, rfl⟩
            have hbl := h1.below
            clear h1
            go_wp2_with fail
            go_ret
            exact ⟨rfl, hbl⟩
          · obtain ⟨j, rfl⟩ : ∃ j, k = j + 1 := ⟨k - 1, by omega⟩
            have hj : j < zs.length := by omega
            have hj1 : (j : Int) < (zs.length : Int) := by omega
            have hj0 : (0 : Int) ≤ (j : Int) := by omega
            obtain ⟨bk, off, rfl, hbk, hc0, hwf⟩ := HZ.out j hj
            rw [take_next hj] at h1
            generalize zs.getD j 0 = r at *
            have ekj : (((j + 1 : Nat)) : Int) - 1 = (j : Int) := by omega
            simp only [ekj]
            clear hwf ekj hk0
            go_wp2_with fail
            refine (h1.pop (by rw [List.length_take]; omega)).mono ?_
            rintro e w4 ⟨rfl, h4, _⟩
            have hc := (h4.below.cell (p := ⟨bk, off + j, none⟩) hbk).trans hc0
            clear h1 hc0
            go_wp2_with fail
            go_roundw
            case rel => exact ⟨j, by omega, rfl, h4⟩
            case measure => first | (simp [intOf]; done) | (simp [intOf]; omega)
      · have h1 := hov false (by simpa using hq)
        obtain rfl : n = zs.length := by omega
        have hq1 : ¬ (m : Int) < (zs.length : Int) := by omega
        have hnl : zs.length ≤ zs.length := Nat.le_refl _
        have hln : ((zs.take zs.length).length : Int) = (zs.length : Int) := by rw [List.take_length]
        clear hn hlt hi hi0 hov hq
        go_wp2_with fail
        refine h1.over.mono ?_
        rintro e w3 ⟨rfl, rfl⟩
        go_wp2_with fail
        refine (h1.len (zs.length : Int) hln).mono ?_
        rintro e w3 ⟨rfl, rfl⟩
        go_wp2_with fail
        go_loopw [9] (fun v9 wr => TurnB w.heap.size s m false zs w v9 wr) (fun v9 _ => (intOf v9 + 1).toNat)
        case atStart => exact ⟨zs.length, hnl, rfl, h1⟩
        case round =>
          clear h1
          obtain ⟨k, hk, rfl, h1⟩ := hrel
          rcases Nat.eq_zero_or_pos k with rfl | hk0
          · rw [List.take_zero] at h1
            have e01 : (((0 : Nat)) : Int) - 1 = -1 := rfl
            simp only [e01]
            go_wp2_with fail
            refine h1.popNo.mono ?_
            rintro e w4 ⟨rfl, rfl⟩
            go_wp2_with fail
            refine h1.over.mono ?_
            rintro e w5 ⟨rfl, rfl⟩
            have hbl := h1.below
            clear h1
            go_wp2_with fail
            go_ret
            exact ⟨rfl, hbl⟩
          · obtain ⟨j, rfl⟩ : ∃ j, k = j + 1 := ⟨k - 1, by omega⟩
            have hj : j < zs.length := by omega
            have hj1 : (j : Int) < (zs.length : Int) := by omega
            have hj0 : (0 : Int) ≤ (j : Int) := by omega
            obtain ⟨bk, off, rfl, hbk, hc0, hwf⟩ := HZ.out j hj
            rw [take_next hj] at h1
            generalize zs.getD j 0 = r at *
            have ekj : (((j + 1 : Nat)) : Int) - 1 = (j : Int) := by omega
            simp only [ekj]
            clear hwf ekj hk0
            go_wp2_with fail
            refine (h1.pop (by rw [List.length_take]; omega)).mono ?_
            rintro e w4 ⟨rfl, h4, _⟩
            have hc := (h4.below.cell (p := ⟨bk, off + j, none⟩) hbk).trans hc0
            clear h1 hc0
            go_wp2_with fail
            go_roundw
            case rel => exact ⟨j, by omega, rfl, h4⟩
            case measure => first | (simp [intOf]; done) | (simp [intOf]; omega)
theorem turns_frame (a0 : Option Addr) (zs : List Int) (cap : Nat) (lv : Int) (h : (Lit.int .u8 lv).wf = true) (w : World) (hl : zs.length ≤ 9223372036854775807) (hZ : RefsAtW w a0 zs) :
    Calls Try.prog 4 #[.slice a0 zs.length cap, .int .u8 lv] w fun e w' => e = .returned (.bool true) ∧ Below w.heap.size w w' := by
  obtain ⟨n, rfl, hn⟩ := u8_natT h
  exact turns_true a0 zs cap n hn w hl hZ
end Go.Proofs.Ytgpeppakohnmjaa
