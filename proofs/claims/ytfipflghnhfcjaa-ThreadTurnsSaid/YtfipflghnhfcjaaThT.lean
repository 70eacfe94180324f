/- ThreadTurns, walked, at this seat's numbers. -/
import Derived.Test.YtfipflghnhfcjaaThE
import Derived.Test.YtfipflghnhfcjaaArgsT
namespace Go.Proofs.Ytfipflghnhfcjaa
open Go Go.RowKit Go.Shelf
set_option linter.unusedSimpArgs false
set_option linter.unusedVariables false
attribute [local go_sem] Oper.semAt_some

theorem u8_natT {a : Int} (h : (Lit.int .u8 a).wf = true) : ∃ n : Nat, a = (n : Int) ∧ n < 256 := by
  have h2 : 0 ≤ a ∧ a ≤ 255 := by
    simp [Lit.wf, IntKind.min, IntKind.max, IntKind.signed, IntKind.bits] at h
    omega
  exact ⟨a.toNat, by omega, by omega⟩
theorem take_next {zs : List Int} {i : Nat} (h : i < zs.length) : zs.take (i + 1) = zs.take i ++ [zs.getD i 0] := by
  rw [List.take_add_one, List.getElem?_eq_getElem h]
  simp [List.getD, h]
def TurnA (B t m : Nat) (zs : List Int) (wb : World) (v6 v30 : Value) (wr : World) : Prop :=
  ∃ i n : Nat, i ≤ zs.length ∧ n = min i m ∧ v6 = .int .i64 (n : Int) ∧ v30 = .int .i64 (i : Int) ∧ ThIn B (fun _ => False) t 1 (m : Int) (updR (fun _ => 0) 0 77) (zs.take n) wb wr
def TurnB (B t m : Nat) (zs : List Int) (wb : World) (v10 : Value) (wr : World) : Prop :=
  ∃ k : Nat, k ≤ zs.length ∧ v10 = .int .i64 ((k : Int) - 1) ∧ ThIn B (fun _ => False) t 1 (m : Int) (updR (fun _ => 0) 0 77) (zs.take k) wb wr

set_option maxRecDepth 100000 in
set_option maxHeartbeats 4000000 in
theorem turns_true (a0 : Option Addr) (zs : List Int) (cap : Nat) (lv : Nat) (hlv : lv < 256) (w : World) (_ : zs.length ≤ 9223372036854775807) (hZ : RefsAtW w a0 zs) :
    Calls Try.prog 7 #[.slice a0 zs.length cap, .int .u8 (lv : Int)] w fun e w' => e = .returned (.bool true) ∧ Below w.heap.size w w' := by
  have HZ := Lib.hid hZ
  clear hZ
  have hf := thfit_true w
  obtain ⟨m, hm⟩ : ∃ m, m = lv % 12 := ⟨_, rfl⟩
  have hmt : (lv : Int).tmod 12 = (m : Int) := by rw [Int.tmod_eq_emod_of_nonneg (by omega)]; omega
  have hm12 : m < 12 := by omega
  have hmI : (m : Int) ≤ 12 := by omega
  have hm0 : (0 : Int) ≤ (m : Int) := by omega
  clear hm
  go_enter Try.func7, Try.ntmps7
  go_wp2_with fail
  refine hf.mono ?_
  rintro e w1 ⟨rfl, hB⟩
  clear hf
  by_cases hbig : 60 < (zs.length : Int)
  · go_wp2_with fail
    go_ret
    exact ⟨rfl, hB⟩
  go_wp2_with fail
  refine (thIn_new (B := w.heap.size) (F := fun _ => False) (wb := w) (wr := w1) 1 (m : Int) (by decide) (by omega) (fun _ h => h.elim) hB (Nat.le_refl _)).mono ?_
  rintro e w2 ⟨t, rfl, h2, _⟩
  clear hB
  go_wp2_with fail
  refine (h2.setReg 0 0 rfl (by decide) 77).mono ?_
  rintro e w3 ⟨rfl, h3, _⟩
  clear h2
  go_wp2_with fail
  go_loopw [6, 30] (fun v6 v30 wr => TurnA w.heap.size t m zs w v6 v30 wr) (fun _ v30 _ => zs.length - (intOf v30).toNat)
  case atStart => exact ⟨0, 0, Nat.zero_le _, by omega, rfl, rfl, h3⟩
  case round =>
    clear h3
    obtain ⟨i, n, hi, hn, rfl, rfl, h1⟩ := hrel
    have hi0 : (0 : Int) ≤ (i : Int) := by omega
    by_cases hlt : i < zs.length
    · have hi1 : (i : Int) < (zs.length : Int) := by omega
      obtain ⟨bk, off, rfl, hbk, hc0, hwf⟩ := HZ.out i hlt
      have hc := (h1.below.cell (p := ⟨bk, off + i, none⟩) hbk).trans hc0
      have htk := take_next hlt
      generalize zs.getD i 0 = r at *
      clear hc0 hwf
      have hln : (zs.take n).length = n := by rw [List.length_take]; omega
      by_cases hnm : n < m
      · obtain rfl : n = i := by omega
        have hnI : (n : Int) < (m : Int) := by omega
        have cP := h1.push (by rw [hln]; exact hnI) r
        rw [← htk] at cP
        clear h1 hln htk hn
        go_wp2_with fail
        refine cP.mono ?_
        rintro e w4 ⟨rfl, h4, _⟩
        clear cP hc
        go_wp2_with fail
        go_roundw
        case rel => exact ⟨n + 1, n + 1, hlt, by omega, by go_num, by go_num, h4⟩
        case measure => simp [intOf]; omega
      · have hnI : ¬ (n : Int) < (m : Int) := by omega
        have cP := h1.pushNo (by rw [hln]; omega) r
        have HN := Lib.hid hn
        clear hln htk hn
        go_wp2_with fail
        refine cP.mono ?_
        rintro e w4 ⟨rfl, hB4⟩
        have h4 := h1.ask hB4
        clear cP hc h1 hB4
        go_wp2_with fail
        go_roundw
        case rel => exact ⟨i + 1, n, hlt, by have := HN.out; omega, by go_num, by go_num, h4⟩
        case measure => simp [intOf]; omega
    · have hi1 : ¬ (i : Int) < (zs.length : Int) := by omega
      have hnl : n ≤ zs.length := by omega
      clear hn hlt hi hi0
      go_wp2_with fail
      go_loopw [10] (fun v10 wr => TurnB w.heap.size t m zs w v10 wr) (fun v10 _ => (intOf v10 + 1).toNat)
      case atStart => exact ⟨n, hnl, rfl, h1⟩
      case round =>
        clear h1
        obtain ⟨k, hk, rfl, h1⟩ := hrel
        rcases Nat.eq_zero_or_pos k with rfl | hk0
        · rw [List.take_zero] at h1
          have e01 : (((0 : Nat)) : Int) - 1 = -1 := rfl
          simp only [e01]
          go_wp2_with fail
          refine h1.popNo.mono ?_
          rintro e w4 ⟨rfl, rfl⟩
          go_wp2_with fail
          refine (h1.reg 0 0 rfl (by decide) 77 rfl).mono ?_
          rintro e w5 ⟨rfl, hB5⟩
          have hbl := (h1.ask hB5).below
          clear h1 hB5
          go_wp2_with fail
          go_ret
          exact ⟨rfl, hbl⟩
        · obtain ⟨j, rfl⟩ : ∃ j, k = j + 1 := ⟨k - 1, by omega⟩
          have hj : j < zs.length := by omega
          have hj1 : (j : Int) < (zs.length : Int) := by omega
          have hj0 : (0 : Int) ≤ (j : Int) := by omega
          obtain ⟨bk, off, rfl, hbk, hc0, hwf⟩ := HZ.out j hj
          rw [take_next hj] at h1
          generalize zs.getD j 0 = r at *
          have ekj : (((j + 1 : Nat)) : Int) - 1 = (j : Int) := by omega
          simp only [ekj]
          clear hwf ekj hk0
          go_wp2_with fail
          refine h1.pop.mono ?_
          rintro e w4 ⟨rfl, h4, _⟩
          have hc := (h4.below.cell (p := ⟨bk, off + j, none⟩) hbk).trans hc0
          clear h1 hc0
          go_wp2_with fail
          go_roundw
          case rel => exact ⟨j, by omega, rfl, h4⟩
          case measure => first | (simp [intOf]; done) | (simp [intOf]; omega)
theorem turns_frame (a0 : Option Addr) (zs : List Int) (cap : Nat) (lv : Int) (h : (Lit.int .u8 lv).wf = true) (w : World) (hl : zs.length ≤ 9223372036854775807) (hZ : RefsAtW w a0 zs) :
    Calls Try.prog 7 #[.slice a0 zs.length cap, .int .u8 lv] w fun e w' => e = .returned (.bool true) ∧ Below w.heap.size w w' := by
  obtain ⟨n, rfl, hn⟩ := u8_natT h
  exact turns_true a0 zs cap n hn w hl hZ
end Go.Proofs.Ytfipflghnhfcjaa
