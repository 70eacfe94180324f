/- PhaseCycles, walked, at this seat's numbers. -/
import Derived.Test.YtacnikibmhlmiaaPhH
namespace Go.Proofs.Ytacnikibmhlmiaa
open Go Go.RowKit
set_option linter.unusedSimpArgs false
set_option linter.unusedVariables false
attribute [local go_sem] Oper.semAt_some

def JnQ (B p : Nat) (f : Nat → Bool) (wb : World) (v : Value) (wr : World) : Prop :=
  ∃ j : Nat, j ≤ 4 ∧ v = .int .i64 (j : Int) ∧ PhIn B p (Phs.jn f j) wb wr
def CyQ (B p K : Nat) (l : Nat → Bool) (wb : World) (v : Value) (wr : World) : Prop :=
  ∃ k : Nat, k ≤ K ∧ v = .int .i64 (k : Int) ∧ PhIn B p (Phs.reC l (2 * k)) wb wr
/-- The greatest of what Now may still tell. -/
def left3 (p : Nat) (wr : World) : Nat := 3 - (intOf ((wr.cell? ⟨p, 0, none⟩).getD undef)).toNat
def StQ (B p : Nat) (l : Nat → Bool) (r : Nat) (wb : World) (wr : World) : Prop :=
  ∃ n : Nat, 1 ≤ n ∧ n ≤ 3 ∧ PhIn B p (Phs.stC l r n) wb wr
def AkQ (B p : Nat) (l : Nat → Bool) (r n : Nat) (wb : World) (v : Value) (wr : World) : Prop :=
  ∃ j : Nat, j ≤ 4 ∧ v = .int .i64 (j : Int) ∧ PhIn B p (Phs.akC l r n j) wb wr
theorem left_of {B p n : Nat} {l : Nat → Bool} {r : Nat} {wb wr : World} (h : PhIn B p (Phs.stC l r n) wb wr) : left3 p wr = 3 - n := by
  unfold left3
  have := h.at_.c0
  rw [this]
  simp [intOf, Phs.stC]

set_option maxRecDepth 100000 in
set_option maxHeartbeats 16000000 in
theorem pcycles_true (a0 : Int) (wf0 : (Lit.int .u8 a0).wf = true) (a1 : Int) (wf1 : (Lit.int .u8 a1).wf = true) (w : World) :
    Calls Try.prog 7 #[.int .u8 a0, .int .u8 a1] w fun e w' => e = .returned (.bool true) ∧ Below w.heap.size w w' := by
  have hf := phfit_true w
  obtain ⟨A, rfl, hA⟩ := byte_of wf0
  obtain ⟨C, rfl, hC⟩ := byte_of wf1
  obtain ⟨K, hK⟩ : ∃ K : Nat, C % 6 = K := ⟨_, rfl⟩
  have hK6 : K < 6 := by omega
  have hK6I : (K : Int) < 6 := by omega
  have hKt : (C : Int).tmod 6 = (K : Int) := by rw [Int.tmod_eq_emod_of_nonneg (by omega)]; omega
  have hKe : (C : Int) % 6 = (K : Int) := by omega
  clear wf0 wf1 hK
  go_enter Try.func7, Try.ntmps7
  go_wp2_with fail
  refine hf.mono ?_
  rintro e w1 ⟨rfl, hB⟩
  clear hf
  go_wp2_with fail
  refine (phIn_new (B := w.heap.size) (wb := w) (wr := w1) hB (Nat.le_refl _)).mono ?_
  rintro e w2 ⟨p, rfl, h2, _⟩
  have H2 := Lib.hid h2
  clear hB h2
  go_wp2_with fail
  go_loopw [6, 13] (fun _ v wr => JnQ w.heap.size p A.testBit w v wr) (fun _ v _ => 4 - (intOf v).toNat)
  case atStart => exact ⟨0, by omega, rfl, H2.out.is (Phs.jn_zero _).symm⟩
  case round =>
    clear H2
    obtain ⟨j, hj, rfl, h3⟩ := hrel
    by_cases hj4 : j < 4
    · have d1 : (j : Int) < 4 := by omega
      have d0 : (0 : Int) ≤ (j : Int) := by omega
      have hb := bit_of hA j
      cases hbj : A.testBit j
      · rw [hbj] at hb
        have H4 := Lib.hid (h3.is (Phs.jn_skip hbj))
        clear hbj h3
        go_wp2_with fail
        go_roundw
        case rel => exact ⟨j + 1, by omega, by go_num, H4.out⟩
        case measure => simp [intOf]; omega
      · rw [hbj] at hb
        have cJ := h3.at_.joinC hj4
        rw [Phs.jn_join hbj] at cJ
        have CJ := Lib.hid cJ
        clear hbj cJ
        go_wp2_with fail
        refine CJ.out.mono ?_
        rintro e w4 ⟨rfl, k, T⟩
        have H4 := Lib.hid (h3.step k T)
        clear k T h3 CJ
        go_wp2_with fail
        go_roundw
        case rel => exact ⟨j + 1, by omega, by go_num, H4.out⟩
        case measure => simp [intOf]; omega
    · obtain rfl : j = 4 := by omega
      simp only [show ((4 : Nat) : Int) = 4 from rfl]
      have hE := h3.is (Phs.jn_re A.testBit)
      clear h3 hj hj4

      obtain ⟨l, hl⟩ : ∃ l, upto A.testBit 4 = l := ⟨_, rfl⟩
      have hl4 : upto l 4 = l := by rw [← hl, upto_upto]
      rw [hl] at hE
      have HE := Lib.hid hE
      have HL := Lib.hid hl4
      clear hE hl hl4
      go_wp2_with fail
      go_loopw [7, 28] (fun _ v wr => CyQ w.heap.size p K l w v wr) (fun _ v _ => K - (intOf v).toNat)
      case atStart => exact ⟨0, by omega, rfl, HE.out⟩
      case round =>
        clear HE
        obtain ⟨k, hk, rfl, h3⟩ := hrel
        by_cases hk4 : k < K
        · have d1 : (k : Int) < (K : Int) := by omega
          have d0 : (0 : Int) ≤ (k : Int) := by omega
          have dk : (k : Int) < 6 := by omega
          obtain ⟨r, hr⟩ : ∃ r, 2 * k = r := ⟨_, rfl⟩
          have hr2 : r ≤ 1000 := by omega
          rw [hr] at h3
          have HR := Lib.hid hr
          clear hr
          go_wp2_with fail
          refine (show Calls Try.prog 13 #[.pointer (some ⟨p, 0, none⟩)] wr (fun e w' => e = .returned (.int .i64 0) ∧ wr = w') from h3.at_.nowC).mono ?_
          rintro e w9 ⟨rfl, rfl⟩
          go_wp2_with fail
          refine (show Calls Try.prog 22 #[.pointer (some ⟨p, 0, none⟩)] wr (PhPost p (Phs.reC l r) wr (.bool false)) from h3.at_.markedC).mono ?_
          rintro e w4 ⟨rfl, k, T⟩
          have hw4 := h3.step k T
          clear k T h3
          go_wp2_with fail
          refine (show Calls Try.prog 23 #[.pointer (some ⟨p, 0, none⟩)] w4 (PhPost p (Phs.reC l r) w4 (.bool false)) from hw4.at_.sweptC).mono ?_
          rintro e w5 ⟨rfl, k, T⟩
          have hw5 := hw4.step k T
          clear k T hw4
          go_wp2_with fail
          refine (show Calls Try.prog 20 #[.pointer (some ⟨p, 0, none⟩)] w5 (PhPost p (Phs.reC l r) w5 (.bool false)) from hw5.at_.advanceC (by show r ≤ 1000000; omega)).mono ?_
          rintro e w6 ⟨rfl, k, T⟩
          have hw6 := hw5.step k T
          clear k T hw5
          go_wp2_with fail
          refine (show Calls Try.prog 19 #[.pointer (some ⟨p, 0, none⟩)] w6 (PhPost p (Phs.stC l r 1) w6 (.bool true)) from hw6.at_.beginC).mono ?_
          rintro e w7 ⟨rfl, k, T⟩
          have hw7 := hw6.step k T
          clear k T hw6
          go_wp2_with fail
          have H7 := Lib.hid hw7
          clear hw7
          go_loopw [8, 9, 51, 52, 53, 54, 55, 56] (fun _ _ _ _ _ _ _ _ wr => StQ w.heap.size p l r w wr) (fun _ _ _ _ _ _ _ _ wr => left3 p wr)
          case atStart => exact ⟨1, by omega, by omega, H7.out⟩
          case round =>
            clear H7
            obtain ⟨n, hn1, hn3, h4⟩ := hrel
            have hM := left_of h4
            by_cases hn : n < 3
            · have hn12 : n = 1 ∨ n = 2 := by omega
              have e1 : (n : Int) < 3 := by omega
              have e0 : (0 : Int) ≤ (n : Int) := by omega
              have cN : Calls Try.prog 13 #[.pointer (some ⟨p, 0, none⟩)] wr (fun e w' => e = .returned (.int .i64 (n : Int)) ∧ wr = w') := h4.at_.nowC
              have H4 := Lib.hid (And.intro h4 hM)
              clear h4 hM
              go_wp2_with fail
              refine cN.mono ?_
              rintro e w9 ⟨rfl, rfl⟩
              go_wp2_with fail
              refine cN.mono ?_
              rintro e w9 ⟨rfl, rfl⟩
              clear cN
              go_wp2_with fail
              go_loopw [9, 56] (fun _ v wr => AkQ w.heap.size p l r n w v wr) (fun _ v _ => 4 - (intOf v).toNat)
              case atStart => exact ⟨0, by omega, rfl, H4.out.1.is (Phs.akC_zero _ _ _).symm⟩
              case round =>
                obtain ⟨j, hj, rfl, h5⟩ := hrel
                by_cases hj4 : j < 4
                · have d1 : (j : Int) < 4 := by omega
                  have d0 : (0 : Int) ≤ (j : Int) := by omega
                  have cA := h5.at_.ackC hj4
                  rw [Phs.akC_ack hn12] at cA
                  generalize (Phs.akC l r n j).wants j = bw at *
                  go_wp2_with fail
                  refine cA.mono ?_
                  rintro e w5 ⟨rfl, k5, T⟩
                  have H5 := Lib.hid (h5.step k5 T)
                  clear k5 T h5 cA
                  go_wp2_with fail
                  go_roundw
                  case rel => exact ⟨j + 1, by omega, by go_num, H5.out⟩
                  case measure => simp [intOf]; omega
                · obtain rfl : j = 4 := by omega
                  have cV := h5.at_.advanceC (show r + (n - 1) ≤ 1000000 by omega)
                  rw [Phs.akC_advB hn12, Phs.akC_adv hn12 HL.out] at cV
                  have CV := Lib.hid cV
                  clear cV hj hj4
                  go_wp2_with fail
                  refine CV.out.mono ?_
                  rintro e w5 ⟨rfl, k5, T⟩
                  have h6 := h5.step k5 T
                  have cN : Calls Try.prog 13 #[.pointer (some ⟨p, 0, none⟩)] w5 (fun e w' => e = .returned (.int .i64 ((n : Int) + 1)) ∧ w5 = w') := h6.at_.nowC
                  have hM6 := left_of h6
                  have H6 := Lib.hid (And.intro h6 hM6)
                  clear k5 T h5 CV h6 hM6
                  go_wp2_with fail
                  refine cN.mono ?_
                  rintro e w9 ⟨rfl, rfl⟩
                  clear cN
                  go_wp2_with fail
                  go_roundw
                  case rel => exact ⟨n + 1, by omega, by omega, H6.out.1⟩
                  case measure => rw [H6.out.2, H4.out.2]; omega
            · obtain rfl : n = 3 := by omega
              have cN : Calls Try.prog 13 #[.pointer (some ⟨p, 0, none⟩)] wr (fun e w' => e = .returned (.int .i64 3) ∧ wr = w') := h4.at_.nowC
              clear hM hn hn1 hn3
              go_wp2_with fail
              refine cN.mono ?_
              rintro e w9 ⟨rfl, rfl⟩
              clear cN
              go_wp2_with fail
              refine (show Calls Try.prog 23 #[.pointer (some ⟨p, 0, none⟩)] wr (PhPost p (Phs.stC l r 3) wr (.bool false)) from h4.at_.sweptC).mono ?_
              rintro e w4 ⟨rfl, k, T⟩
              have hw4 := h4.step k T
              clear k T h4
              go_wp2_with fail
              refine (show Calls Try.prog 19 #[.pointer (some ⟨p, 0, none⟩)] w4 (PhPost p (Phs.stC l r 3) w4 (.bool false)) from hw4.at_.beginC).mono ?_
              rintro e w5 ⟨rfl, k, T⟩
              have hw5 := hw4.step k T
              clear k T hw4
              go_wp2_with fail
              refine (show Calls Try.prog 22 #[.pointer (some ⟨p, 0, none⟩)] w5 (PhPost p ⟨4, r + 2, l, noB, noB⟩ w5 (.bool true)) from hw5.at_.markedC).mono ?_
              rintro e w6 ⟨rfl, k, T⟩
              have hw6 := hw5.step k T
              clear k T hw5
              go_wp2_with fail
              refine (show Calls Try.prog 13 #[.pointer (some ⟨p, 0, none⟩)] w6 (fun e w' => e = .returned (.int .i64 4) ∧ w6 = w') from hw6.at_.nowC).mono ?_
              rintro e w9 ⟨rfl, rfl⟩
              go_wp2_with fail
              refine (show Calls Try.prog 22 #[.pointer (some ⟨p, 0, none⟩)] w6 (PhPost p ⟨4, r + 2, l, noB, noB⟩ w6 (.bool false)) from hw6.at_.markedC).mono ?_
              rintro e w7 ⟨rfl, k, T⟩
              have hw7 := hw6.step k T
              clear k T hw6
              go_wp2_with fail
              refine (show Calls Try.prog 19 #[.pointer (some ⟨p, 0, none⟩)] w7 (PhPost p ⟨4, r + 2, l, noB, noB⟩ w7 (.bool false)) from hw7.at_.beginC).mono ?_
              rintro e w8 ⟨rfl, k, T⟩
              have hw8 := hw7.step k T
              clear k T hw7
              go_wp2_with fail
              refine (show Calls Try.prog 23 #[.pointer (some ⟨p, 0, none⟩)] w8 (PhPost p (Phs.reC l (r + 2)) w8 (.bool true)) from hw8.at_.sweptC).mono ?_
              rintro e wf ⟨rfl, k, T⟩
              have hwf := hw8.step k T
              clear k T hw8
              go_wp2_with fail
              have cR : Calls Try.prog 14 #[.pointer (some ⟨p, 0, none⟩)] wf (fun e w' => e = .returned (.int .i64 (2 * (k : Int) + 2)) ∧ wf = w') := by
                have := hwf.at_.roundsC
                have e : ((Phs.reC l (r + 2)).rounds : Int) = 2 * (k : Int) + 2 := by
                  show ((r + 2 : Nat) : Int) = _
                  rw [← HR.out]; simp
                rw [e] at this
                exact this
              refine cR.mono ?_
              rintro e w9 ⟨rfl, rfl⟩
              have HF := Lib.hid (hwf.is (show Phs.reC l (r + 2) = Phs.reC l (2 * (k + 1)) by rw [← HR.out]; rfl))
              clear hwf cR
              go_wp2_with fail
              go_roundw
              case rel => exact ⟨k + 1, by omega, by go_num, HF.out⟩
              case measure => simp [intOf]; omega
        · obtain rfl : k = K := by omega
          have cN : Calls Try.prog 13 #[.pointer (some ⟨p, 0, none⟩)] wr (fun e w' => e = .returned (.int .i64 0) ∧ wr = w') := h3.at_.nowC
          have hbl := h3.below
          clear h3 hk hk4 hKt hKe
          go_wp2_with fail
          refine cN.mono ?_
          rintro e w9 ⟨rfl, rfl⟩
          go_wp2_with fail
          go_ret
          exact ⟨rfl, hbl⟩

end Go.Proofs.Ytacnikibmhlmiaa
