/- PhaseRounds, walked, at this seat's numbers. -/
import Derived.Test.YtacnikibmhlmiaaPhY
import Derived.Test.YtacnikibmhlmiaaArgsQ
import Derived.Test.YtacnikibmhlmiaaPhR
namespace Go.Proofs.Ytacnikibmhlmiaa
open Go Go.RowKit
set_option linter.unusedSimpArgs false
set_option linter.unusedVariables false
attribute [local go_sem] Oper.semAt_some

def RdQ (B p : Nat) (l : Nat → Bool) (wb : World) (v : Value) (wr : World) : Prop :=
  ∃ n : Nat, n ≤ 2 ∧ v = .int .i64 (n : Int) ∧ PhIn B p (Phs.stC l 0 (n + 1)) wb wr
def WtQ (B p : Nat) (l : Nat → Bool) (n : Nat) (wb : World) (v : Value) (wr : World) : Prop :=
  ∃ j : Nat, j ≤ 4 ∧ v = .int .i64 (j : Int) ∧ PhIn B p (Phs.stC l 0 n) wb wr
def AlQ (B p : Nat) (l : Nat → Bool) (n : Nat) (wb : World) (v9 v : Value) (wr : World) : Prop :=
  ∃ j c : Nat, j ≤ 4 ∧ c ≤ j ∧ v9 = .int .i64 (c : Int) ∧ v = .int .i64 (j : Int) ∧ PhIn B p (Phs.akC l 0 n j) wb wr
def MoQ (B p len : Nat) (l : Nat → Bool) (wb : World) (v : Value) (wr : World) : Prop :=
  ∃ i : Nat, i ≤ len ∧ v = .int .i64 (i : Int) ∧ PhIn B p (Phs.reC l 2) wb wr
namespace Phs
theorem reC_doS (l : Nat → Bool) (r : Nat) {kind : Nat} (hk : kind = 1 ∨ kind = 4 ∨ kind = 5 ∨ kind = 6) (t : Nat) : (reC l r).doS kind t = reC l r ∧ (reC l r).doB kind t = false := by
  rcases hk with rfl | rfl | rfl | rfl
  · exact ⟨quiet_ack (S := reC l r) rfl t, wants_no (S := reC l r) (t := t) rfl⟩
  · exact ⟨quiet_adv (S := reC l r) rfl, quiet_advB (S := reC l r) rfl⟩
  · exact ⟨rfl, rfl⟩
  · exact ⟨rfl, rfl⟩
theorem stC_wants {l : Nat → Bool} {r n : Nat} (hn : n = 1 ∨ n = 2) (t : Nat) : (stC l r n).wants t = l t := by
  rw [← akC_zero, akC_wants hn, upto_zero]; simp [noB]
end Phs

set_option maxRecDepth 100000 in
set_option maxHeartbeats 16000000 in
theorem prounds_true (a0 : Int) (wf0 : (Lit.int .u8 a0).wf = true) (a1 : Option Addr) (len cap : Nat) (K N : Nat → Int) (w : World) (_ : len ≤ 9223372036854775807) (hZ : DuesAt w a1 len K N) :
    Calls Try.prog 5 #[.int .u8 a0, .slice a1 len cap] w fun e w' => e = .returned (.bool true) ∧ Below w.heap.size w w' := by
  have HZ := Lib.hid hZ
  clear hZ
  have hf := phfit_true w
  obtain ⟨A, rfl, hA⟩ := byte_of wf0
  go_enter Try.func5, Try.ntmps5
  go_wp2_with fail
  refine hf.mono ?_
  rintro e w1 ⟨rfl, hB⟩
  clear hf
  by_cases hbig : 60 < (len : Int)
  · go_wp2_with fail
    go_ret
    exact ⟨rfl, hB⟩
  have hbd : decide (60 < (len : Int)) = false := by simpa using hbig
  go_wp2_with fail
  refine (phIn_new (B := w.heap.size) (wb := w) (wr := w1) hB (Nat.le_refl _)).mono ?_
  rintro e w2 ⟨p, rfl, h2, _⟩
  have H2 := Lib.hid h2
  clear hB h2 hbd
  go_wp2_with fail
  go_loopw [6, 20] (fun _ v wr => JnQ w.heap.size p A.testBit w v wr) (fun _ v _ => 4 - (intOf v).toNat)
  case atStart => exact ⟨0, by omega, rfl, H2.out.is (Phs.jn_zero _).symm⟩
  case round =>
    clear H2
    obtain ⟨j, hj, rfl, h3⟩ := hrel
    by_cases hj4 : j < 4
    · have d1 : (j : Int) < 4 := by omega
      have d0 : (0 : Int) ≤ (j : Int) := by omega
      have hb := bit_of hA j
      cases hbj : A.testBit j
      · rw [hbj] at hb
        have H4 := Lib.hid (h3.is (Phs.jn_skip hbj))
        clear hbj h3
        go_wp2_with fail
        go_roundw
        case rel => exact ⟨j + 1, by omega, by go_num, H4.out⟩
        case measure => simp [intOf]; omega
      · rw [hbj] at hb
        have cJ := h3.at_.joinC hj4
        rw [Phs.jn_join hbj] at cJ
        have CJ := Lib.hid cJ
        clear hbj cJ
        go_wp2_with fail
        refine CJ.out.mono ?_
        rintro e w4 ⟨rfl, k, T⟩
        have H4 := Lib.hid (h3.step k T)
        clear k T h3 CJ
        go_wp2_with fail
        go_roundw
        case rel => exact ⟨j + 1, by omega, by go_num, H4.out⟩
        case measure => simp [intOf]; omega
    · obtain rfl : j = 4 := by omega
      simp only [show ((4 : Nat) : Int) = 4 from rfl]
      have hE := h3.is (Phs.jn_re A.testBit)
      clear h3 hj hj4

      obtain ⟨l, hl⟩ : ∃ l, upto A.testBit 4 = l := ⟨_, rfl⟩
      have hl4 : upto l 4 = l := by rw [← hl, upto_upto]
      have hlb : ∀ j, j < 4 → l j = A.testBit j := fun j hj => by rw [← hl, upto_lt _ hj]
      rw [hl] at hE
      have HL := Lib.hid (And.intro hl4 hlb)
      clear hl hl4 hlb
      go_wp2_with fail
      refine (show Calls Try.prog 19 #[.pointer (some ⟨p, 0, none⟩)] wr (PhPost p (Phs.stC l 0 1) wr (.bool true)) from hE.at_.beginC).mono ?_
      rintro e w7 ⟨rfl, k, T⟩
      have hw7 := hE.step k T
      clear k T hE
      go_wp2_with fail
      have H7 := Lib.hid hw7
      clear hw7
      go_loopw [7, 8, 9, 10, 34] (fun _ _ _ _ v wr => RdQ w.heap.size p l w v wr) (fun _ _ _ _ v _ => 2 - (intOf v).toNat)
      case atStart => exact ⟨0, by omega, rfl, H7.out⟩
      case round =>
        clear H7
        obtain ⟨n, hn, rfl, h3⟩ := hrel
        by_cases hn2 : n < 2
        · have e1 : (n : Int) < 2 := by omega
          have e0 : (0 : Int) ≤ (n : Int) := by omega
          have hn12 : n + 1 = 1 ∨ n + 1 = 2 := by omega
          have H3 := Lib.hid h3
          clear h3
          go_wp2_with fail
          go_loopw [8, 37] (fun _ v wr => WtQ w.heap.size p l (n + 1) w v wr) (fun _ v _ => 4 - (intOf v).toNat)
          case atStart => exact ⟨0, by omega, rfl, H3.out⟩
          case round =>
            clear H3
            obtain ⟨j, hj, rfl, h4⟩ := hrel
            by_cases hj4 : j < 4
            · have d1 : (j : Int) < 4 := by omega
              have d0 : (0 : Int) ≤ (j : Int) := by omega
              have hb := bit_of hA j
              have h4d := h4.drew
              have cW := h4d.at_.wantsC hj4
              rw [Phs.stC_wants hn12, HL.out.2 j hj4] at cW
              generalize A.testBit j = bj at *
              have H4 := Lib.hid h4d
              clear h4 h4d
              go_wp2_with fail
              go_region_held3 (fun W' => HeldT W') (exact (trivial : HeldT _))
                (first
                  | (go_at_call 16; refine cW.mono ?_; rintro e w7 ⟨rfl, rfl⟩))
              all_goals
                clear cW
                go_wp2_with fail
                go_roundw
                case rel => exact ⟨j + 1, by omega, by go_num, H4.out⟩
                case measure => simp [intOf]; omega
            · obtain rfl : j = 4 := by omega
              simp only [show ((4 : Nat) : Int) = 4 from rfl]
              have H4 := Lib.hid (h4.is (Phs.akC_zero _ _ _).symm)
              clear h4 hj hj4
              go_wp2_with fail
              go_loopw [9, 10, 50] (fun v9 _ v wr => AlQ w.heap.size p l (n + 1) w v9 v wr) (fun _ _ v _ => 4 - (intOf v).toNat)
              case atStart => exact ⟨0, 0, by omega, by omega, rfl, rfl, H4.out⟩
              case round =>
                clear H4
                obtain ⟨j, c, hj, hc, rfl, rfl, h5⟩ := hrel
                by_cases hj4 : j < 4
                · have d1 : (j : Int) < 4 := by omega
                  have d0 : (0 : Int) ≤ (j : Int) := by omega
                  have c1 : (c : Int) ≤ 4 := by omega
                  have c0 : (0 : Int) ≤ (c : Int) := by omega
                  have hb := bit_of0 hA j
                  have hlj := HL.out.2 j hj4
                  cases hbj : A.testBit j
                  · rw [hbj] at hb hlj
                    have H5 := Lib.hid (h5.is (show Phs.akC l 0 (n + 1) j = Phs.akC l 0 (n + 1) (j + 1) by unfold Phs.akC; rw [upto_no hlj]))
                    clear h5 hbj hlj
                    go_wp2_with fail
                    go_roundw
                    case rel => exact ⟨j + 1, c, by omega, by omega, rfl, by go_num, H5.out⟩
                    case measure => simp [intOf]; omega
                  · rw [hbj] at hb hlj
                    have cV := h5.at_.advanceC (show 0 + (n + 1 - 1) ≤ 1000000 by omega)
                    rw [Phs.not_adv (Phs.akC_wait hn12 hj4 hlj), Phs.akC_wait hn12 hj4 hlj] at cV
                    have CV := Lib.hid cV
                    have HJ := Lib.hid hlj
                    clear hbj cV hlj
                    go_wp2_with fail
                    refine CV.out.mono ?_
                    rintro e w5 ⟨rfl, k, T⟩
                    have h6 := h5.step k T
                    clear k T h5 CV
                    have cA := h6.at_.ackC hj4
                    rw [Phs.akC_ack hn12, Phs.akC_next hn12, HJ.out] at cA
                    have CA := Lib.hid cA
                    clear cA
                    go_wp2_with fail
                    refine CA.out.mono ?_
                    rintro e w6 ⟨rfl, k, T⟩
                    have h7 := h6.step k T
                    clear k T h6 CA
                    have hno : (Phs.akC l 0 (n + 1) (j + 1)).wants j = false := by rw [Phs.akC_wants hn12, upto_lt _ (by omega), HJ.out]; rfl
                    have cA := h7.at_.ackC hj4
                    rw [Phs.not_ack hno, hno] at cA
                    have CA := Lib.hid cA
                    clear cA hno
                    go_wp2_with fail
                    refine CA.out.mono ?_
                    rintro e w8 ⟨rfl, k, T⟩
                    have H8 := Lib.hid (h7.step k T)
                    clear k T h7 CA
                    go_wp2_with fail
                    go_roundw
                    case rel => exact ⟨j + 1, c + 1, by omega, by omega, by go_num, by go_num, H8.out⟩
                    case measure => simp [intOf]; omega
                · obtain rfl : j = 4 := by omega
                  have cN : Calls Try.prog 13 #[.pointer (some ⟨p, 0, none⟩)] wr (fun e w' => e = .returned (.int .i64 (1 + (n : Int))) ∧ wr = w') := by
                    have := h5.at_.nowC
                    rw [show ((Phs.akC l 0 (n + 1) 4).now : Int) = 1 + (n : Int) by show ((n + 1 : Nat) : Int) = _; omega] at this
                    exact this
                  have cV := h5.at_.advanceC (show 0 + (n + 1 - 1) ≤ 1000000 by omega)
                  rw [Phs.akC_advB hn12, Phs.akC_adv hn12 HL.out.1] at cV
                  have CV := Lib.hid cV
                  clear cV hj hj4
                  go_wp2_with fail
                  refine cN.mono ?_
                  rintro e w9 ⟨rfl, rfl⟩
                  clear cN
                  go_wp2_with fail
                  refine CV.out.mono ?_
                  rintro e w5 ⟨rfl, k, T⟩
                  have h6 := h5.step k T
                  have cN : Calls Try.prog 13 #[.pointer (some ⟨p, 0, none⟩)] w5 (fun e w' => e = .returned (.int .i64 (2 + (n : Int))) ∧ w5 = w') := by
                    have := h6.at_.nowC
                    rw [show ((Phs.stC l 0 (n + 1 + 1)).now : Int) = 2 + (n : Int) by show ((n + 1 + 1 : Nat) : Int) = _; omega] at this
                    exact this
                  have H6 := Lib.hid h6
                  clear k T h5 CV h6
                  go_wp2_with fail
                  refine cN.mono ?_
                  rintro e w9 ⟨rfl, rfl⟩
                  clear cN
                  go_wp2_with fail
                  go_roundw
                  case rel => exact ⟨n + 1, by omega, by go_num, H6.out⟩
                  case measure => simp [intOf]; omega
        · obtain rfl : n = 2 := by omega
          simp only [show ((2 : Nat) : Int) = 2 from rfl]
          have hR : (Phs.stC l 0 3).rounds = 2 := rfl
          clear hn hn2
          go_wp2_with fail
          refine (show Calls Try.prog 20 #[.pointer (some ⟨p, 0, none⟩)] wr (PhPost p (Phs.stC l 0 3) wr (.bool false)) from h3.at_.advanceC (show 2 ≤ 1000000 by omega)).mono ?_
          rintro e w4 ⟨rfl, k, T⟩
          have hw4 := h3.step k T
          clear k T h3
          go_wp2_with fail
          refine (show Calls Try.prog 13 #[.pointer (some ⟨p, 0, none⟩)] w4 (fun e w' => e = .returned (.int .i64 3) ∧ w4 = w') from hw4.at_.nowC).mono ?_
          rintro e w9 ⟨rfl, rfl⟩
          go_wp2_with fail
          refine (show Calls Try.prog 22 #[.pointer (some ⟨p, 0, none⟩)] w4 (PhPost p ⟨4, 2, l, noB, noB⟩ w4 (.bool true)) from hw4.at_.markedC).mono ?_
          rintro e w5 ⟨rfl, k, T⟩
          have hw5 := hw4.step k T
          clear k T hw4
          go_wp2_with fail
          refine (show Calls Try.prog 23 #[.pointer (some ⟨p, 0, none⟩)] w5 (PhPost p (Phs.reC l 2) w5 (.bool true)) from hw5.at_.sweptC).mono ?_
          rintro e w6 ⟨rfl, k, T⟩
          have hw6 := hw5.step k T
          clear k T hw5
          go_wp2_with fail
          refine (show Calls Try.prog 13 #[.pointer (some ⟨p, 0, none⟩)] w6 (fun e w' => e = .returned (.int .i64 0) ∧ w6 = w') from hw6.at_.nowC).mono ?_
          rintro e w9 ⟨rfl, rfl⟩
          go_wp2_with fail
          have H6 := Lib.hid hw6
          clear hw6 hR
          go_loopw [12, 13, 116] (fun _ _ v wr => MoQ w.heap.size p len l w v wr) (fun _ _ v _ => len - (intOf v).toNat)
          case atStart => exact ⟨0, by omega, rfl, H6.out⟩
          case round =>
            clear H6
            obtain ⟨i, hi, rfl, h4⟩ := hrel
            have hi0 : (0 : Int) ≤ (i : Int) := by omega
            by_cases hlt : i < len
            · have hi1 : (i : Int) < (len : Int) := by omega
              obtain ⟨bk, off, rfl, hbk, hq0, hq1, hw0, hw1⟩ := HZ.out i hlt
              have hc0 := (h4.below.cell (p := ⟨bk, off + i * 2, none⟩) hbk).trans hq0
              have hc1 := (h4.below.cell (p := ⟨bk, off + i * 2 + 1, none⟩) hbk).trans hq1
              generalize K i = kd at *
              generalize N i = td at *
              obtain ⟨kind, t, hk7, ht4, hke, hte, hk0, hk9⟩ := due_of (n := td) hw0
              have hke2 : kd % 7 = (kind : Int) := by rw [Int.tmod_eq_emod_of_nonneg hk0] at hke; exact hke
              clear hq0 hq1 hw0 hw1 hbk
              have h5 := h4.alloc (.cells #[.int .u8 kd, .int .u8 td] 31)
              have hbx := Blk.new wr #[.int .u8 kd, .int .u8 td] 31
              have hbx0 := hbx.cell 0
              have hbx1 := hbx.cell 1
              simp only [List.getElem?_toArray, List.getElem?_cons_zero, List.getElem?_cons_succ] at hbx0 hbx1
              have hkI : (kind : Int) < 7 := by omega
              have htI : (t : Int) < 4 := by omega
              have htI0 : (0 : Int) ≤ (t : Int) := by omega
              clear h4 hbx
              by_cases hcall : kind = 1 ∨ kind = 4 ∨ kind = 5 ∨ kind = 6
              · have g1 : (0 : Int) < (kind : Int) := by omega
                have g2 : ((kind : Int) != 2) = true := by simp; omega
                have g3 : ((kind : Int) != 3) = true := by simp; omega
                have cD := h5.at_.doneC (show 2 ≤ 1000000 by omega) hk7 ht4
                rw [(Phs.reC_doS l 2 hcall t).1, (Phs.reC_doS l 2 hcall t).2] at cD
                have CD := Lib.hid cD
                clear cD hcall
                go_wp2_with fail
                refine CD.out.mono ?_
                rintro e w5 ⟨rfl, k, T⟩
                have H6 := Lib.hid (h5.step k T)
                clear k T h5 CD
                go_wp2_with fail
                go_roundw
                case rel => exact ⟨i + 1, by omega, by go_num, H6.out⟩
                case measure => simp [intOf]; omega
              · have hk : kind = 0 ∨ kind = 2 ∨ kind = 3 := by omega
                have H6 := Lib.hid h5
                clear h5 hcall
                rcases hk with rfl | rfl | rfl
                all_goals
                  go_wp2_with fail
                  go_roundw
                  case rel => exact ⟨i + 1, by omega, by go_num, H6.out⟩
                  case measure => simp [intOf]; omega
            · obtain rfl : i = len := by omega
              have hbl := h4.below
              have cN : Calls Try.prog 13 #[.pointer (some ⟨p, 0, none⟩)] wr (fun e w' => e = .returned (.int .i64 0) ∧ wr = w') := h4.at_.nowC
              have cR : Calls Try.prog 14 #[.pointer (some ⟨p, 0, none⟩)] wr (fun e w' => e = .returned (.int .i64 2) ∧ wr = w') := h4.at_.roundsC
              clear h4 hlt hi HZ
              go_wp2_with fail
              refine cN.mono ?_
              rintro e w9 ⟨rfl, rfl⟩
              go_wp2_with fail
              refine cR.mono ?_
              rintro e w9 ⟨rfl, rfl⟩
              go_wp2_with fail
              go_ret
              exact ⟨rfl, hbl⟩

end Go.Proofs.Ytacnikibmhlmiaa
