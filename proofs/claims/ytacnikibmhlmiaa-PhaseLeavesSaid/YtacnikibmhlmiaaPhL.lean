/- PhaseLeaves, walked, at this seat's numbers. -/
import Derived.Test.YtacnikibmhlmiaaPhY
import Derived.Test.YtacnikibmhlmiaaPhR
namespace Go.Proofs.Ytacnikibmhlmiaa
open Go Go.RowKit
set_option linter.unusedSimpArgs false
set_option linter.unusedVariables false
attribute [local go_sem] Oper.semAt_some

theorem and_bit {A C : Nat} (hA : A < 256) (hC : C < 256) (j : Nat) : (bits .and .u8 (bits .and .u8 (A : Int) (C : Int) / 2 ^ j) 1 == 1) = (A.testBit j && C.testBit j) := by
  rw [u8_and_nat A C hA hC, bit_of (Nat.lt_of_le_of_lt Nat.and_le_left hA), Nat.testBit_and]
theorem or_bit3 {A C D : Nat} (hA : A < 256) (hC : C < 256) (hD : D < 256) (j : Nat) : (bits .and .u8 (bits .or .u8 (bits .and .u8 (A : Int) (C : Int)) (D : Int) / 2 ^ j) 1 == 1) = (A.testBit j && C.testBit j || D.testBit j) := by
  have h1 : A &&& C < 256 := Nat.lt_of_le_of_lt Nat.and_le_left hA
  have h2 : (A &&& C) ||| D < 256 := Nat.or_lt_two_pow (n := 8) h1 hD
  rw [u8_and_nat A C hA hC, u8_or_nat _ _ h1 hD, bit_of h2, Nat.testBit_or, Nat.testBit_and]
namespace Phs
/-- Those below j that c names have acknowledged, the others have left. -/
def lvS (f c : Nat → Bool) (j : Nat) : Phs := ⟨1, 0, fun t => if t < j then f t && c t else f t, upto (fun t => f t && c t) j, upto (fun t => f t && c t) j⟩
theorem lvS_zero (f c : Nat → Bool) : lvS f c 0 = stC f 0 1 := by
  unfold lvS stC
  rw [upto_zero]; rfl
theorem lvS_ack {f c : Nat → Bool} {j : Nat} (h : c j = true) : (lvS f c j).ack j = lvS f c (j + 1) := by
  have hw : (lvS f c j).wants j = f j := by
    unfold Phs.wants
    show (true && ((if j < j then f j && c j else f j) && !upto (fun t => f t && c t) j j)) = f j
    rw [if_neg (by omega), upto_ge _ (Nat.le_refl _)]; simp
  have hl : (fun t => if t < j then f t && c t else f t) = (fun t => if t < j + 1 then f t && c t else f t) := by
    funext t
    by_cases e : t = j
    · rw [e, if_neg (by omega), if_pos (by omega), h]; simp
    · by_cases e2 : t < j
      · rw [if_pos e2, if_pos (by omega)]
      · rw [if_neg e2, if_neg (by omega)]
  unfold Phs.ack
  rw [hw]
  cases hf : f j
  · rw [if_neg (by decide)]
    unfold lvS
    rw [hl, upto_no (show (fun t => f t && c t) j = false by show (f j && c j) = false; rw [hf]; rfl)]
  · rw [if_pos rfl]
    show (⟨1, 0, (fun t => if t < j then f t && c t else f t), setB (upto (fun t => f t && c t) j) j true, setB (upto (fun t => f t && c t) j) j true⟩ : Phs) = lvS f c (j + 1)
    unfold lvS
    rw [hl, upto_yes (show (fun t => f t && c t) j = true by show (f j && c j) = true; rw [hf, h]; rfl)]
theorem lvS_leave {f c : Nat → Bool} {j : Nat} (h : c j = false) : (lvS f c j).leave j = lvS f c (j + 1) := by
  have hg : (fun t => f t && c t) j = false := by show (f j && c j) = false; rw [h]; simp
  show (⟨1, 0, setB (fun t => if t < j then f t && c t else f t) j false, setB (upto (fun t => f t && c t) j) j false, setB (upto (fun t => f t && c t) j) j false⟩ : Phs) = lvS f c (j + 1)
  unfold lvS
  have e2 : setB (upto (fun t => f t && c t) j) j false = upto (fun t => f t && c t) (j + 1) := by
    have := upto_succ (fun t => f t && c t) j
    simp only [h, Bool.and_false] at this
    exact this
  have e1 : setB (fun t => if t < j then f t && c t else f t) j false = (fun t => if t < j + 1 then f t && c t else f t) := by
    funext t
    by_cases e : t = j
    · rw [e, setB_self, if_pos (by omega)]; exact hg.symm
    · rw [setB_ne _ _ e]
      by_cases e2 : t < j
      · rw [if_pos e2, if_pos (by omega)]
      · rw [if_neg e2, if_neg (by omega)]
  rw [e1, e2]
/-- Who lives, once those below j that d names have joined. -/
def hjF (g d : Nat → Bool) (j : Nat) : Nat → Bool := fun t => upto g 4 t || upto d j t
def hjS (g d : Nat → Bool) (j : Nat) : Phs := ⟨1, 0, hjF g d j, hjF g d j, hjF g d j⟩
theorem hjS_zero {f c : Nat → Bool} (d : Nat → Bool) (hf : upto f 4 = f) : lvS f c 4 = hjS (fun t => f t && c t) d 0 := by
  have e0 : hjF (fun t => f t && c t) d 0 = upto (fun t => f t && c t) 4 := by funext t; unfold hjF; rw [upto_zero]; simp [noB]
  have e1 : (fun t => if t < 4 then f t && c t else f t) = upto (fun t => f t && c t) 4 := by
    funext t
    by_cases h : t < 4
    · rw [if_pos h, upto_lt _ h]
    · rw [if_neg h, upto_ge _ (by omega), ← hf, upto_ge _ (by omega)]
  unfold lvS hjS
  rw [e0, e1]
theorem hjS_skip {g d : Nat → Bool} {j : Nat} (h : d j = false) : hjS g d j = hjS g d (j + 1) := by
  unfold hjS hjF
  rw [upto_no h]
theorem hjF_set {g d : Nat → Bool} {j : Nat} (h : d j = true) : setB (hjF g d j) j true = hjF g d (j + 1) := by
  funext t
  unfold hjF
  by_cases e : t = j
  · rw [e, setB_self, upto_lt d (show j < j + 1 by omega), h]; simp
  · rw [setB_ne _ _ e, ← upto_yes h, setB_ne _ _ e]
theorem hjS_join {g d : Nat → Bool} {j : Nat} (h : d j = true) : (hjS g d j).join j = hjS g d (j + 1) := by
  unfold Phs.join
  by_cases hl : hjF g d j j = true
  · rw [if_pos (show (hjS g d j).l j = true from hl)]
    have e : hjF g d j = hjF g d (j + 1) := by rw [← hjF_set h, ← hl, setB_same]
    unfold hjS
    rw [← e]
  · rw [if_neg (show ¬ (hjS g d j).l j = true from hl)]
    show (⟨1, 0, setB (hjF g d j) j true, setB (hjF g d j) j true, setB (hjF g d j) j true⟩ : Phs) = _
    rw [hjF_set h]; rfl
theorem hjF_is (g d : Nat → Bool) {t : Nat} (h : t < 4) : hjF g d 4 t = (g t || d t) := by unfold hjF; rw [upto_lt _ h, upto_lt _ h]
theorem hjS_wants (g d : Nat → Bool) (j t : Nat) : (hjS g d j).wants t = false := by
  unfold Phs.wants
  show (true && (hjF g d j t && !hjF g d j t)) = false
  cases hjF g d j t <;> rfl
theorem hjS_advB (g d : Nat → Bool) (j : Nat) : (hjS g d j).advB = true := by
  unfold Phs.advB
  rw [wantsAny_no.2 (fun t _ => hjS_wants g d j t)]; rfl
theorem hjS_adv (g d : Nat → Bool) (j : Nat) : (hjS g d j).adv = ⟨2, 1, hjF g d j, hjF g d j, noB⟩ := by
  unfold Phs.adv
  rw [if_pos (hjS_advB g d j)]; rfl
end Phs
def LvQ (B p : Nat) (f c : Nat → Bool) (wb : World) (v : Value) (wr : World) : Prop :=
  ∃ j : Nat, j ≤ 4 ∧ v = .int .i64 (j : Int) ∧ PhIn B p (Phs.lvS f c j) wb wr
def HjQ (B p : Nat) (g d : Nat → Bool) (wb : World) (v : Value) (wr : World) : Prop :=
  ∃ j : Nat, j ≤ 4 ∧ v = .int .i64 (j : Int) ∧ PhIn B p (Phs.hjS g d j) wb wr
def FxQ (B p : Nat) (S : Phs) (wb : World) (v : Value) (wr : World) : Prop :=
  ∃ j : Nat, j ≤ 4 ∧ v = .int .i64 (j : Int) ∧ PhIn B p S wb wr

set_option maxRecDepth 100000 in
set_option maxHeartbeats 16000000 in
theorem pleaves_true (a0 : Int) (wf0 : (Lit.int .u8 a0).wf = true) (a1 : Int) (wf1 : (Lit.int .u8 a1).wf = true) (a2 : Int) (wf2 : (Lit.int .u8 a2).wf = true) (w : World) :
    Calls Try.prog 6 #[.int .u8 a0, .int .u8 a1, .int .u8 a2] w fun e w' => e = .returned (.bool true) ∧ Below w.heap.size w w' := by
  have hf := phfit_true w
  obtain ⟨A, rfl, hA⟩ := byte_of wf0
  obtain ⟨C, rfl, hC⟩ := byte_of wf1
  obtain ⟨D, rfl, hD⟩ := byte_of wf2
  clear wf0 wf1 wf2
  go_enter Try.func6, Try.ntmps6
  go_wp2_with fail
  refine hf.mono ?_
  rintro e w1 ⟨rfl, hB⟩
  clear hf
  go_wp2_with fail
  refine (phIn_new (B := w.heap.size) (wb := w) (wr := w1) hB (Nat.le_refl _)).mono ?_
  rintro e w2 ⟨p, rfl, h2, _⟩
  have H2 := Lib.hid h2
  clear hB h2
  go_wp2_with fail
  go_loopw [8, 16] (fun _ v wr => JnQ w.heap.size p A.testBit w v wr) (fun _ v _ => 4 - (intOf v).toNat)
  case atStart => exact ⟨0, by omega, rfl, H2.out.is (Phs.jn_zero _).symm⟩
  case round =>
    clear H2
    obtain ⟨j, hj, rfl, h3⟩ := hrel
    by_cases hj4 : j < 4
    · have d1 : (j : Int) < 4 := by omega
      have d0 : (0 : Int) ≤ (j : Int) := by omega
      have hb := bit_of hA j
      cases hbj : A.testBit j
      · rw [hbj] at hb
        have H4 := Lib.hid (h3.is (Phs.jn_skip hbj))
        clear hbj h3
        go_wp2_with fail
        go_roundw
        case rel => exact ⟨j + 1, by omega, by go_num, H4.out⟩
        case measure => simp [intOf]; omega
      · rw [hbj] at hb
        have cJ := h3.at_.joinC hj4
        rw [Phs.jn_join hbj] at cJ
        have CJ := Lib.hid cJ
        clear hbj cJ
        go_wp2_with fail
        refine CJ.out.mono ?_
        rintro e w4 ⟨rfl, k, T⟩
        have H4 := Lib.hid (h3.step k T)
        clear k T h3 CJ
        go_wp2_with fail
        go_roundw
        case rel => exact ⟨j + 1, by omega, by go_num, H4.out⟩
        case measure => simp [intOf]; omega
    · obtain rfl : j = 4 := by omega
      simp only [show ((4 : Nat) : Int) = 4 from rfl]
      have hE := h3.is (Phs.jn_re A.testBit)
      clear h3 hj hj4

      obtain ⟨l, hl⟩ : ∃ l, upto A.testBit 4 = l := ⟨_, rfl⟩
      have hl4 : upto l 4 = l := by rw [← hl, upto_upto]
      have hlb : ∀ j, j < 4 → l j = A.testBit j := fun j hj => by rw [← hl, upto_lt _ hj]
      rw [hl] at hE
      have HL := Lib.hid (And.intro hl4 hlb)
      clear hl hl4 hlb
      go_wp2_with fail
      refine (show Calls Try.prog 19 #[.pointer (some ⟨p, 0, none⟩)] wr (PhPost p (Phs.stC l 0 1) wr (.bool true)) from hE.at_.beginC).mono ?_
      rintro e w7 ⟨rfl, k, T⟩
      have hw7 := hE.step k T
      clear k T hE
      go_wp2_with fail
      have H7 := Lib.hid (hw7.is (Phs.lvS_zero l C.testBit).symm)
      clear hw7
      go_loopw [9, 30] (fun _ v wr => LvQ w.heap.size p l C.testBit w v wr) (fun _ v _ => 4 - (intOf v).toNat)
      case atStart => exact ⟨0, by omega, rfl, H7.out⟩
      case round =>
        clear H7
        obtain ⟨j, hj, rfl, h3⟩ := hrel
        by_cases hj4 : j < 4
        · have d1 : (j : Int) < 4 := by omega
          have d0 : (0 : Int) ≤ (j : Int) := by omega
          have hb := bit_of hC j
          cases hbj : C.testBit j
          · rw [hbj] at hb
            have cX := h3.at_.leaveC hj4
            rw [Phs.lvS_leave hbj] at cX
            have CX := Lib.hid cX
            clear hbj cX
            go_wp2_with fail
            refine CX.out.mono ?_
            rintro e w4 ⟨rfl, k, T⟩
            have H4 := Lib.hid (h3.step k T)
            clear k T h3 CX
            go_wp2_with fail
            go_roundw
            case rel => exact ⟨j + 1, by omega, by go_num, H4.out⟩
            case measure => simp [intOf]; omega
          · rw [hbj] at hb
            have cX := h3.at_.ackC hj4
            rw [Phs.lvS_ack hbj] at cX
            generalize (Phs.lvS l C.testBit j).wants j = bw at *
            have CX := Lib.hid cX
            clear hbj cX
            go_wp2_with fail
            refine CX.out.mono ?_
            rintro e w4 ⟨rfl, k, T⟩
            have H4 := Lib.hid (h3.step k T)
            clear k T h3 CX
            go_wp2_with fail
            go_roundw
            case rel => exact ⟨j + 1, by omega, by go_num, H4.out⟩
            case measure => simp [intOf]; omega
        · obtain rfl : j = 4 := by omega
          simp only [show ((4 : Nat) : Int) = 4 from rfl]
          obtain ⟨g, hg⟩ : ∃ g : Nat → Bool, (fun t => l t && C.testBit t) = g := ⟨_, rfl⟩
          have hgb : ∀ j, j < 4 → g j = (A.testBit j && C.testBit j) := fun j hj => by rw [← hg, ← HL.out.2 j hj]
          have h4 := h3.is (Phs.hjS_zero D.testBit HL.out.1)
          rw [hg] at h4
          have H4 := Lib.hid h4
          have HG := Lib.hid hgb
          clear h3 h4 hg hgb hj hj4 HL
          go_wp2_with fail
          go_loopw [10, 45] (fun _ v wr => HjQ w.heap.size p g D.testBit w v wr) (fun _ v _ => 4 - (intOf v).toNat)
          case atStart => exact ⟨0, by omega, rfl, H4.out⟩
          case round =>
            clear H4
            obtain ⟨j, hj, rfl, h3⟩ := hrel
            by_cases hj4 : j < 4
            · have d1 : (j : Int) < 4 := by omega
              have d0 : (0 : Int) ≤ (j : Int) := by omega
              have hb := bit_of hD j
              cases hbj : D.testBit j
              · rw [hbj] at hb
                have H4 := Lib.hid (h3.is (Phs.hjS_skip hbj))
                clear hbj h3
                go_wp2_with fail
                go_roundw
                case rel => exact ⟨j + 1, by omega, by go_num, H4.out⟩
                case measure => simp [intOf]; omega
              · rw [hbj] at hb
                have cX := h3.at_.joinC hj4
                rw [Phs.hjS_join hbj] at cX
                have CX := Lib.hid cX
                clear hbj cX
                go_wp2_with fail
                refine CX.out.mono ?_
                rintro e w4 ⟨rfl, k, T⟩
                have H4 := Lib.hid (h3.step k T)
                clear k T h3 CX
                go_wp2_with fail
                go_roundw
                case rel => exact ⟨j + 1, by omega, by go_num, H4.out⟩
                case measure => simp [intOf]; omega
            · obtain rfl : j = 4 := by omega
              simp only [show ((4 : Nat) : Int) = 4 from rfl]
              have H4 := Lib.hid h3
              clear h3 hj hj4
              go_wp2_with fail
              go_loopw [11, 57] (fun _ v wr => FxQ w.heap.size p (Phs.hjS g D.testBit 4) w v wr) (fun _ v _ => 4 - (intOf v).toNat)
              case atStart => exact ⟨0, by omega, rfl, H4.out⟩
              case round =>
                clear H4
                obtain ⟨j, hj, rfl, h3⟩ := hrel
                by_cases hj4 : j < 4
                · have d1 : (j : Int) < 4 := by omega
                  have d0 : (0 : Int) ≤ (j : Int) := by omega
                  have hb1 := and_bit hA hC j
                  have hb2 := bit_of hD j
                  have ha : (Phs.hjS g D.testBit 4).a j = ((A.testBit j && C.testBit j) || D.testBit j) := by
                    show Phs.hjF g D.testBit 4 j = _
                    rw [Phs.hjF_is _ _ hj4, HG.out j hj4]
                  have hw := Phs.hjS_wants g D.testBit 4 j
                  have cA : ∀ n, Calls Try.prog 15 #[.pointer (some ⟨p, 0, none⟩), .int .i64 (j : Int)] (wr.drewN n) fun e w' => e = .returned (.bool ((A.testBit j && C.testBit j) || D.testBit j)) ∧ ∃ m, w' = wr.drewN m := fun n => quiet_left (by rw [← ha]; exact (h3.drewN n).at_.armedC hj4)
                  have cW : ∀ n, Calls Try.prog 16 #[.pointer (some ⟨p, 0, none⟩), .int .i64 (j : Int)] (wr.drewN n) fun e w' => e = .returned (.bool false) ∧ ∃ m, w' = wr.drewN m := fun n => quiet_left (by rw [← hw]; exact (h3.drewN n).at_.wantsC hj4)
                  have CA := Lib.hid cA
                  have CW := Lib.hid cW
                  have H3 := Lib.hid h3
                  clear ha hw cA cW h3
                  generalize A.testBit j = ba at *
                  generalize C.testBit j = bc at *
                  generalize D.testBit j = bd at *
                  obtain ⟨bx, hbx⟩ : ∃ bx, (ba && bc) = bx := ⟨_, rfl⟩
                  rw [hbx] at CA hb1
                  clear hbx
                  cases bx
                  all_goals
                    go_wp2_with fail
                    go_quiet ((first | (go_at_call 15; exact CA.out _) | (go_at_call 16; exact CW.out _)))
                    go_wp2_with fail
                    go_roundw
                    case rel => exact ⟨j + 1, by omega, by go_num, H3.out.drewN _⟩
                    case measure => simp [intOf]; omega
                · obtain rfl : j = 4 := by omega
                  simp only [show ((4 : Nat) : Int) = 4 from rfl]
                  obtain ⟨h, hh⟩ : ∃ h : Nat → Bool, Phs.hjF g D.testBit 4 = h := ⟨_, rfl⟩
                  have hhb : ∀ j, j < 4 → h j = ((A.testBit j && C.testBit j) || D.testBit j) := fun j hj => by rw [← hh, Phs.hjF_is _ _ hj, HG.out j hj]
                  have cV := h3.at_.advanceC (show 0 ≤ 1000000 by omega)
                  rw [Phs.hjS_advB, Phs.hjS_adv, hh] at cV
                  have CV := Lib.hid cV
                  have HH := Lib.hid hhb
                  clear cV hh hhb hj hj4 HG
                  go_wp2_with fail
                  refine CV.out.mono ?_
                  rintro e w4 ⟨rfl, k, T⟩
                  have hw4 := h3.step k T
                  clear k T h3 CV
                  go_wp2_with fail
                  refine (show Calls Try.prog 13 #[.pointer (some ⟨p, 0, none⟩)] w4 (fun e w' => e = .returned (.int .i64 2) ∧ w4 = w') from hw4.at_.nowC).mono ?_
                  rintro e w9 ⟨rfl, rfl⟩
                  go_wp2_with fail
                  have H4 := Lib.hid hw4
                  clear hw4
                  go_loopw [12, 92] (fun _ v wr => FxQ w.heap.size p ⟨2, 1, h, h, noB⟩ w v wr) (fun _ v _ => 4 - (intOf v).toNat)
                  case atStart => exact ⟨0, by omega, rfl, H4.out⟩
                  case round =>
                    clear H4
                    obtain ⟨j, hj, rfl, h3⟩ := hrel
                    by_cases hj4 : j < 4
                    · have d1 : (j : Int) < 4 := by omega
                      have d0 : (0 : Int) ≤ (j : Int) := by omega
                      have hb := or_bit3 hA hC hD j
                      have hw : (⟨2, 1, h, h, noB⟩ : Phs).wants j = ((A.testBit j && C.testBit j) || D.testBit j) := by
                        rw [← HH.out j hj4]
                        show (true && (h j && !false)) = h j
                        simp
                      have h3d := h3.drew
                      have cW := h3d.at_.wantsC hj4
                      rw [hw] at cW
                      generalize ((A.testBit j && C.testBit j) || D.testBit j) = bx at *
                      have H3 := Lib.hid h3d
                      clear h3 h3d hw
                      go_wp2_with fail
                      go_region_held3 (fun W' => HeldT W') (exact (trivial : HeldT _))
                        (first
                          | (go_at_call 16; refine cW.mono ?_; rintro e w7 ⟨rfl, rfl⟩))
                      all_goals
                        clear cW
                        go_wp2_with fail
                        go_roundw
                        case rel => exact ⟨j + 1, by omega, by go_num, H3.out⟩
                        case measure => simp [intOf]; omega
                    · obtain rfl : j = 4 := by omega
                      have hbl := h3.below
                      clear h3
                      go_wp2_with fail
                      go_ret
                      exact ⟨rfl, hbl⟩

end Go.Proofs.Ytacnikibmhlmiaa
