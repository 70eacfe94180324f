/- The phases' calls that lead on; at this seat's numbers. -/
import Derived.Test.YtacnikibmhlmiaaPhC
namespace Go.Proofs.Ytacnikibmhlmiaa
open Go Go.RowKit
set_option linter.unusedSimpArgs false
set_option linter.unusedVariables false
attribute [local go_sem] Oper.semAt_some

section
variable {w w' : World} {p : Nat} {S : Phs}

theorem PhAt.beginC (h : PhAt w p S) : Calls Try.prog 19 #[.pointer (some ⟨p, 0, none⟩)] w (PhPost p S.begin_ w (.bool S.beginB)) := by
  have cP : Calls Try.prog 27 #[.pointer (some ⟨p, 0, none⟩), .int .i64 0, .int .i64 1] w (PhPost p S.begin_ w (.bool S.beginB)) := h.passC 0 1 (by omega) (by omega)
  have HP := Lib.hid cP
  go_enter Try.func19, Try.ntmps19
  go_wp2_with fail
  refine HP.out.mono ?_
  rintro e w1 ⟨rfl, h1, hT⟩
  clear cP HP
  go_wp2_with fail
  go_ret
  exact ⟨rfl, h1, hT⟩
theorem PhAt.sweptC (h : PhAt w p S) : Calls Try.prog 23 #[.pointer (some ⟨p, 0, none⟩)] w (PhPost p S.swept w (.bool S.sweptB)) := by
  have cP : Calls Try.prog 27 #[.pointer (some ⟨p, 0, none⟩), .int .i64 4, .int .i64 0] w (PhPost p S.swept w (.bool S.sweptB)) := h.passC 4 0 (by omega) (by omega)
  have HP := Lib.hid cP
  go_enter Try.func23, Try.ntmps23
  go_wp2_with fail
  refine HP.out.mono ?_
  rintro e w1 ⟨rfl, h1, hT⟩
  clear cP HP
  go_wp2_with fail
  go_ret
  exact ⟨rfl, h1, hT⟩
set_option maxHeartbeats 2000000 in
theorem PhAt.markedC (h : PhAt w p S) : Calls Try.prog 22 #[.pointer (some ⟨p, 0, none⟩)] w (PhPost p S.marked w (.bool S.markedB)) := by
  have cP : Calls Try.prog 27 #[.pointer (some ⟨p, 0, none⟩), .int .i64 3, .int .i64 4] w (PhPost p (if S.now = 3 then S.enter 4 else S) w (.bool (decide (S.now = 3)))) := h.passC 3 4 (by omega) (by omega)
  by_cases hq : S.now = 3
  · rw [if_pos hq, decide_eq_true hq] at cP
    have e1 : S.marked = { S.enter 4 with a := noB } := by unfold Phs.marked; rw [if_pos hq]
    have e2 : S.markedB = true := decide_eq_true hq
    rw [e1, e2]
    clear e1 e2 hq
    go_enter Try.func22, Try.ntmps22
    go_wp2_with fail
    refine cP.mono ?_
    rintro e w1 ⟨rfl, h1, hT⟩
    have k1 : PhAt w1 p ((S.enter 4).cutA 0) := h1.same rfl rfl (fun _ _ => rfl) (fun t _ => by simp [Phs.cutA]) (fun _ _ => rfl)
    have K1 := Lib.hid k1
    have HT := Lib.hid hT
    clear cP h h1 hT k1
    go_wp2_with fail
    go_loopw [3, 7] (fun _ v18 wr => ∃ j : Nat, j ≤ 4 ∧ v18 = .int .i64 (j : Int) ∧ PhAt wr p ((S.enter 4).cutA j) ∧ Turn (fun k => k = p) w wr) (fun _ v18 _ => 4 - (intOf v18).toNat)
    case atStart => exact ⟨0, by omega, rfl, K1.out, HT.out⟩
    case round =>
      clear K1 HT
      obtain ⟨j, hj, rfl, hA, hT⟩ := hrel
      by_cases hlt : j < 4
      · have d1 : (j : Int) < 4 := by omega
        have y1 := hA.cA hlt
        have z1 := hA.zL (2 + j * 3 + 1)
        have hA2 : PhAt (wr.setCell ⟨p, 2 + j * 3 + 1, none⟩ (.bool false)) p ((S.enter 4).cutA (j + 1)) := by
          refine (hA.setA hlt false).same rfl rfl (fun _ _ => rfl) (fun t _ => ?_) (fun _ _ => rfl)
          by_cases e : t = j
          · subst e; simp [Phs.cutA, setB]
          · simp only [Phs.cutA, setB, if_neg e]
            by_cases e2 : t < j
            · rw [if_pos e2, if_pos (by omega)]
            · rw [if_neg e2, if_neg (by omega)]
        have hT2 := turnSet hT (2 + j * 3 + 1) (.bool false)
        have HA2 := Lib.hid hA2
        have HT2 := Lib.hid hT2
        clear hA hT hA2 hT2
        go_wp2_with fail
        go_roundw
        case rel => exact ⟨j + 1, by omega, by go_num, HA2.out, HT2.out⟩
        case measure => simp [intOf]; omega
      · obtain rfl : j = 4 := by omega
        have HA := Lib.hid hA
        have HT := Lib.hid hT
        clear hA hT hlt hj
        go_wp2_with fail
        go_ret
        refine ⟨rfl, HA.out.same rfl rfl (fun _ _ => rfl) (fun t ht => ?_) (fun _ _ => rfl), HT.out⟩
        simp [Phs.cutA, noB, ht]
  · rw [if_neg hq, decide_eq_false hq] at cP
    have e1 : S.marked = S := by unfold Phs.marked; rw [if_neg hq]
    have e2 : S.markedB = false := decide_eq_false hq
    rw [e1, e2]
    clear e1 e2 hq
    go_enter Try.func22, Try.ntmps22
    go_wp2_with fail
    refine cP.mono ?_
    rintro e w1 ⟨rfl, h1, hT⟩
    go_wp2_with fail
    go_ret
    exact ⟨rfl, h1, hT⟩
set_option maxHeartbeats 2000000 in
theorem PhAt.advanceC (h : PhAt w p S) (hr : S.rounds ≤ 1000000) : Calls Try.prog 20 #[.pointer (some ⟨p, 0, none⟩)] w (PhPost p S.adv w (.bool S.advB)) := by
  have cP1 : Calls Try.prog 27 #[.pointer (some ⟨p, 0, none⟩), .int .i64 1, .int .i64 2] w (PhPost p (if S.now = 1 then S.enter 2 else S) w (.bool (decide (S.now = 1)))) := h.passC 1 2 (by omega) (by omega)
  have hcW : ∀ t : Nat, t < 4 → Calls Try.prog 16 #[.pointer (some ⟨p, 0, none⟩), .int .i64 (t : Int)] w fun e w' => e = .returned (.bool (S.wants t)) ∧ w = w' := fun t ht => PhAt.wantsC h ht
  have HP1 := Lib.hid cP1
  have HW := Lib.hid hcW
  clear cP1 hcW
  go_enter Try.func20, Try.ntmps20
  go_wp2_with fail
  go_loop [3, 4] (fun _ v4 => ∃ j : Nat, j ≤ 4 ∧ v4 = .int .i64 (j : Int) ∧ ∀ t, t < j → S.wants t = false) (fun _ v4 => 4 - (intOf v4).toNat)
  case atStart => exact ⟨0, by omega, rfl, fun t ht => absurd ht (by omega)⟩
  case round =>
    obtain ⟨j, hj, rfl, hA⟩ := hrel
    have HA := Lib.hid hA
    clear hA
    by_cases hlt : j < 4
    · have d1 : (j : Int) < 4 := by omega
      have cW := HW.out j hlt
      cases hw : S.wants j
      · rw [hw] at cW
        have H := Lib.hid hw
        clear hw
        go_wp2_with fail
        refine cW.mono ?_
        rintro e w1 ⟨rfl, rfl⟩
        go_wp2_with fail
        go_round
        case rel => exact ⟨j + 1, by omega, by go_num, fun t ht => by
          by_cases e : t = j
          · rw [e]; exact H.out
          · exact HA.out t (by omega)⟩
        case measure => simp [intOf]; omega
      · rw [hw] at cW
        have hB : S.advB = false := by
          unfold Phs.advB; rw [Phs.wantsAny_iff.2 ⟨j, hlt, hw⟩]; simp
        have hS : S.adv = S := by unfold Phs.adv; rw [if_neg (by rw [hB]; decide)]
        rw [hB, hS]
        clear hB hS hw
        go_wp2_with fail
        refine cW.mono ?_
        rintro e w1 ⟨rfl, rfl⟩
        go_wp2_with fail
        go_ret
        exact h.keepPost _ rfl
    · obtain rfl : j = 4 := by omega
      have hno : S.wantsAny = false := Phs.wantsAny_no.2 HA.out
      have hB : S.advB = S.asks := by unfold Phs.advB; rw [hno]; simp
      clear HW hlt hj HA hno
      have cP1 := HP1.out
      clear HP1
      have goOn : ∀ (n : Nat) (w1 : World), n < 5 → n = S.now + 1 → PhAt w1 p (S.enter n) → Turn (fun k => k = p) w w1 → S.asks = true →
          PhPost p S.adv w (.bool S.advB) (.returned (.bool true)) (w1.setCell ⟨p, 1, none⟩ (.int .i64 ((S.rounds : Int) + 1))) := by
        intro n w1 _ hn h1 hT hq
        have hB2 : S.advB = true := by rw [hB, hq]
        rw [hB2]
        refine ⟨rfl, ?_, turnSet hT _ _⟩
        have e : S.adv = { S.enter (S.now + 1) with rounds := S.rounds + 1 } := by unfold Phs.adv; rw [if_pos hB2]
        rw [e, ← hn]
        exact h1.setRounds (S.rounds + 1) (by simp)
      have hNo : S.asks = false → PhPost p S.adv w (.bool S.advB) (.returned (.bool false)) w := by
        intro hq
        have hB2 : S.advB = false := by rw [hB, hq]
        have e : S.adv = S := by unfold Phs.adv; rw [if_neg (by rw [hB2]; decide)]
        rw [hB2, e]
        exact h.keepPost _ rfl
      have HG := Lib.hid goOn
      have HN := Lib.hid hNo
      clear goOn hNo hB
      have hr2 : (S.rounds : Int) ≤ 1000000 := by omega
      have hr0 : (0 : Int) ≤ (S.rounds : Int) := by omega
      by_cases h1 : S.now = 1
      · rw [if_pos h1, decide_eq_true h1] at cP1
        have H1 := Lib.hid h1
        clear h1
        go_wp2_with fail
        refine cP1.mono ?_
        rintro e w1 ⟨rfl, k1, hT⟩
        have d1 := k1.c1
        have z1 := k1.zL 1
        replace d1 : w1.cell? ⟨p, 1, none⟩ = some (.int .i64 (S.rounds : Int)) := d1
        clear cP1
        go_wp2_with fail
        go_ret
        exact HG.out 2 w1 (by omega) (by rw [H1.out]) k1 hT (Phs.asks_yes (.inl H1.out))
      · rw [if_neg h1, decide_eq_false h1] at cP1
        have H1 := Lib.hid h1
        have cP2 : ∀ w1 : World, PhAt w1 p S → Calls Try.prog 27 #[.pointer (some ⟨p, 0, none⟩), .int .i64 2, .int .i64 3] w1 (PhPost p (if S.now = 2 then S.enter 3 else S) w1 (.bool (decide (S.now = 2)))) := fun w1 k1 => k1.passC 2 3 (by omega) (by omega)
        have HP2 := Lib.hid cP2
        clear h1 cP2
        go_wp2_with fail
        refine cP1.mono ?_
        rintro e w1 ⟨rfl, k1, hT⟩
        clear cP1
        go_wp2_with fail
        have cP2 := HP2.out w1 k1
        by_cases h2 : S.now = 2
        · rw [if_pos h2, decide_eq_true h2] at cP2
          refine cP2.mono ?_
          rintro e w2 ⟨rfl, k2, hT2⟩
          have d1 := k2.c1
          have z1 := k2.zL 1
          replace d1 : w2.cell? ⟨p, 1, none⟩ = some (.int .i64 (S.rounds : Int)) := d1
          have H2 := Lib.hid h2
          clear cP2 h2
          go_wp2_with fail
          go_ret
          exact HG.out 3 w2 (by omega) (by rw [H2.out]) k2 (hT.trans hT2 (fun _ _ e => e)) (Phs.asks_yes (.inr H2.out))
        · rw [if_neg h2, decide_eq_false h2] at cP2
          refine cP2.mono ?_
          rintro e w2 ⟨rfl, k2, hT2⟩
          have H2 := Lib.hid h2
          clear cP2 h2
          go_wp2_with fail
          go_ret
          obtain ⟨he, _, _⟩ := HN.out (Phs.asks_no H1.out H2.out)
          have hB : S.advB = false := by unfold Phs.advB; rw [Phs.asks_no H1.out H2.out]; rfl
          have e : S.adv = S := by unfold Phs.adv; rw [if_neg (by rw [hB]; decide)]
          rw [hB, e]
          exact ⟨rfl, k2, hT.trans hT2 (fun _ _ e => e)⟩
end
end Go.Proofs.Ytacnikibmhlmiaa
