/- The phases' calls, more; at this seat's numbers. -/
import Derived.Test.YtacnikibmhlmiaaPhB
namespace Go.Proofs.Ytacnikibmhlmiaa
open Go Go.RowKit
set_option linter.unusedSimpArgs false
set_option linter.unusedVariables false
attribute [local go_sem] Oper.semAt_some

section
variable {w w' : World} {p : Nat} {S : Phs}

theorem PhAt.leaveC (h : PhAt w p S) {t : Nat} (ht : t < 4) : Calls Try.prog 24 #[.pointer (some ⟨p, 0, none⟩), .int .i64 (t : Int)] w (PhPost p (S.leave t) w (.tuple #[])) := by
  have cN := hasNumberC (t : Int) (by omega) (by omega) w
  have h1 : (t : Int) < 4 := by omega
  have h0 : (0 : Int) ≤ (t : Int) := by omega
  have k1 := h.setL ht false
  have k2 := k1.setA ht false
  have k3 := k2.setK ht false
  have y1 := h.cL ht
  have y2 := k1.cA ht
  have y3 := k2.cK ht
  have z1 := h.zL (2 + t * 3)
  have z2 := k1.zL (2 + t * 3 + 1)
  have z3 := k2.zL (2 + t * 3 + 2)
  go_enter Try.func24, Try.ntmps24
  go_wp2_with fail
  refine cN.mono ?_
  rintro e w1 ⟨rfl, rfl⟩
  go_wp2_with fail
  refine bodyPost_end (results_none rfl _ _ _) rfl ?_
  exact ⟨rfl, k3, turnSet (turnSet (turnSet (Turn.refl _ _) _ _) _ _) _ _⟩
theorem PhAt.joinC (h : PhAt w p S) {t : Nat} (ht : t < 4) : Calls Try.prog 18 #[.pointer (some ⟨p, 0, none⟩), .int .i64 (t : Int)] w (PhPost p (S.join t) w (.tuple #[])) := by
  have cN := hasNumberC (t : Int) (by omega) (by omega) w
  have cQ := h.asksC
  have h1 : (t : Int) < 4 := by omega
  have h0 : (0 : Int) ≤ (t : Int) := by omega
  have y1 := h.cL ht
  cases hl : S.l t
  · rw [hl] at y1
    have eS : S.join t = { S with l := setB S.l t true, a := setB S.a t S.late, k := setB S.k t S.late } := by unfold Phs.join; rw [if_neg (by rw [hl]; decide)]
    have H := Lib.hid eS
    have c0 := h.c0
    have z1 := h.zL (2 + t * 3)
    have k1 := h.setL ht true
    cases hL : S.late
    all_goals
      rw [hL] at H
      have hLq : S.asks = S.late ∨ (S.asks = false ∧ S.now = 3 ∧ S.late = true) := by
        unfold Phs.late
        cases S.asks
        · by_cases h3 : S.now = 3
          · exact .inr ⟨rfl, h3, by simp [h3]⟩
          · exact .inl (by simp [h3])
        · exact .inl rfl
      have HL := Lib.hid hLq
      have HK := Lib.hid hL
      clear hLq hL hl eS
    · have k2 := k1.setA ht false
      have k3 := k2.setK ht false
      have y2 := k1.cA ht
      have y3 := k2.cK ht
      have z2 := k1.zL (2 + t * 3 + 1)
      have z3 := k2.zL (2 + t * 3 + 2)
      have e1 : ((S.now : Int) == 3) = false := by
        have := HK.out; unfold Phs.late at this; simp at this; simp; omega
      have hq : S.asks = false := by
        have := HK.out; unfold Phs.late at this; simp at this; exact this.1
      rw [hq] at cQ
      clear hq
      go_enter Try.func18, Try.ntmps18
      go_wp2_with fail
      refine cN.mono ?_
      rintro e w1 ⟨rfl, rfl⟩
      go_wp2_with fail
      refine cQ.mono ?_
      rintro e w1 ⟨rfl, rfl⟩
      go_wp2_with fail
      refine bodyPost_end (results_none rfl _ _ _) rfl ?_
      refine ⟨rfl, ?_, turnSet (turnSet (turnSet (Turn.refl _ _) _ _) _ _) _ _⟩
      rw [H.out]
      exact k3
    · have k2 := k1.setA ht true
      have k3 := k2.setK ht true
      have y2 := k1.cA ht
      have y3 := k2.cK ht
      have z2 := k1.zL (2 + t * 3 + 1)
      have z3 := k2.zL (2 + t * 3 + 2)
      by_cases hq : S.asks = true
      · rw [hq] at cQ
        clear hq
        go_enter Try.func18, Try.ntmps18
        go_wp2_with fail
        refine cN.mono ?_
        rintro e w1 ⟨rfl, rfl⟩
        go_wp2_with fail
        refine cQ.mono ?_
        rintro e w1 ⟨rfl, rfl⟩
        go_wp2_with fail
        refine bodyPost_end (results_none rfl _ _ _) rfl ?_
        refine ⟨rfl, ?_, turnSet (turnSet (turnSet (Turn.refl _ _) _ _) _ _) _ _⟩
        rw [H.out]
        exact k3
      · have hq2 : S.asks = false := by simpa using hq
        have e1 : ((S.now : Int) == 3) = true := by
          have := HK.out; unfold Phs.late at this; rw [hq2] at this; simp at this; simp; omega
        rw [hq2] at cQ
        clear hq hq2
        go_enter Try.func18, Try.ntmps18
        go_wp2_with fail
        refine cN.mono ?_
        rintro e w1 ⟨rfl, rfl⟩
        go_wp2_with fail
        refine cQ.mono ?_
        rintro e w1 ⟨rfl, rfl⟩
        go_wp2_with fail
        refine bodyPost_end (results_none rfl _ _ _) rfl ?_
        refine ⟨rfl, ?_, turnSet (turnSet (turnSet (Turn.refl _ _) _ _) _ _) _ _⟩
        rw [H.out]
        exact k3
  · rw [hl] at y1
    have eS : S.join t = S := by unfold Phs.join; rw [if_pos hl]
    rw [eS]
    clear eS hl cQ
    go_enter Try.func18, Try.ntmps18
    go_wp2_with fail
    refine cN.mono ?_
    rintro e w1 ⟨rfl, rfl⟩
    go_wp2_with fail
    refine bodyPost_ret (results_none rfl _ _ _) rfl ?_
    exact h.keepPost _ rfl

theorem PhAt.passC (h : PhAt w p S) (f n : Nat) (hf : f < 5) (hn : n < 5) : Calls Try.prog 27 #[.pointer (some ⟨p, 0, none⟩), .int .i64 (f : Int), .int .i64 (n : Int)] w
    (PhPost p (if S.now = f then S.enter n else S) w (.bool (decide (S.now = f)))) := by
  have c0 := h.c0
  have z0 := h.zL 0
  by_cases hq : S.now = f
  · rw [if_pos hq, decide_eq_true hq]
    have k0 := h.setNow n rfl
    have e1 : ((S.now : Int) != (f : Int)) = false := by simp; omega
    have k1 : PhAt (w.setCell ⟨p, 0, none⟩ (.int .i64 (n : Int))) p (S.cutK n 0) := k0.same rfl rfl (fun _ _ => rfl) (fun _ _ => rfl) (fun t _ => by simp [Phs.cutK])
    have hT : Turn (fun k => k = p) w (w.setCell ⟨p, 0, none⟩ (.int .i64 (n : Int))) := turnSet (Turn.refl _ _) _ _
    have K1 := Lib.hid k1
    have HT := Lib.hid hT
    clear hq k0 k1 hT h
    go_enter Try.func27, Try.ntmps27
    go_wp2_with fail
    generalize w.setCell ⟨p, 0, none⟩ (.int .i64 (n : Int)) = w1 at *
    clear c0 z0 e1
    go_loopw [7, 18] (fun _ v18 wr => ∃ j : Nat, j ≤ 4 ∧ v18 = .int .i64 (j : Int) ∧ PhAt wr p (S.cutK n j) ∧ Turn (fun k => k = p) w wr) (fun _ v18 _ => 4 - (intOf v18).toNat)
    case atStart => exact ⟨0, by omega, rfl, K1.out, HT.out⟩
    case round =>
      clear K1 HT
      obtain ⟨j, hj, rfl, hA, hT⟩ := hrel
      by_cases hlt : j < 4
      · have d1 : (j : Int) < 4 := by omega
        have y1 := hA.cK hlt
        have z1 := hA.zL (2 + j * 3 + 2)
        have hA2 : PhAt (wr.setCell ⟨p, 2 + j * 3 + 2, none⟩ (.bool false)) p (S.cutK n (j + 1)) := by
          refine (hA.setK hlt false).same rfl rfl (fun _ _ => rfl) (fun _ _ => rfl) (fun t _ => ?_)
          by_cases e : t = j
          · subst e; simp [Phs.cutK, setB]
          · simp only [Phs.cutK, setB, if_neg e]
            by_cases e2 : t < j
            · rw [if_pos e2, if_pos (by omega)]
            · rw [if_neg e2, if_neg (by omega)]
        have hT2 := turnSet hT (2 + j * 3 + 2) (.bool false)
        have HA2 := Lib.hid hA2
        have HT2 := Lib.hid hT2
        clear hA hT hA2 hT2
        go_wp2_with fail
        go_roundw
        case rel => exact ⟨j + 1, by omega, by go_num, HA2.out, HT2.out⟩
        case measure => simp [intOf]; omega
      · obtain rfl : j = 4 := by omega
        have HA := Lib.hid hA
        have HT := Lib.hid hT
        clear hA hT hlt hj
        go_wp2_with fail
        go_ret
        refine ⟨rfl, HA.out.same rfl rfl (fun _ _ => rfl) (fun _ _ => rfl) (fun t ht => ?_), HT.out⟩
        simp [Phs.cutK, Phs.enter, noB, ht]
  · rw [if_neg hq, decide_eq_false hq]
    have e1 : ((S.now : Int) != (f : Int)) = true := by simp; omega
    clear hq
    go_enter Try.func27, Try.ntmps27
    go_wp2_with fail
    go_ret
    exact h.keepPost _ rfl
end
end Go.Proofs.Ytacnikibmhlmiaa
