/- The phases' calls: Wants, Ack, Join, Leave, pass, Begin, Advance, Marked, Swept; at this seat's numbers. -/
import Derived.Test.YtacnikibmhlmiaaPhA
namespace Go.Proofs.Ytacnikibmhlmiaa
open Go Go.RowKit
set_option linter.unusedSimpArgs false
set_option linter.unusedVariables false
attribute [local go_sem] Oper.semAt_some

section
variable {w w' : World} {p : Nat} {S : Phs}
/-- What a call on phases has turned. -/
def PhPost (p : Nat) (S : Phs) (w : World) (v : Value) : Ending → World → Prop := fun e w' => e = .returned v ∧ PhAt w' p S ∧ Turn (fun k => k = p) w w'
theorem PhAt.keepPost (h : PhAt w p S) (v : Value) {e : Ending} (he : e = .returned v) : PhPost p S w v e w := ⟨he, h, Turn.refl _ _⟩
theorem PhAt.setL (h : PhAt w p S) {t : Nat} (ht : t < 4) (b : Bool) : PhAt (w.setCell ⟨p, 2 + t * 3, none⟩ (.bool b)) p { S with l := setB S.l t b } := by
  have h1 := Blk.setAt h (2 + t * 3) (.bool b)
  obtain rfl | rfl | rfl | rfl : t = 0 ∨ t = 1 ∨ t = 2 ∨ t = 3 := by omega
  all_goals exact h1.is (by simp [phCells, setB])
theorem PhAt.setA (h : PhAt w p S) {t : Nat} (ht : t < 4) (b : Bool) : PhAt (w.setCell ⟨p, 2 + t * 3 + 1, none⟩ (.bool b)) p { S with a := setB S.a t b } := by
  have h1 := Blk.setAt h (2 + t * 3 + 1) (.bool b)
  obtain rfl | rfl | rfl | rfl : t = 0 ∨ t = 1 ∨ t = 2 ∨ t = 3 := by omega
  all_goals exact h1.is (by simp [phCells, setB])
theorem PhAt.setK (h : PhAt w p S) {t : Nat} (ht : t < 4) (b : Bool) : PhAt (w.setCell ⟨p, 2 + t * 3 + 2, none⟩ (.bool b)) p { S with k := setB S.k t b } := by
  have h1 := Blk.setAt h (2 + t * 3 + 2) (.bool b)
  obtain rfl | rfl | rfl | rfl : t = 0 ∨ t = 1 ∨ t = 2 ∨ t = 3 := by omega
  all_goals exact h1.is (by simp [phCells, setB])
theorem PhAt.setNow (h : PhAt w p S) (n : Nat) {v : Value} (hv : v = .int .i64 (n : Int)) : PhAt (w.setCell ⟨p, 0, none⟩ v) p { S with now := n } :=
  (Blk.setAt h 0 v).is (by simp [phCells, hv])
theorem PhAt.setRounds (h : PhAt w p S) (n : Nat) {v : Value} (hv : v = .int .i64 (n : Int)) : PhAt (w.setCell ⟨p, 1, none⟩ v) p { S with rounds := n } :=
  (Blk.setAt h 1 v).is (by simp [phCells, hv])
theorem PhAt.zL (h : PhAt w p S) (i : Nat) : w.frozen? ⟨p, i, none⟩ = false := Blk.free h i
theorem PhAt.same {S' : Phs} (h : PhAt w p S) (e1 : S.now = S'.now) (e2 : S.rounds = S'.rounds) (e3 : ∀ t, t < 4 → S.l t = S'.l t) (e4 : ∀ t, t < 4 → S.a t = S'.a t) (e5 : ∀ t, t < 4 → S.k t = S'.k t) : PhAt w p S' := by
  refine Blk.is h ?_
  unfold phCells
  rw [e1, e2, e3 0 (by omega), e3 1 (by omega), e3 2 (by omega), e3 3 (by omega), e4 0 (by omega), e4 1 (by omega), e4 2 (by omega), e4 3 (by omega), e5 0 (by omega), e5 1 (by omega), e5 2 (by omega), e5 3 (by omega)]
theorem turnSet {a : World} {p : Nat} (h : Turn (fun k => k = p) a w) (i : Nat) (v : Value) : Turn (fun k => k = p) a (w.setCell ⟨p, i, none⟩ v) := h.set _ _ (.inr rfl)

theorem PhAt.wantsC (h : PhAt w p S) {t : Nat} (ht : t < 4) : Calls Try.prog 16 #[.pointer (some ⟨p, 0, none⟩), .int .i64 (t : Int)] w fun e w' => e = .returned (.bool (S.wants t)) ∧ w = w' := by
  have cN := hasNumberC (t : Int) (by omega) (by omega) w
  have cQ := h.asksC
  have cl := h.cL ht
  have ck := h.cK ht
  have h1 : (t : Int) < 4 := by omega
  have h0 : (0 : Int) ≤ (t : Int) := by omega
  unfold Phs.wants
  cases hq : S.asks
  · rw [hq] at cQ
    clear cl ck hq h
    go_enter Try.func16, Try.ntmps16
    go_wp2_with fail
    refine cN.mono ?_
    rintro e w1 ⟨rfl, rfl⟩
    go_wp2_with fail
    refine cQ.mono ?_
    rintro e w1 ⟨rfl, rfl⟩
    go_wp2_with fail
    go_ret
    exact ⟨rfl, rfl⟩
  · rw [hq] at cQ
    clear hq h
    cases hl : S.l t
    · rw [hl] at cl
      clear hl ck
      go_enter Try.func16, Try.ntmps16
      go_wp2_with fail
      refine cN.mono ?_
      rintro e w1 ⟨rfl, rfl⟩
      go_wp2_with fail
      refine cQ.mono ?_
      rintro e w1 ⟨rfl, rfl⟩
      go_wp2_with fail
      go_ret
      exact ⟨rfl, rfl⟩
    · rw [hl] at cl
      clear hl
      generalize S.k t = kt at *
      go_enter Try.func16, Try.ntmps16
      go_wp2_with fail
      refine cN.mono ?_
      rintro e w1 ⟨rfl, rfl⟩
      go_wp2_with fail
      refine cQ.mono ?_
      rintro e w1 ⟨rfl, rfl⟩
      go_wp2_with fail
      go_ret
      exact ⟨by simp, rfl⟩
theorem PhAt.wantsN (h : PhAt w p S) (t : Int) (ht : t < 0 ∨ 4 ≤ t) : Calls Try.prog 16 #[.pointer (some ⟨p, 0, none⟩), .int .i64 t] w fun e w' => e = .returned (.bool false) ∧ w = w' := by
  have cN := hasNumberN t ht w
  clear h
  go_enter Try.func16, Try.ntmps16
  go_wp2_with fail
  refine cN.mono ?_
  rintro e w1 ⟨rfl, rfl⟩
  go_wp2_with fail
  go_ret
  exact ⟨rfl, rfl⟩
theorem PhAt.ackC (h : PhAt w p S) {t : Nat} (ht : t < 4) : Calls Try.prog 21 #[.pointer (some ⟨p, 0, none⟩), .int .i64 (t : Int)] w (PhPost p (S.ack t) w (.bool (S.wants t))) := by
  have cW := h.wantsC ht
  have h1 : (t : Int) < 4 := by omega
  have h0 : (0 : Int) ≤ (t : Int) := by omega
  cases hw : S.wants t
  · have eS : S.ack t = S := by unfold Phs.ack; rw [if_neg (by rw [hw]; decide)]
    rw [eS]
    rw [hw] at cW
    clear eS hw
    go_enter Try.func21, Try.ntmps21
    go_wp2_with fail
    refine cW.mono ?_
    rintro e w1 ⟨rfl, rfl⟩
    go_wp2_with fail
    go_ret
    exact h.keepPost _ rfl
  · have z1 := h.zL (2 + t * 3 + 2)
    have y1 := h.cK ht
    have y2 : (w.setCell ⟨p, 2 + t * 3 + 2, none⟩ (.bool true)).cell? ⟨p, 2 + t * 3 + 1, none⟩ = some (.bool (S.a t)) := (h.setK ht true).cA ht
    have hk := h.setK ht true
    have d0 : (w.setCell ⟨p, 2 + t * 3 + 2, none⟩ (.bool true)).cell? ⟨p, 0, none⟩ = some (.int .i64 (S.now : Int)) := hk.c0
    have z2 := hk.zL (2 + t * 3 + 1)
    rw [hw] at cW
    by_cases hn : S.now = 1
    · have eS : S.ack t = { S with k := setB S.k t true, a := setB S.a t true } := by unfold Phs.ack; rw [if_pos hw, if_pos hn]
      have H := Lib.hid eS
      have e1 : ((S.now : Int) == 1) = true := by simp; omega
      clear eS hw hn
      go_enter Try.func21, Try.ntmps21
      go_wp2_with fail
      refine cW.mono ?_
      rintro e w1 ⟨rfl, rfl⟩
      go_wp2_with fail
      go_ret
      refine ⟨rfl, ?_, turnSet (turnSet (Turn.refl _ _) _ _) _ _⟩
      rw [H.out]
      exact hk.setA ht true
    · have eS : S.ack t = { S with k := setB S.k t true } := by unfold Phs.ack; rw [if_pos hw, if_neg hn]
      have H := Lib.hid eS
      have e1 : ((S.now : Int) == 1) = false := by simp; omega
      clear eS hw hn
      go_enter Try.func21, Try.ntmps21
      go_wp2_with fail
      refine cW.mono ?_
      rintro e w1 ⟨rfl, rfl⟩
      go_wp2_with fail
      go_ret
      refine ⟨rfl, ?_, turnSet (Turn.refl _ _) _ _⟩
      rw [H.out]
      exact hk
end
end Go.Proofs.Ytacnikibmhlmiaa
