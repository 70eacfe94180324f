/- Law 17's model of phases in memory: one block of fourteen cells; at this seat's numbers. -/
import Derived.Test.YtacnikibmhlmiaaPhE
import Derived.RegionTactic
import Derived.BigRegion
namespace Go.Proofs.Ytacnikibmhlmiaa
open Go Go.RowKit
set_option linter.unusedSimpArgs false
set_option linter.unusedVariables false
attribute [local go_sem] Oper.semAt_some

def moCells (S : Phs) : Array Value := #[.int .i64 (S.now : Int), .int .i64 (S.rounds : Int), .bool (S.l 0), .bool (S.l 1), .bool (S.l 2), .bool (S.l 3), .bool (S.a 0), .bool (S.a 1), .bool (S.a 2), .bool (S.a 3), .bool (S.k 0), .bool (S.k 1), .bool (S.k 2), .bool (S.k 3)]
def MoAt (w : World) (p : Nat) (S : Phs) : Prop := Blk w p (moCells S) 29
/-- What the model makes of a call. -/
def Phs.moS (S : Phs) (kind t : Nat) : Phs :=
  if kind = 0 then S.begin_ else if kind = 1 then S.ack t else if kind = 2 then S.join t else if kind = 3 then S.leave t else if kind = 4 then S.adv else if kind = 5 then (if S.now = 3 then { S with now := 4, a := noB } else S) else (if S.now = 4 then { S with now := 0 } else S)
section
variable {w w' : World} {p : Nat} {S : Phs}
theorem MoAt.lt (h : MoAt w p S) : p < w.heap.size := Blk.lt h
theorem MoAt.turn {M : Nat → Prop} (h : MoAt w p S) (hT : Turn M w w') (hn : ¬ M p) : MoAt w' p S := Blk.turn h hT hn
theorem MoAt.c0 (h : MoAt w p S) : w.cell? ⟨p, 0, none⟩ = some (.int .i64 (S.now : Int)) := Blk.cell h 0
theorem MoAt.c1 (h : MoAt w p S) : w.cell? ⟨p, 1, none⟩ = some (.int .i64 (S.rounds : Int)) := Blk.cell h 1
theorem MoAt.zL (h : MoAt w p S) (i : Nat) : w.frozen? ⟨p, i, none⟩ = false := Blk.free h i
def MoPost (p : Nat) (S : Phs) (w : World) (v : Value) : Ending → World → Prop := fun e w' => e = .returned v ∧ MoAt w' p S ∧ Turn (fun k => k = p) w w'
theorem turnM {a : World} {p : Nat} (h : Turn (fun k => k = p) a w) (i : Nat) (v : Value) : Turn (fun k => k = p) a (w.setCell ⟨p, i, none⟩ v) := h.set _ _ (.inr rfl)
theorem MoAt.drew (h : MoAt w p S) : MoAt w.drew p S := h.turn ((Turn.refl (fun _ => False) w).drew) (fun h => h)
theorem MoAt.keepPost (h : MoAt w p S) (v : Value) {e : Ending} (he : e = .returned v) : MoPost p S w v e w := ⟨he, h, Turn.refl _ _⟩
theorem MoAt.setNow (h : MoAt w p S) (n : Nat) {v : Value} (hv : v = .int .i64 (n : Int)) : MoAt (w.setCell ⟨p, 0, none⟩ v) p { S with now := n } :=
  (Blk.setAt h 0 v).is (by simp [moCells, hv])
theorem MoAt.setRounds (h : MoAt w p S) (n : Nat) {v : Value} (hv : v = .int .i64 (n : Int)) : MoAt (w.setCell ⟨p, 1, none⟩ v) p { S with rounds := n } :=
  (Blk.setAt h 1 v).is (by simp [moCells, hv])
theorem MoAt.same {S' : Phs} (h : MoAt w p S) (e1 : S.now = S'.now) (e2 : S.rounds = S'.rounds) (e3 : ∀ t, t < 4 → S.l t = S'.l t) (e4 : ∀ t, t < 4 → S.a t = S'.a t) (e5 : ∀ t, t < 4 → S.k t = S'.k t) : MoAt w p S' := by
  refine Blk.is h ?_
  unfold moCells
  rw [e1, e2, e3 0 (by omega), e3 1 (by omega), e3 2 (by omega), e3 3 (by omega), e4 0 (by omega), e4 1 (by omega), e4 2 (by omega), e4 3 (by omega), e5 0 (by omega), e5 1 (by omega), e5 2 (by omega), e5 3 (by omega)]
theorem MoAt.cL (h : MoAt w p S) {t : Nat} (ht : t < 4) : w.cell? ⟨p, 2 + t, none⟩ = some (.bool (S.l t)) := by
  obtain rfl | rfl | rfl | rfl : t = 0 ∨ t = 1 ∨ t = 2 ∨ t = 3 := by omega
  all_goals exact Blk.cell h _
theorem MoAt.setL (h : MoAt w p S) {t : Nat} (ht : t < 4) (b : Bool) : MoAt (w.setCell ⟨p, 2 + t, none⟩ (.bool b)) p { S with l := setB S.l t b } := by
  have h1 := Blk.setAt h (2 + t) (.bool b)
  obtain rfl | rfl | rfl | rfl : t = 0 ∨ t = 1 ∨ t = 2 ∨ t = 3 := by omega
  all_goals exact h1.is (by simp [moCells, setB])
theorem MoAt.cA (h : MoAt w p S) {t : Nat} (ht : t < 4) : w.cell? ⟨p, 6 + t, none⟩ = some (.bool (S.a t)) := by
  obtain rfl | rfl | rfl | rfl : t = 0 ∨ t = 1 ∨ t = 2 ∨ t = 3 := by omega
  all_goals exact Blk.cell h _
theorem MoAt.setA (h : MoAt w p S) {t : Nat} (ht : t < 4) (b : Bool) : MoAt (w.setCell ⟨p, 6 + t, none⟩ (.bool b)) p { S with a := setB S.a t b } := by
  have h1 := Blk.setAt h (6 + t) (.bool b)
  obtain rfl | rfl | rfl | rfl : t = 0 ∨ t = 1 ∨ t = 2 ∨ t = 3 := by omega
  all_goals exact h1.is (by simp [moCells, setB])
theorem MoAt.cK (h : MoAt w p S) {t : Nat} (ht : t < 4) : w.cell? ⟨p, 10 + t, none⟩ = some (.bool (S.k t)) := by
  obtain rfl | rfl | rfl | rfl : t = 0 ∨ t = 1 ∨ t = 2 ∨ t = 3 := by omega
  all_goals exact Blk.cell h _
theorem MoAt.setK (h : MoAt w p S) {t : Nat} (ht : t < 4) (b : Bool) : MoAt (w.setCell ⟨p, 10 + t, none⟩ (.bool b)) p { S with k := setB S.k t b } := by
  have h1 := Blk.setAt h (10 + t) (.bool b)
  obtain rfl | rfl | rfl | rfl : t = 0 ∨ t = 1 ∨ t = 2 ∨ t = 3 := by omega
  all_goals exact h1.is (by simp [moCells, setB])
theorem MoAt.wantsC (h : MoAt w p S) {t : Nat} (ht : t < 4) : Calls Try.prog 17 #[.pointer (some ⟨p, 0, none⟩), .int .i64 (t : Int)] w fun e w' => e = .returned (.bool (S.wants t)) ∧ w = w' := by
  have c0 := h.c0
  have cl := h.cL ht
  have ck := h.cK ht
  have h1 : (t : Int) < 4 := by omega
  have h0 : (0 : Int) ≤ (t : Int) := by omega
  unfold Phs.wants
  by_cases n1 : S.now = 1
  · rw [Phs.asks_yes (.inl n1)]
    rw [n1] at c0
    clear n1 h
    cases hl : S.l t
    · rw [hl] at cl
      clear hl ck
      go_enter Try.func17, Try.ntmps17
      go_wp2_with fail
      go_ret
      exact ⟨rfl, rfl⟩
    · rw [hl] at cl
      clear hl
      generalize S.k t = kt at *
      go_enter Try.func17, Try.ntmps17
      go_wp2_with fail
      go_ret
      exact ⟨by simp, rfl⟩
  · by_cases n2 : S.now = 2
    · rw [Phs.asks_yes (.inr n2)]
      rw [n2] at c0
      clear n1 n2 h
      cases hl : S.l t
      · rw [hl] at cl
        clear hl ck
        go_enter Try.func17, Try.ntmps17
        go_wp2_with fail
        go_ret
        exact ⟨rfl, rfl⟩
      · rw [hl] at cl
        clear hl
        generalize S.k t = kt at *
        go_enter Try.func17, Try.ntmps17
        go_wp2_with fail
        go_ret
        exact ⟨by simp, rfl⟩
    · rw [Phs.asks_no n1 n2]
      have e1 : ((S.now : Int) == 1) = false := by simp; omega
      have e2 : ((S.now : Int) == 2) = false := by simp; omega
      generalize (S.now : Int) = n at *
      clear n1 n2 h cl ck
      go_enter Try.func17, Try.ntmps17
      go_wp2_with fail
      go_ret
      exact ⟨rfl, rfl⟩
set_option maxRecDepth 100000 in
set_option maxHeartbeats 4000000 in
theorem MoAt.do0 (h : MoAt w p S) (t : Nat) : Calls Try.prog 12 #[.pointer (some ⟨p, 0, none⟩), .int .i64 0, .int .i64 (t : Int)] w (MoPost p S.begin_ w (.bool S.beginB)) := by
  have c0 := h.c0
  unfold Phs.begin_ Phs.beginB
  by_cases hn : S.now = 0
  · rw [if_pos hn, decide_eq_true hn]
    have h0 := h.zL 0
    have e1 : ((S.now : Int) != 0) = false := by simp; omega
    have k4 := ((((h.setNow 1 rfl).setK (t := 0) (by omega) false).setK (t := 1) (by omega) false).setK (t := 2) (by omega) false).setK (t := 3) (by omega) false
    have k5 : MoAt _ p (S.enter 1) := k4.same rfl rfl (fun _ _ => rfl) (fun _ _ => rfl) (fun t ht => by
      obtain rfl | rfl | rfl | rfl : t = 0 ∨ t = 1 ∨ t = 2 ∨ t = 3 := by omega
      all_goals rfl)
    have y10 : w.cell? ⟨p, 10, none⟩ = some (.bool (S.k 0)) := Blk.cell h 10
    have z10 := h.zL 10
    have y11 : w.cell? ⟨p, 11, none⟩ = some (.bool (S.k 1)) := Blk.cell h 11
    have z11 := h.zL 11
    have y12 : w.cell? ⟨p, 12, none⟩ = some (.bool (S.k 2)) := Blk.cell h 12
    have z12 := h.zL 12
    have y13 : w.cell? ⟨p, 13, none⟩ = some (.bool (S.k 3)) := Blk.cell h 13
    have z13 := h.zL 13
    have K4 := Lib.hid k5
    clear hn k4 k5
    go_enter Try.func12, Try.ntmps12
    go_wp2_with fail
    go_ret
    exact ⟨rfl, K4.out, turnM (turnM (turnM (turnM (turnM (Turn.refl _ _) _ _) _ _) _ _) _ _) _ _⟩
  · rw [if_neg hn, decide_eq_false hn]
    have e1 : ((S.now : Int) != 0) = true := by simp; omega
    clear hn
    go_enter Try.func12, Try.ntmps12
    go_wp2_with fail
    go_ret
    exact h.keepPost _ rfl
set_option maxRecDepth 100000 in
set_option maxHeartbeats 4000000 in
theorem MoAt.do1 (h : MoAt w p S) {t : Nat} (ht : t < 4) : Calls Try.prog 12 #[.pointer (some ⟨p, 0, none⟩), .int .i64 1, .int .i64 (t : Int)] w (MoPost p (S.ack t) w (.bool (S.wants t))) := by
  have cW := h.wantsC ht
  have h1 : (t : Int) < 4 := by omega
  have h0 : (0 : Int) ≤ (t : Int) := by omega
  cases hw : S.wants t
  · have eS : S.ack t = S := by unfold Phs.ack; rw [if_neg (by rw [hw]; decide)]
    rw [eS]
    rw [hw] at cW
    clear eS hw
    go_enter Try.func12, Try.ntmps12
    go_wp2_with fail
    refine cW.mono ?_
    rintro e w1 ⟨rfl, rfl⟩
    go_wp2_with fail
    go_ret
    exact h.keepPost _ rfl
  · have z1 := h.zL (10 + t)
    have y1 := h.cK ht
    have y2 := h.cA ht
    have z2 := h.zL (6 + t)
    have hk := h.setK ht true
    have c0 := h.c0
    rw [hw] at cW
    by_cases hn : S.now = 1
    · have eS : S.ack t = { S with k := setB S.k t true, a := setB S.a t true } := by unfold Phs.ack; rw [if_pos hw, if_pos hn]
      have H := Lib.hid eS
      have e1 : ((S.now : Int) == 1) = true := by simp; omega
      clear eS hw hn
      go_enter Try.func12, Try.ntmps12
      go_wp2_with fail
      refine cW.mono ?_
      rintro e w1 ⟨rfl, rfl⟩
      go_wp2_with fail
      go_ret
      refine ⟨rfl, ?_, turnM (turnM (Turn.refl _ _) _ _) _ _⟩
      rw [H.out]
      exact hk.setA ht true
    · have eS : S.ack t = { S with k := setB S.k t true } := by unfold Phs.ack; rw [if_pos hw, if_neg hn]
      have H := Lib.hid eS
      have e1 : ((S.now : Int) == 1) = false := by simp; omega
      clear eS hw hn
      go_enter Try.func12, Try.ntmps12
      go_wp2_with fail
      refine cW.mono ?_
      rintro e w1 ⟨rfl, rfl⟩
      go_wp2_with fail
      go_ret
      refine ⟨rfl, ?_, turnM (Turn.refl _ _) _ _⟩
      rw [H.out]
      exact hk
set_option maxRecDepth 100000 in
set_option maxHeartbeats 4000000 in
theorem MoAt.do2 (h : MoAt w p S) {t : Nat} (ht : t < 4) : Calls Try.prog 12 #[.pointer (some ⟨p, 0, none⟩), .int .i64 2, .int .i64 (t : Int)] w (MoPost p (S.join t) w (.bool false)) := by
  have h1 : (t : Int) < 4 := by omega
  have h0 : (0 : Int) ≤ (t : Int) := by omega
  have c0 := h.c0
  have y1 := h.cL ht
  cases hl : S.l t
  · rw [hl] at y1
    have eS : S.join t = { S with l := setB S.l t true, a := setB S.a t S.late, k := setB S.k t S.late } := by unfold Phs.join; rw [if_neg (by rw [hl]; decide)]
    have hlate : S.late = (decide (1 ≤ S.now) && decide (S.now ≤ 3)) := by
      unfold Phs.late Phs.asks
      rw [Bool.eq_iff_iff]; simp; omega
    have y2 := h.cA ht
    have y3 := h.cK ht
    have z1 := h.zL (2 + t)
    have z2 := h.zL (6 + t)
    have z3 := h.zL (10 + t)
    cases hL : S.late
    all_goals
      rw [hL] at eS
      have H := Lib.hid eS
    · have hd : S.now = 0 ∨ 3 < S.now := by rw [hL] at hlate; simp at hlate; omega
      have hh := h.drew
      have K := Lib.hid (And.intro (((hh.setL ht true).setA ht false).setK ht false) H.out)
      rcases hd with hd | hd
      · rw [hd] at c0
        clear eS hL hlate hl H hh hd
        go_enter Try.func12, Try.ntmps12
        go_wp2_with fail
        go_region
        all_goals
          go_wp2_with fail
          go_ret
          refine ⟨rfl, ?_, turnM (turnM (turnM (Turn.refl _ _).drew _ _) _ _) _ _⟩
          rw [K.out.2]
          first | exact ((h.drew.setL ht true).setA ht false).setK ht false | exact ((h.drew.setL ht true).setK ht false).setA ht false | exact ((h.drew.setA ht false).setL ht true).setK ht false | exact ((h.drew.setA ht false).setK ht false).setL ht true | exact ((h.drew.setK ht false).setA ht false).setL ht true | exact ((h.drew.setK ht false).setL ht true).setA ht false
      · have e1 : (1 : Int) ≤ (S.now : Int) := by omega
        have e2 : ¬ (S.now : Int) ≤ 3 := by omega
        clear eS hL hlate hl H hh hd
        go_enter Try.func12, Try.ntmps12
        go_wp2_with fail
        go_region
        all_goals
          go_wp2_with fail
          go_ret
          refine ⟨rfl, ?_, turnM (turnM (turnM (Turn.refl _ _).drew _ _) _ _) _ _⟩
          rw [K.out.2]
          first | exact ((h.drew.setL ht true).setA ht false).setK ht false | exact ((h.drew.setL ht true).setK ht false).setA ht false | exact ((h.drew.setA ht false).setL ht true).setK ht false | exact ((h.drew.setA ht false).setK ht false).setL ht true | exact ((h.drew.setK ht false).setA ht false).setL ht true | exact ((h.drew.setK ht false).setL ht true).setA ht false
    · have e1 : (1 : Int) ≤ (S.now : Int) := by rw [hL] at hlate; simp at hlate; omega
      have e2 : (S.now : Int) ≤ 3 := by rw [hL] at hlate; simp at hlate; omega
      clear eS hL hlate hl
      go_enter Try.func12, Try.ntmps12
      go_wp2_with fail
      go_region
      all_goals
        go_wp2_with fail
        go_ret
        refine ⟨rfl, ?_, turnM (turnM (turnM (Turn.refl _ _).drew _ _) _ _) _ _⟩
        rw [H.out]
        first | exact ((h.drew.setL ht true).setA ht true).setK ht true | exact ((h.drew.setL ht true).setK ht true).setA ht true | exact ((h.drew.setA ht true).setL ht true).setK ht true | exact ((h.drew.setA ht true).setK ht true).setL ht true | exact ((h.drew.setK ht true).setA ht true).setL ht true | exact ((h.drew.setK ht true).setL ht true).setA ht true
  · rw [hl] at y1
    have eS : S.join t = S := by unfold Phs.join; rw [if_pos hl]
    rw [eS]
    clear eS hl
    go_enter Try.func12, Try.ntmps12
    go_wp2_with fail
    go_ret
    exact h.keepPost _ rfl
set_option maxRecDepth 100000 in
set_option maxHeartbeats 4000000 in
theorem MoAt.do3 (h : MoAt w p S) {t : Nat} (ht : t < 4) : Calls Try.prog 12 #[.pointer (some ⟨p, 0, none⟩), .int .i64 3, .int .i64 (t : Int)] w (MoPost p (S.leave t) w (.bool false)) := by
  have h1 : (t : Int) < 4 := by omega
  have h0 : (0 : Int) ≤ (t : Int) := by omega
  have y1 := h.cL ht
  have y2 := h.cA ht
  have y3 := h.cK ht
  have z1 := h.zL (2 + t)
  have z2 := h.zL (6 + t)
  have z3 := h.zL (10 + t)
  go_enter Try.func12, Try.ntmps12
  go_wp2_with fail
  go_region
  all_goals
    go_wp2_with fail
    go_ret
    refine ⟨rfl, ?_, turnM (turnM (turnM (Turn.refl _ _).drew _ _) _ _) _ _⟩
    unfold Phs.leave
    first | exact ((h.drew.setL ht false).setA ht false).setK ht false | exact ((h.drew.setL ht false).setK ht false).setA ht false | exact ((h.drew.setA ht false).setL ht false).setK ht false | exact ((h.drew.setA ht false).setK ht false).setL ht false | exact ((h.drew.setK ht false).setA ht false).setL ht false | exact ((h.drew.setK ht false).setL ht false).setA ht false
set_option maxRecDepth 100000 in
set_option maxHeartbeats 4000000 in
theorem MoAt.do5 (h : MoAt w p S) (t : Nat) : Calls Try.prog 12 #[.pointer (some ⟨p, 0, none⟩), .int .i64 5, .int .i64 (t : Int)] w (MoPost p (if S.now = 3 then { S with now := 4, a := noB } else S) w (.bool S.markedB)) := by
  have c0 := h.c0
  unfold Phs.markedB
  by_cases hn : S.now = 3
  · rw [if_pos hn, decide_eq_true hn]
    have h0 := h.zL 0
    have e1 : ((S.now : Int) != 3) = false := by simp; omega
    have k4 := ((((h.setNow 4 rfl).setA (t := 0) (by omega) false).setA (t := 1) (by omega) false).setA (t := 2) (by omega) false).setA (t := 3) (by omega) false
    have k5 : MoAt _ p { S with now := 4, a := noB } := k4.same rfl rfl (fun _ _ => rfl) (fun t ht => by
      obtain rfl | rfl | rfl | rfl : t = 0 ∨ t = 1 ∨ t = 2 ∨ t = 3 := by omega
      all_goals rfl) (fun _ _ => rfl)
    have y6 : w.cell? ⟨p, 6, none⟩ = some (.bool (S.a 0)) := Blk.cell h 6
    have z6 := h.zL 6
    have y7 : w.cell? ⟨p, 7, none⟩ = some (.bool (S.a 1)) := Blk.cell h 7
    have z7 := h.zL 7
    have y8 : w.cell? ⟨p, 8, none⟩ = some (.bool (S.a 2)) := Blk.cell h 8
    have z8 := h.zL 8
    have y9 : w.cell? ⟨p, 9, none⟩ = some (.bool (S.a 3)) := Blk.cell h 9
    have z9 := h.zL 9
    have K4 := Lib.hid k5
    clear hn k4 k5
    go_enter Try.func12, Try.ntmps12
    go_wp2_with fail
    go_ret
    exact ⟨rfl, K4.out, turnM (turnM (turnM (turnM (turnM (Turn.refl _ _) _ _) _ _) _ _) _ _) _ _⟩
  · rw [if_neg hn, decide_eq_false hn]
    have e1 : ((S.now : Int) != 3) = true := by simp; omega
    clear hn
    go_enter Try.func12, Try.ntmps12
    go_wp2_with fail
    go_ret
    exact h.keepPost _ rfl
set_option maxRecDepth 100000 in
set_option maxHeartbeats 4000000 in
theorem MoAt.do6 (h : MoAt w p S) (t : Nat) : Calls Try.prog 12 #[.pointer (some ⟨p, 0, none⟩), .int .i64 6, .int .i64 (t : Int)] w (MoPost p (if S.now = 4 then { S with now := 0 } else S) w (.bool S.sweptB)) := by
  have c0 := h.c0
  unfold Phs.sweptB
  by_cases hn : S.now = 4
  · rw [if_pos hn, decide_eq_true hn]
    have h0 := h.zL 0
    have e1 : ((S.now : Int) != 4) = false := by simp; omega
    have K4 := Lib.hid (h.setNow 0 rfl)
    clear hn
    go_enter Try.func12, Try.ntmps12
    go_wp2_with fail
    go_ret
    exact ⟨rfl, K4.out, turnM (Turn.refl _ _) _ _⟩
  · rw [if_neg hn, decide_eq_false hn]
    have e1 : ((S.now : Int) != 4) = true := by simp; omega
    clear hn
    go_enter Try.func12, Try.ntmps12
    go_wp2_with fail
    go_ret
    exact h.keepPost _ rfl
set_option maxRecDepth 100000 in
set_option maxHeartbeats 4000000 in
theorem MoAt.do4 (h : MoAt w p S) (hr : S.rounds ≤ 1000000) (t : Nat) : Calls Try.prog 12 #[.pointer (some ⟨p, 0, none⟩), .int .i64 4, .int .i64 (t : Int)] w (MoPost p S.adv w (.bool S.advB)) := by
  have HW := Lib.hid (fun (t : Nat) (ht : t < 4) => MoAt.wantsC h ht)
  go_enter Try.func12, Try.ntmps12
  go_wp2_with fail
  go_loop [8, 109] (fun _ v4 => ∃ j : Nat, j ≤ 4 ∧ v4 = .int .i64 (j : Int) ∧ ∀ t, t < j → S.wants t = false) (fun _ v4 => 4 - (intOf v4).toNat)
  case atStart => exact ⟨0, by omega, rfl, fun t ht => absurd ht (by omega)⟩
  case round =>
    obtain ⟨j, hj, rfl, hA⟩ := hrel
    have HA := Lib.hid hA
    clear hA
    by_cases hlt : j < 4
    · have d1 : (j : Int) < 4 := by omega
      have cW := HW.out j hlt
      cases hw : S.wants j
      · rw [hw] at cW
        have H := Lib.hid hw
        clear hw
        go_wp2_with fail
        refine cW.mono ?_
        rintro e w1 ⟨rfl, rfl⟩
        go_wp2_with fail
        go_round
        case rel => exact ⟨j + 1, by omega, by go_num, fun t ht => by
          by_cases e : t = j
          · rw [e]; exact H.out
          · exact HA.out t (by omega)⟩
        case measure => simp [intOf]; omega
      · rw [hw] at cW
        have hB : S.advB = false := by
          unfold Phs.advB; rw [Phs.wantsAny_iff.2 ⟨j, hlt, hw⟩]; simp
        have hS : S.adv = S := by unfold Phs.adv; rw [if_neg (by rw [hB]; decide)]
        rw [hB, hS]
        clear hB hS hw
        go_wp2_with fail
        refine cW.mono ?_
        rintro e w1 ⟨rfl, rfl⟩
        go_wp2_with fail
        go_ret
        exact h.keepPost _ rfl
    · obtain rfl : j = 4 := by omega
      have hno : S.wantsAny = false := Phs.wantsAny_no.2 HA.out
      have hB : S.advB = S.asks := by unfold Phs.advB; rw [hno]; simp
      clear HW hlt hj HA hno
      have c0 := h.c0
      by_cases hq : S.asks = true
      · rw [hq] at hB
        have hS : S.adv = { S.enter (S.now + 1) with rounds := S.rounds + 1 } := by unfold Phs.adv; rw [if_pos hB]
        have HG := Lib.hid (show ∀ W, MoAt W p { S.enter (S.now + 1) with rounds := S.rounds + 1 } → Turn (fun k => k = p) w W → MoPost p S.adv w (.bool S.advB) (.returned (.bool true)) W from fun W h1 h2 => by rw [hB, hS]; exact ⟨rfl, h1, h2⟩)
        have hr2 : (S.rounds : Int) ≤ 1000000 := by omega
        have hr0 : (0 : Int) ≤ (S.rounds : Int) := by omega
        have c1 := h.c1
        have z0 := h.zL 0
        have z1 := h.zL 1
        have y10 : w.cell? ⟨p, 10, none⟩ = some (.bool (S.k 0)) := Blk.cell h 10
        have z10 := h.zL 10
        have y11 : w.cell? ⟨p, 11, none⟩ = some (.bool (S.k 1)) := Blk.cell h 11
        have z11 := h.zL 11
        have y12 : w.cell? ⟨p, 12, none⟩ = some (.bool (S.k 2)) := Blk.cell h 12
        have z12 := h.zL 12
        have y13 : w.cell? ⟨p, 13, none⟩ = some (.bool (S.k 3)) := Blk.cell h 13
        have z13 := h.zL 13
        rcases Phs.asks_iff.1 hq with hn | hn
        · rw [hn] at c0 HG
          have k4 := (((((h.setNow 2 rfl).setRounds (S.rounds + 1) (v := .int .i64 ((S.rounds : Int) + 1)) (by simp)).setK (t := 0) (by omega) false).setK (t := 1) (by omega) false).setK (t := 2) (by omega) false).setK (t := 3) (by omega) false
          have k5 : MoAt _ p { S.enter 2 with rounds := S.rounds + 1 } := k4.same rfl rfl (fun _ _ => rfl) (fun _ _ => rfl) (fun t ht => by
            obtain rfl | rfl | rfl | rfl : t = 0 ∨ t = 1 ∨ t = 2 ∨ t = 3 := by omega
            all_goals rfl)
          have K4 := Lib.hid k5
          clear hn k4 k5 hB hS hq h
          go_wp2_with fail
          go_ret
          exact HG.out _ K4.out (turnM (turnM (turnM (turnM (turnM (turnM (Turn.refl _ _) _ _) _ _) _ _) _ _) _ _) _ _)
        · rw [hn] at c0 HG
          have k4 := (((((h.setNow 3 rfl).setRounds (S.rounds + 1) (v := .int .i64 ((S.rounds : Int) + 1)) (by simp)).setK (t := 0) (by omega) false).setK (t := 1) (by omega) false).setK (t := 2) (by omega) false).setK (t := 3) (by omega) false
          have k5 : MoAt _ p { S.enter 3 with rounds := S.rounds + 1 } := k4.same rfl rfl (fun _ _ => rfl) (fun _ _ => rfl) (fun t ht => by
            obtain rfl | rfl | rfl | rfl : t = 0 ∨ t = 1 ∨ t = 2 ∨ t = 3 := by omega
            all_goals rfl)
          have K4 := Lib.hid k5
          clear hn k4 k5 hB hS hq h
          go_wp2_with fail
          go_ret
          exact HG.out _ K4.out (turnM (turnM (turnM (turnM (turnM (turnM (Turn.refl _ _) _ _) _ _) _ _) _ _) _ _) _ _)
      · have hq2 : S.asks = false := by simpa using hq
        rw [hq2] at hB
        have hS : S.adv = S := by unfold Phs.adv; rw [if_neg (by rw [hB]; decide)]
        have HG := Lib.hid (show MoPost p S.adv w (.bool S.advB) (.returned (.bool false)) w by rw [hB, hS]; exact h.keepPost _ rfl)
        have e1 : ((S.now : Int) != 1) = true := by
          have : ¬ (S.now = 1 ∨ S.now = 2) := fun e => hq (Phs.asks_iff.2 e)
          simp; omega
        have e2 : ((S.now : Int) != 2) = true := by
          have : ¬ (S.now = 1 ∨ S.now = 2) := fun e => hq (Phs.asks_iff.2 e)
          simp; omega
        clear hq hq2 hB hS
        go_wp2_with fail
        go_ret
        exact HG.out
theorem MoAt.doC (h : MoAt w p S) (hr : S.rounds ≤ 1000000) {kind t : Nat} (hk : kind < 7) (ht : t < 4) : Calls Try.prog 12 #[.pointer (some ⟨p, 0, none⟩), .int .i64 (kind : Int), .int .i64 (t : Int)] w (MoPost p (S.moS kind t) w (.bool (S.doB kind t))) := by
  obtain rfl | rfl | rfl | rfl | rfl | rfl | rfl : kind = 0 ∨ kind = 1 ∨ kind = 2 ∨ kind = 3 ∨ kind = 4 ∨ kind = 5 ∨ kind = 6 := by omega
  · exact h.do0 t
  · exact h.do1 ht
  · exact h.do2 ht
  · exact h.do3 ht
  · exact h.do4 hr t
  · exact h.do5 t
  · exact h.do6 t
end
end Go.Proofs.Ytacnikibmhlmiaa
