/- Package cell's functions but Points, at this seat's numbers. -/
import Derived.Test.YtkjpeacnponcfaaGreatDoorCeM
import Derived.Test.YtkjpeacnponcfaaGreatDoorUc
namespace Go.Proofs.YtkjpeacnponcfaaGreatDoor
open Go Go.RowKit Go.Shelf Go.MuLone Go.RwLone
set_option linter.unusedSimpArgs false
set_option linter.unusedVariables false

theorem cIndex0 (w : World) : (Instr.index 128 (.agg wordsRow) (.int .i64 0)).run Tryz.prog w = .ok (.int .i64 2) w := by kernel_rfl
theorem cIndex1 (w : World) : (Instr.index 128 (.agg wordsRow) (.int .i64 1)).run Tryz.prog w = .ok (.int .i64 4) w := by kernel_rfl
theorem cIndex2 (w : World) : (Instr.index 128 (.agg wordsRow) (.int .i64 2)).run Tryz.prog w = .ok (.int .i64 8) w := by kernel_rfl

theorem clsN_no (n : Int) (w : World) (h : n < 0 ∨ 6 < n) : Calls Tryz.prog 42 #[.int .i64 n] w fun e w' => e = .returned (.tuple #[.int .i64 0, .bool false]) ∧ w = w' := by
  rcases h with h | h
  · go_enter Tryz.func42, Tryz.ntmps42
    go_wp2
    go_ret2
    exact ⟨rfl, rfl⟩
  · have h' : ¬ n < 0 := by omega
    go_enter Tryz.func42, Tryz.ntmps42
    go_wp2
    go_ret2
    exact ⟨rfl, rfl⟩

set_option maxHeartbeats 1000000 in
theorem clsN_yes (n m : Int) (w : World) (hT : TableAt w) (h0 : 0 ≤ n) (h6 : n ≤ 6) (hm : clsK n = m) : Calls Tryz.prog 42 #[.int .i64 n] w fun e w' => e = .returned (.tuple #[.int .i64 m, .bool true]) ∧ w = w' := by
  obtain ⟨T, fr, hT⟩ := hT
  have HM : Hid (m = clsK n) := hm.symm
  clear hm
  have i0 := cIndex0
  have i1 := cIndex1
  have i2 := cIndex2
  go_enter Tryz.func42, Tryz.ntmps42
  go_wp2_with (refine wpList_load_row rfl 128 _ rfl 0 rfl T wordsRow fr _ hT Tryz.underlying128 rfl (by kernel_rfl) ?_)
  clear hT
  go_loop [13] (fun c => ∃ k : Nat, k ≤ 3 ∧ c = .int .i64 (k : Int) ∧ (0 < k → 1 ≤ n) ∧ (1 < k → 3 ≤ n) ∧ k < 3) (fun c => 3 - (intOf c).toNat)
  case atStart => exact ⟨0, by omega, rfl, by omega, by omega, by omega⟩
  case round =>
    obtain ⟨k, hk, rfl, g1, g2, g3⟩ := hrel
    have hkk : k = 0 ∨ k = 1 ∨ k = 2 := by omega
    rcases hkk with rfl | rfl | rfl
    · clear g1 g2 g3 hk
      by_cases hn : n ≤ 0
      · obtain rfl : m = 0 := by rw [HM.out]; unfold clsK; rw [if_pos hn]
        go_wp2
        go_ret2
        exact ⟨rfl, rfl⟩
      · go_wp2
        go_round
        case rel => exact ⟨1, by omega, rfl, by omega, by omega, by omega⟩
        case measure => simp [intOf]
    · replace g1 := g1 (by omega)
      clear g2 g3 hk
      by_cases hn : n ≤ 2
      · obtain rfl : m = 1 := by rw [HM.out]; unfold clsK; rw [if_neg (by omega), if_pos hn]
        go_wp2
        go_ret2
        exact ⟨rfl, rfl⟩
      · go_wp2
        go_round
        case rel => exact ⟨2, by omega, rfl, by omega, by omega, by omega⟩
        case measure => simp [intOf]
    · replace g1 := g1 (by omega)
      replace g2 := g2 (by omega)
      clear g3 hk
      obtain rfl : m = 2 := by rw [HM.out]; unfold clsK; rw [if_neg (by omega), if_neg (by omega)]
      go_wp2
      go_ret2
      exact ⟨rfl, rfl⟩

section
variable {B : Nat} {X : ArB} {s s' : ArS} {wb wr w' : World}
/-- What a step of a call on an arena leaves. -/
def Step1 (B : Nat) (X : ArB) (s' : ArS) (wb wr w' : World) : Prop := ∃ lo', ArIn B (X.with lo') s' wb w' ∧ ArStep X wr (X.with lo') w'
theorem Step1.ask (h : ArIn B X s wb wr) (hB : Below wr.heap.size wr w') : Step1 B X s wb wr w' := ⟨X.lo, h.ask hB, ArStep.ofBelow X hB h.at_.lt⟩
theorem Step1.same (h : ArIn B X s wb wr) : Step1 B X s wb wr wr := Step1.ask h (Below.refl _ _)
theorem Step1.trans {s1 s2 : ArS} {w1 w2 : World} {lo1 lo2 : Option Nat} (k : ArStep X wr (X.with lo1) w1) (h : ArIn B (X.with lo2) s2 wb w2) (h2 : ArStep (X.with lo1) w1 (X.with lo2) w2) : Step1 B X s2 wb wr w2 := ⟨lo2, h, k.trans h2⟩
theorem Step1.behind {s1 : ArS} {w1 w2 : World} {lo1 : Option Nat} (k : ArStep X wr (X.with lo1) w1) (h : ArIn B (X.with lo1) s1 wb w1) (hB : Below w1.heap.size w1 w2) : Step1 B X s1 wb wr w2 :=
  ⟨lo1, h.ask hB, k.trans (ArStep.ofBelow (X.with lo1) hB h.at_.lt)⟩

theorem ArIn.set (h : ArIn B X s wb wr) (r i x : Int) : Calls Tryz.prog 44 #[.pointer (some ⟨X.a, 0, none⟩), .int .i64 r, .int .i64 i, .int .i64 x] wr fun e w' =>
    e = .returned (.bool (hasWd s r i)) ∧ Step1 B X (s.setW r i x) wb wr w' := (set_any h.at_ h.tabAt r i x).mono fun _ _ hP => h.post hP
theorem ArIn.word (h : ArIn B X s wb wr) (r i v : Int) (hv : wordI s r i = v) : Calls Tryz.prog 45 #[.pointer (some ⟨X.a, 0, none⟩), .int .i64 r, .int .i64 i] wr fun e w' =>
    e = .returned (.int .i64 v) ∧ Below wr.heap.size wr w' := hv ▸ word_any h.at_ h.tabAt r i

set_option maxRecDepth 100000 in
set_option maxHeartbeats 2000000 in
theorem ceNew (h : ArIn B X s wb wr) (k : Int) : Calls Tryz.prog 25 #[.pointer (some ⟨X.a, 0, none⟩), .int .i64 k] wr fun e w' =>
    e = .returned (.tuple #[.int .i64 ((newR s k : Nat) : Int), .int .i64 (newE s k)]) ∧ Step1 B X (s.newS k) wb wr w' := by
  by_cases h1 : k < 0
  · have e1 : newR s k = 0 := by unfold newR; rw [if_pos (.inl h1)]
    have e2 : newE s k = 6 := by unfold newE; rw [if_pos h1]
    have e3 : s.newS k = s := by unfold ArS.newS; rw [if_pos (.inl h1)]
    rw [e1, e2, e3]
    clear e1 e2 e3
    go_enter Tryz.func25, Tryz.ntmps25
    go_wp2_with fail
    go_ret2
    exact ⟨rfl, Step1.same h⟩
  · by_cases h6 : 6 < k
    · have e1 : newR s k = 0 := by unfold newR; rw [if_pos (.inr h6)]
      have e2 : newE s k = 7 := by unfold newE; rw [if_neg h1, if_pos h6]
      have e3 : s.newS k = s := by unfold ArS.newS; rw [if_pos (.inr h6)]
      rw [e1, e2, e3]
      have cC := clsN_no k wr (.inr h6)
      clear e1 e2 e3 h6
      go_enter Tryz.func25, Tryz.ntmps25
      go_wp2_with fail
      refine cC.mono ?_
      rintro e w' ⟨rfl, rfl⟩
      clear cC
      go_wp2_with fail
      go_ret2
      exact ⟨rfl, Step1.same h⟩
    · obtain ⟨c, hc⟩ : ∃ c, clsK k = c := ⟨_, rfl⟩
      have cC := clsN_yes k c wr h.tabAt (by omega) (by omega) hc
      have cT := h.take c
      have HN := Lib.hid (newE_mid (s := s) (k := k) (by omega) (by omega))
      have HR : Hid (newR s k = seekF s c) := Lib.hid (by unfold newR; rw [if_neg (by omega), hc])
      have HS : Hid (s.newS k = (s.take c).setW ((seekF s c : Nat) : Int) 0 k) := Lib.hid (by unfold ArS.newS; rw [if_neg (by omega), hc])
      have HC := Lib.hid hc
      clear hc
      by_cases h0 : seekF s c = 0
      · have e2 : newE s k = 10 := by rw [HN.out, if_pos (by rw [HC.out]; exact h0)]
        have e3 : s.newS k = s := (newE_not h.at_.fits (by rw [e2]; decide)).2
        rw [HR.out, e2, e3]
        rw [h0, take_none h0] at cT
        have hd : decide ((0 : Nat) ≠ 0) = false := rfl
        rw [hd] at cT
        rw [h0]
        clear e2 e3 h0 hd
        go_enter Tryz.func25, Tryz.ntmps25
        go_wp2_with fail
        refine cC.mono ?_
        rintro e w' ⟨rfl, rfl⟩
        clear cC
        go_wp2_with fail
        refine cT.mono ?_
        rintro e w1 ⟨rfl, lo1, h1, k1⟩
        clear cT
        go_wp2_with fail
        go_ret2
        exact ⟨rfl, lo1, h1, k1⟩
      · have e2 : newE s k = 0 := by rw [HN.out, if_neg (by rw [HC.out]; exact h0)]
        rw [HR.out, e2, HS.out]
        rw [decide_eq_true h0] at cT
        clear e2 h0
        generalize seekF s c = x at *
        go_enter Tryz.func25, Tryz.ntmps25
        go_wp2_with fail
        refine cC.mono ?_
        rintro e w' ⟨rfl, rfl⟩
        clear cC
        go_wp2_with fail
        refine cT.mono ?_
        rintro e w1 ⟨rfl, lo1, h1, k1⟩
        clear cT
        have cS := h1.set (x : Int) 0 k
        go_wp2_with fail
        refine cS.mono ?_
        rintro e w2 ⟨rfl, lo2, h2, k2⟩
        clear cS
        go_wp2_with fail
        go_ret2
        exact ⟨rfl, Step1.trans (s1 := s) k1 h2 k2⟩

theorem ceFields0 (h : ArAt wr X s) (hT : TableAt wr) (r v : Int) (hv : wordI s r 0 = v) : Calls Tryz.prog 26 #[.pointer (some ⟨X.a, 0, none⟩), .int .i64 r] wr fun e w' =>
    e = .returned (.int .i64 v) ∧ Below wr.heap.size wr w' := by
  have cW : Calls Tryz.prog 45 #[.pointer (some ⟨X.a, 0, none⟩), .int .i64 r, .int .i64 0] wr fun e w' => e = .returned (.int .i64 v) ∧ Below wr.heap.size wr w' := hv ▸ word_any h hT r 0
  clear hv
  go_enter Tryz.func26, Tryz.ntmps26
  go_wp2_with fail
  refine cW.mono ?_
  rintro e w' ⟨rfl, hB⟩
  clear cW
  go_wp2_with fail
  go_ret
  exact ⟨rfl, hB⟩

set_option maxHeartbeats 1000000 in
theorem ceCheck0 (h : ArAt wr X s) (hT : TableAt wr) (r i : Int) : Calls Tryz.prog 46 #[.pointer (some ⟨X.a, 0, none⟩), .int .i64 r, .int .i64 i] wr fun e w' =>
    e = .returned (.int .i64 (fldE s r i)) ∧ Below wr.heap.size wr w' := by
  by_cases h0 : r = 0
  · have e1 : fldE s r i = 8 := by unfold fldE; rw [if_pos h0]
    rw [e1]
    subst h0
    clear e1
    go_enter Tryz.func46, Tryz.ntmps46
    go_wp2_with fail
    go_ret
    exact ⟨rfl, Below.refl _ _⟩
  · by_cases h1 : i < 0
    · have e1 : fldE s r i = 6 := by unfold fldE; rw [if_neg h0, if_pos (.inl h1)]
      rw [e1]
      clear e1
      go_enter Tryz.func46, Tryz.ntmps46
      go_wp2_with fail
      go_ret
      exact ⟨rfl, Below.refl _ _⟩
    · obtain ⟨n, hn⟩ : ∃ n, wordI s r 0 = n := ⟨_, rfl⟩
      have cF := ceFields0 h hT r n hn
      by_cases h2 : n ≤ i
      · have e1 : fldE s r i = 6 := by unfold fldE; rw [if_neg h0, if_pos (.inr (by rw [hn]; exact h2))]
        rw [e1]
        clear e1 hn
        go_enter Tryz.func46, Tryz.ntmps46
        go_wp2_with fail
        refine cF.mono ?_
        rintro e w1 ⟨rfl, hB⟩
        clear cF
        go_wp2_with fail
        go_ret
        exact ⟨rfl, hB⟩
      · have e1 : fldE s r i = 0 := by unfold fldE; rw [if_neg h0, if_neg (by rw [hn]; omega)]
        rw [e1]
        clear e1 hn
        go_enter Tryz.func46, Tryz.ntmps46
        go_wp2_with fail
        refine cF.mono ?_
        rintro e w1 ⟨rfl, hB⟩
        clear cF
        go_wp2_with fail
        go_ret
        exact ⟨rfl, hB⟩

theorem fldE_zero {r i : Int} (h : fldE s r i = 0) : r ≠ 0 ∧ 0 ≤ i ∧ i < wordI s r 0 := by
  unfold fldE at h
  by_cases h0 : r = 0
  · rw [if_pos h0] at h; omega
  · by_cases h1 : i < 0 ∨ wordI s r 0 ≤ i
    · rw [if_neg h0, if_pos h1] at h; omega
    · exact ⟨h0, by omega, by omega⟩

set_option maxHeartbeats 1000000 in
/-- Field, of an object with no more fields than may be. -/
theorem ceField0 (h : ArAt wr X s) (hT : TableAt wr) (r i : Int) (hk : wordI s r 0 ≤ 6) : Calls Tryz.prog 48 #[.pointer (some ⟨X.a, 0, none⟩), .int .i64 r, .int .i64 i] wr fun e w' =>
    e = .returned (.tuple #[.int .i64 (fldV s r i), .int .i64 (fldE s r i)]) ∧ Below wr.heap.size wr w' := by
  have cC := ceCheck0 h hT r i
  by_cases h0 : fldE s r i = 0
  · have e1 : fldV s r i = wordI s r (2 + i) := by unfold fldV; rw [if_pos h0]
    obtain ⟨_, i0, i1⟩ := fldE_zero h0
    rw [e1]
    rw [h0] at cC ⊢
    have HW := Lib.hid (rfl : wordI s r (2 + i) = wordI s r (2 + i))
    have i6 : i < 6 := by omega
    clear e1 h0 hk i1
    generalize hv : wordI s r (2 + i) = v at *
    have HV := Lib.hid hv
    clear hv HW
    go_enter Tryz.func48, Tryz.ntmps48
    go_wp2_with fail
    refine cC.mono ?_
    rintro e w1 ⟨rfl, hB⟩
    clear cC
    have cW : Calls Tryz.prog 45 #[.pointer (some ⟨X.a, 0, none⟩), .int .i64 r, .int .i64 (2 + i)] w1 fun e w' => e = .returned (.int .i64 v) ∧ Below w1.heap.size w1 w' := HV.out ▸ word_any (h.below hB) (hT.below hB) r (2 + i)
    go_wp2_with fail
    refine cW.mono ?_
    rintro e w2 ⟨rfl, hB2⟩
    clear cW
    go_wp2_with fail
    go_ret2
    exact ⟨rfl, hB.trans (hB2.mono hB.size)⟩
  · have e1 : fldV s r i = 0 := by unfold fldV; rw [if_neg h0]
    rw [e1]
    clear e1 hk
    generalize fldE s r i = n at *
    go_enter Tryz.func48, Tryz.ntmps48
    go_wp2_with fail
    refine cC.mono ?_
    rintro e w1 ⟨rfl, hB⟩
    clear cC
    go_wp2_with fail
    go_ret2
    exact ⟨rfl, hB⟩

theorem ceFields (h : ArIn B X s wb wr) (r v : Int) (hv : wordI s r 0 = v) : Calls Tryz.prog 26 #[.pointer (some ⟨X.a, 0, none⟩), .int .i64 r] wr fun e w' =>
    e = .returned (.int .i64 v) ∧ Below wr.heap.size wr w' := ceFields0 h.at_ h.tabAt r v hv
theorem ceCheck (h : ArIn B X s wb wr) (r i : Int) : Calls Tryz.prog 46 #[.pointer (some ⟨X.a, 0, none⟩), .int .i64 r, .int .i64 i] wr fun e w' =>
    e = .returned (.int .i64 (fldE s r i)) ∧ Below wr.heap.size wr w' := ceCheck0 h.at_ h.tabAt r i
theorem ceField (h : ArIn B X s wb wr) (r i : Int) (hk : wordI s r 0 ≤ 6) : Calls Tryz.prog 48 #[.pointer (some ⟨X.a, 0, none⟩), .int .i64 r, .int .i64 i] wr fun e w' =>
    e = .returned (.tuple #[.int .i64 (fldV s r i), .int .i64 (fldE s r i)]) ∧ Below wr.heap.size wr w' := ceField0 h.at_ h.tabAt r i hk

set_option maxHeartbeats 1000000 in
theorem ceSetField (h : ArIn B X s wb wr) (r i x : Int) (hk : wordI s r 0 ≤ 6) : Calls Tryz.prog 27 #[.pointer (some ⟨X.a, 0, none⟩), .int .i64 r, .int .i64 i, .int .i64 x] wr fun e w' =>
    e = .returned (.int .i64 (fldE s r i)) ∧ Step1 B X (s.setFS r i x) wb wr w' := by
  have cC := ceCheck h r i
  by_cases h0 : fldE s r i = 0
  · have e1 : s.setFS r i x = s.setW r (2 + i) x := by unfold ArS.setFS; rw [if_pos h0]
    obtain ⟨_, i0, i1⟩ := fldE_zero h0
    rw [e1]
    rw [h0] at cC ⊢
    have i6 : i < 6 := by omega
    clear e1 h0 hk i1
    go_enter Tryz.func27, Tryz.ntmps27
    go_wp2_with fail
    refine cC.mono ?_
    rintro e w1 ⟨rfl, hB⟩
    clear cC
    have cS := (h.ask hB).set r (2 + i) x
    go_wp2_with fail
    refine cS.mono ?_
    rintro e w2 ⟨rfl, lo2, h2, k2⟩
    clear cS
    go_wp2_with fail
    go_ret
    exact ⟨rfl, lo2, h2, (ArStep.ofBelow X hB h.at_.lt).trans k2⟩
  · have e1 : s.setFS r i x = s := by unfold ArS.setFS; rw [if_neg h0]
    rw [e1]
    clear e1 hk
    generalize fldE s r i = n at *
    go_enter Tryz.func27, Tryz.ntmps27
    go_wp2_with fail
    refine cC.mono ?_
    rintro e w1 ⟨rfl, hB⟩
    clear cC
    go_wp2_with fail
    go_ret
    exact ⟨rfl, Step1.ask h hB⟩

end
end Go.Proofs.YtkjpeacnponcfaaGreatDoor
