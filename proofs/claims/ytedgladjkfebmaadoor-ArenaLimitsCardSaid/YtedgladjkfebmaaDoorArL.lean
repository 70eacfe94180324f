/- ArenaLimits, walked, at this seat's numbers. -/
import Derived.Test.YtedgladjkfebmaaDoorArK
namespace Go.Proofs.YtedgladjkfebmaaDoor
open Go Go.RowKit Go.Shelf Go.MuLone Go.RwLone
set_option linter.unusedSimpArgs false
set_option linter.unusedVariables false

/-- Between two takes. -/
def LimRel (B : Nat) (X : ArB) (wb : World) (c : Int) (W C P : Nat) (v8 : Value) (wr : World) : Prop :=
  ∃ (k : Nat) (s : ArS) (lo : Option Nat), v8 = .int .i64 (k : Int) ∧ k ≤ P * C ∧ s.P = P ∧ Filled c W C k s ∧ ArIn B (X.with lo) s wb wr
theorem natne_false : decide ((0 : Nat) ≠ 0) = false := rfl
theorem seek_bad3 (s : ArS) : seekF s 3 = 0 := seekF_bad rfl
theorem seek_badm (s : ArS) : seekF s (-1) = 0 := seekF_bad rfl

set_option maxRecDepth 100000 in
set_option maxHeartbeats 8000000 in
theorem limits_true (n cl : Int) (w : World) (hT : TableAt w) : Calls Tryd.prog 7 #[.int .i64 n, .int .i64 cl] w fun e w' => e = .returned (.bool true) ∧ Below w.heap.size w w' := by
  have hg := hT.lt
  obtain ⟨r, hr, he⟩ := i64_and_mask cl 255 (by decide)
  replace he : bits .and .i64 cl 255 = (r : Int) := he
  obtain ⟨P, hP⟩ : ∃ P : Nat, (P : Int) = min (max n 0) 64 := ⟨(min (max n 0) 64).toNat, by omega⟩
  have HP := Lib.hid hP
  have hP64 : P ≤ 64 := by omega
  obtain ⟨m0, hm0⟩ : ∃ m0 : Int, (if n < 0 then 0 else n) = m0 := ⟨_, rfl⟩
  have hq : (if 64 < m0 then 64 else m0) = (P : Int) := by rw [← hm0]; split <;> split <;> omega
  have hP0 : (0 : Int) ≤ P := by omega
  have hP1 : (P : Int) ≤ 64 := by omega
  have hf := fit_true w hT
  obtain ⟨c, hc⟩ : ∃ c : Int, (r : Int) % 3 = c := ⟨_, rfl⟩
  have hc3 : c = 0 ∨ c = 1 ∨ c = 2 := by omega
  clear hP
  rcases hc3 with rfl | rfl | rfl
  · have hWC : WC 0 2 16 := ⟨rfl, rfl, by omega⟩
    go_enter Tryd.func7, Tryd.ntmps7
    go_wp2_with fail
    refine hf.mono ?_
    rintro e w1 ⟨rfl, hB⟩
    go_wp2_with fail
    clear hm0 hq
    refine (new_in n P HP.out w.heap.size w _ hB (Nat.le_refl _) hT hg).mono ?_
    rintro e w2 ⟨X, rfl, h2, _, _⟩
    have cP : Calls Tryd.prog 25 #[.pointer (some ⟨X.a, 0, none⟩)] w2 fun e w' => e = .returned (.int .i64 (P : Int)) ∧ w2 = w' := pages_any h2.at_.toArMem
    have cF : Calls Tryd.prog 20 #[.pointer (some ⟨X.a, 0, none⟩)] w2 fun e w' => e = .returned (.int .i64 (P : Int)) ∧ w2 = w' := by have := h2.free; rwa [show (ArS.new P).P = P from rfl, freeTo_new] at this
    have cS : Calls Tryd.prog 26 #[.pointer (some ⟨X.a, 0, none⟩)] w2 fun e w' => e = .returned (.int .i64 (32 * (P : Int) + 1)) ∧ w2 = w' := by have := size_any h2.at_.toArMem; rwa [show ((32 * (ArS.new P).P + 1 : Nat) : Int) = 32 * (P : Int) + 1 by show ((32 * P + 1 : Nat) : Int) = _; omega] at this
    go_wp2_with fail
    refine cP.mono ?_
    rintro e w' ⟨rfl, rfl⟩
    go_wp2_with fail
    refine cF.mono ?_
    rintro e w' ⟨rfl, rfl⟩
    go_wp2_with fail
    refine cS.mono ?_
    rintro e w' ⟨rfl, rfl⟩
    go_wp2_with fail
    rw [hc]
    clear cP cF cS hf he hr hB hc
    go_loopw [8] (fun v8 wr => LimRel w.heap.size X w 0 2 16 P v8 wr) (fun v8 _ => P * 16 - (intOf v8).toNat)
    case atStart => exact ⟨0, .new P, X.lo, rfl, Nat.zero_le _, rfl, filled_new _ _ _ _, h2⟩
    case round =>
      clear h2
      obtain ⟨k, s, lo, rfl, hk, hsP, hfill, hIn⟩ := hrel
      have HSP := Lib.hid hsP
      clear hsP
      have cT := hIn.take 0
      by_cases hlt : k < P * 16
      · have hF2 := filled_take hWC hfill (by rw [HSP.out]; exact hlt)
        have hr0 : seekF s 0 ≠ 0 := by rw [filled_seek hWC hfill (by rw [HSP.out]; exact hlt)]; omega
        have hr1 : seekF s 0 ≤ 32 * P := by have := (seekF_is hIn.at_.fits hr0).2.2.1; rw [HSP.out] at this; exact this
        rw [decide_eq_true hr0] at cT
        generalize seekF s 0 = q at *
        clear hr0
        go_wp2_with fail
        refine cT.mono ?_
        rintro e w3 ⟨rfl, lo3, hIn3, _⟩
        have cS : Calls Tryd.prog 26 #[.pointer (some ⟨X.a, 0, none⟩)] w3 fun e w' => e = .returned (.int .i64 (32 * (P : Int) + 1)) ∧ w3 = w' := by have := size_any hIn3.at_.toArMem; rw [take_P, HSP.out] at this; rwa [show ((32 * P + 1 : Nat) : Int) = 32 * (P : Int) + 1 by omega] at this
        have hq1 : (q : Int) < 32 * (P : Int) + 1 := by omega
        clear cT hIn
        go_wp2_with fail
        refine cS.mono ?_
        rintro e w' ⟨rfl, rfl⟩
        clear cS
        go_wp2_with fail
        go_roundw
        case rel => exact ⟨k + 1, s.take 0, lo3, by go_num, by omega, by rw [take_P, HSP.out], hF2, hIn3⟩
        case measure => simp [intOf]; omega
      · obtain rfl : k = P * 16 := by omega
        obtain ⟨hend, hall⟩ := filled_end (s := s) hWC (by rw [HSP.out]; exact hfill)
        rw [hend, natne_false] at cT
        have hst := take_none hend
        go_wp2_with fail
        refine cT.mono ?_
        rintro e w3 ⟨rfl, lo3, hIn3, _⟩
        rw [hst] at hIn3
        clear cT hIn hst
        go_wp2_with fail
        have c3 := hIn3.take 3
        rw [seek_bad3, natne_false] at c3
        refine c3.mono ?_
        rintro e w4 ⟨rfl, lo4, hIn4, _⟩
        rw [take_none (seek_bad3 s)] at hIn4
        clear c3 hIn3
        have cF := hIn4.free
        rw [freeTo_none (fun p hp => by rw [hall p hp]; decide)] at cF
        go_wp2_with fail
        refine cF.mono ?_
        rintro e w' ⟨rfl, rfl⟩
        clear cF hall
        have cR := hIn4.room 0
        rw [hend] at cR
        go_wp2_with fail
        refine cR.mono ?_
        rintro e w5 ⟨rfl, hB5⟩
        have hIn5 := hIn4.ask hB5
        clear cR hIn4 hB5
        have cR := hIn5.room (-1)
        rw [seek_badm] at cR
        go_wp2_with fail
        refine cR.mono ?_
        rintro e w6 ⟨rfl, hB6⟩
        have hIn6 := hIn5.ask hB6
        clear cR hIn5 hB6 hend
        go_wp2_with fail
        go_ret
        exact ⟨rfl, hIn6.below⟩
  · have hWC : WC 1 4 8 := ⟨rfl, rfl, by omega⟩
    go_enter Tryd.func7, Tryd.ntmps7
    go_wp2_with fail
    refine hf.mono ?_
    rintro e w1 ⟨rfl, hB⟩
    go_wp2_with fail
    clear hm0 hq
    refine (new_in n P HP.out w.heap.size w _ hB (Nat.le_refl _) hT hg).mono ?_
    rintro e w2 ⟨X, rfl, h2, _, _⟩
    have cP : Calls Tryd.prog 25 #[.pointer (some ⟨X.a, 0, none⟩)] w2 fun e w' => e = .returned (.int .i64 (P : Int)) ∧ w2 = w' := pages_any h2.at_.toArMem
    have cF : Calls Tryd.prog 20 #[.pointer (some ⟨X.a, 0, none⟩)] w2 fun e w' => e = .returned (.int .i64 (P : Int)) ∧ w2 = w' := by have := h2.free; rwa [show (ArS.new P).P = P from rfl, freeTo_new] at this
    have cS : Calls Tryd.prog 26 #[.pointer (some ⟨X.a, 0, none⟩)] w2 fun e w' => e = .returned (.int .i64 (32 * (P : Int) + 1)) ∧ w2 = w' := by have := size_any h2.at_.toArMem; rwa [show ((32 * (ArS.new P).P + 1 : Nat) : Int) = 32 * (P : Int) + 1 by show ((32 * P + 1 : Nat) : Int) = _; omega] at this
    go_wp2_with fail
    refine cP.mono ?_
    rintro e w' ⟨rfl, rfl⟩
    go_wp2_with fail
    refine cF.mono ?_
    rintro e w' ⟨rfl, rfl⟩
    go_wp2_with fail
    refine cS.mono ?_
    rintro e w' ⟨rfl, rfl⟩
    go_wp2_with fail
    rw [hc]
    clear cP cF cS hf he hr hB hc
    go_loopw [8] (fun v8 wr => LimRel w.heap.size X w 1 4 8 P v8 wr) (fun v8 _ => P * 8 - (intOf v8).toNat)
    case atStart => exact ⟨0, .new P, X.lo, rfl, Nat.zero_le _, rfl, filled_new _ _ _ _, h2⟩
    case round =>
      clear h2
      obtain ⟨k, s, lo, rfl, hk, hsP, hfill, hIn⟩ := hrel
      have HSP := Lib.hid hsP
      clear hsP
      have cT := hIn.take 1
      by_cases hlt : k < P * 8
      · have hF2 := filled_take hWC hfill (by rw [HSP.out]; exact hlt)
        have hr0 : seekF s 1 ≠ 0 := by rw [filled_seek hWC hfill (by rw [HSP.out]; exact hlt)]; omega
        have hr1 : seekF s 1 ≤ 32 * P := by have := (seekF_is hIn.at_.fits hr0).2.2.1; rw [HSP.out] at this; exact this
        rw [decide_eq_true hr0] at cT
        generalize seekF s 1 = q at *
        clear hr0
        go_wp2_with fail
        refine cT.mono ?_
        rintro e w3 ⟨rfl, lo3, hIn3, _⟩
        have cS : Calls Tryd.prog 26 #[.pointer (some ⟨X.a, 0, none⟩)] w3 fun e w' => e = .returned (.int .i64 (32 * (P : Int) + 1)) ∧ w3 = w' := by have := size_any hIn3.at_.toArMem; rw [take_P, HSP.out] at this; rwa [show ((32 * P + 1 : Nat) : Int) = 32 * (P : Int) + 1 by omega] at this
        have hq1 : (q : Int) < 32 * (P : Int) + 1 := by omega
        clear cT hIn
        go_wp2_with fail
        refine cS.mono ?_
        rintro e w' ⟨rfl, rfl⟩
        clear cS
        go_wp2_with fail
        go_roundw
        case rel => exact ⟨k + 1, s.take 1, lo3, by go_num, by omega, by rw [take_P, HSP.out], hF2, hIn3⟩
        case measure => simp [intOf]; omega
      · obtain rfl : k = P * 8 := by omega
        obtain ⟨hend, hall⟩ := filled_end (s := s) hWC (by rw [HSP.out]; exact hfill)
        rw [hend, natne_false] at cT
        have hst := take_none hend
        go_wp2_with fail
        refine cT.mono ?_
        rintro e w3 ⟨rfl, lo3, hIn3, _⟩
        rw [hst] at hIn3
        clear cT hIn hst
        go_wp2_with fail
        have c3 := hIn3.take 3
        rw [seek_bad3, natne_false] at c3
        refine c3.mono ?_
        rintro e w4 ⟨rfl, lo4, hIn4, _⟩
        rw [take_none (seek_bad3 s)] at hIn4
        clear c3 hIn3
        have cF := hIn4.free
        rw [freeTo_none (fun p hp => by rw [hall p hp]; decide)] at cF
        go_wp2_with fail
        refine cF.mono ?_
        rintro e w' ⟨rfl, rfl⟩
        clear cF hall
        have cR := hIn4.room 1
        rw [hend] at cR
        go_wp2_with fail
        refine cR.mono ?_
        rintro e w5 ⟨rfl, hB5⟩
        have hIn5 := hIn4.ask hB5
        clear cR hIn4 hB5
        have cR := hIn5.room (-1)
        rw [seek_badm] at cR
        go_wp2_with fail
        refine cR.mono ?_
        rintro e w6 ⟨rfl, hB6⟩
        have hIn6 := hIn5.ask hB6
        clear cR hIn5 hB6 hend
        go_wp2_with fail
        go_ret
        exact ⟨rfl, hIn6.below⟩
  · have hWC : WC 2 8 4 := ⟨rfl, rfl, by omega⟩
    go_enter Tryd.func7, Tryd.ntmps7
    go_wp2_with fail
    refine hf.mono ?_
    rintro e w1 ⟨rfl, hB⟩
    go_wp2_with fail
    clear hm0 hq
    refine (new_in n P HP.out w.heap.size w _ hB (Nat.le_refl _) hT hg).mono ?_
    rintro e w2 ⟨X, rfl, h2, _, _⟩
    have cP : Calls Tryd.prog 25 #[.pointer (some ⟨X.a, 0, none⟩)] w2 fun e w' => e = .returned (.int .i64 (P : Int)) ∧ w2 = w' := pages_any h2.at_.toArMem
    have cF : Calls Tryd.prog 20 #[.pointer (some ⟨X.a, 0, none⟩)] w2 fun e w' => e = .returned (.int .i64 (P : Int)) ∧ w2 = w' := by have := h2.free; rwa [show (ArS.new P).P = P from rfl, freeTo_new] at this
    have cS : Calls Tryd.prog 26 #[.pointer (some ⟨X.a, 0, none⟩)] w2 fun e w' => e = .returned (.int .i64 (32 * (P : Int) + 1)) ∧ w2 = w' := by have := size_any h2.at_.toArMem; rwa [show ((32 * (ArS.new P).P + 1 : Nat) : Int) = 32 * (P : Int) + 1 by show ((32 * P + 1 : Nat) : Int) = _; omega] at this
    go_wp2_with fail
    refine cP.mono ?_
    rintro e w' ⟨rfl, rfl⟩
    go_wp2_with fail
    refine cF.mono ?_
    rintro e w' ⟨rfl, rfl⟩
    go_wp2_with fail
    refine cS.mono ?_
    rintro e w' ⟨rfl, rfl⟩
    go_wp2_with fail
    rw [hc]
    clear cP cF cS hf he hr hB hc
    go_loopw [8] (fun v8 wr => LimRel w.heap.size X w 2 8 4 P v8 wr) (fun v8 _ => P * 4 - (intOf v8).toNat)
    case atStart => exact ⟨0, .new P, X.lo, rfl, Nat.zero_le _, rfl, filled_new _ _ _ _, h2⟩
    case round =>
      clear h2
      obtain ⟨k, s, lo, rfl, hk, hsP, hfill, hIn⟩ := hrel
      have HSP := Lib.hid hsP
      clear hsP
      have cT := hIn.take 2
      by_cases hlt : k < P * 4
      · have hF2 := filled_take hWC hfill (by rw [HSP.out]; exact hlt)
        have hr0 : seekF s 2 ≠ 0 := by rw [filled_seek hWC hfill (by rw [HSP.out]; exact hlt)]; omega
        have hr1 : seekF s 2 ≤ 32 * P := by have := (seekF_is hIn.at_.fits hr0).2.2.1; rw [HSP.out] at this; exact this
        rw [decide_eq_true hr0] at cT
        generalize seekF s 2 = q at *
        clear hr0
        go_wp2_with fail
        refine cT.mono ?_
        rintro e w3 ⟨rfl, lo3, hIn3, _⟩
        have cS : Calls Tryd.prog 26 #[.pointer (some ⟨X.a, 0, none⟩)] w3 fun e w' => e = .returned (.int .i64 (32 * (P : Int) + 1)) ∧ w3 = w' := by have := size_any hIn3.at_.toArMem; rw [take_P, HSP.out] at this; rwa [show ((32 * P + 1 : Nat) : Int) = 32 * (P : Int) + 1 by omega] at this
        have hq1 : (q : Int) < 32 * (P : Int) + 1 := by omega
        clear cT hIn
        go_wp2_with fail
        refine cS.mono ?_
        rintro e w' ⟨rfl, rfl⟩
        clear cS
        go_wp2_with fail
        go_roundw
        case rel => exact ⟨k + 1, s.take 2, lo3, by go_num, by omega, by rw [take_P, HSP.out], hF2, hIn3⟩
        case measure => simp [intOf]; omega
      · obtain rfl : k = P * 4 := by omega
        obtain ⟨hend, hall⟩ := filled_end (s := s) hWC (by rw [HSP.out]; exact hfill)
        rw [hend, natne_false] at cT
        have hst := take_none hend
        go_wp2_with fail
        refine cT.mono ?_
        rintro e w3 ⟨rfl, lo3, hIn3, _⟩
        rw [hst] at hIn3
        clear cT hIn hst
        go_wp2_with fail
        have c3 := hIn3.take 3
        rw [seek_bad3, natne_false] at c3
        refine c3.mono ?_
        rintro e w4 ⟨rfl, lo4, hIn4, _⟩
        rw [take_none (seek_bad3 s)] at hIn4
        clear c3 hIn3
        have cF := hIn4.free
        rw [freeTo_none (fun p hp => by rw [hall p hp]; decide)] at cF
        go_wp2_with fail
        refine cF.mono ?_
        rintro e w' ⟨rfl, rfl⟩
        clear cF hall
        have cR := hIn4.room 2
        rw [hend] at cR
        go_wp2_with fail
        refine cR.mono ?_
        rintro e w5 ⟨rfl, hB5⟩
        have hIn5 := hIn4.ask hB5
        clear cR hIn4 hB5
        have cR := hIn5.room (-1)
        rw [seek_badm] at cR
        go_wp2_with fail
        refine cR.mono ?_
        rintro e w6 ⟨rfl, hB6⟩
        have hIn6 := hIn5.ask hB6
        clear cR hIn5 hB6 hend
        go_wp2_with fail
        go_ret
        exact ⟨rfl, hIn6.below⟩
end Go.Proofs.YtedgladjkfebmaaDoor
