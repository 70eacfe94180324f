/- PhaseQuiet, walked, at this seat's numbers. -/
import Derived.Test.YtacnikibmhlmiaaPhT
import Derived.Test.YtacnikibmhlmiaaPhH
namespace Go.Proofs.Ytacnikibmhlmiaa
open Go Go.RowKit
set_option linter.unusedSimpArgs false
set_option linter.unusedVariables false
attribute [local go_sem] Oper.semAt_some

def QuiA (B p len : Nat) (wb : World) (v27 : Value) (wr : World) : Prop :=
  ∃ (i : Nat) (S : Phs), i ≤ len ∧ v27 = .int .i64 (i : Int) ∧ S.rounds ≤ i ∧ S.now ≤ 4 ∧ PhIn B p S wb wr
def QuiB (B p b : Nat) (S : Phs) (wb : World) (v54 : Value) (wr : World) : Prop :=
  ∃ j : Nat, j ≤ 4 ∧ v54 = .int .i64 (j : Int) ∧ PhLv B p b S (upto S.a j) wb wr
def QuiC (B p b len : Nat) (S : Phs) (wb : World) (v65 : Value) (wr : World) : Prop :=
  ∃ i : Nat, i ≤ len ∧ v65 = .int .i64 (i : Int) ∧ PhLv B p b S (upto S.a 4) wb wr
def QuiD (B p b : Nat) (S : Phs) (wb : World) (v88 : Value) (wr : World) : Prop :=
  ∃ j : Nat, j ≤ 4 ∧ v88 = .int .i64 (j : Int) ∧ PhLv B p b S (upto S.a 4) wb wr

set_option maxRecDepth 100000 in
set_option maxHeartbeats 8000000 in
theorem pquiet_true (a0 : Option Addr) (len cap : Nat) (K N : Nat → Int) (a1 : Option Addr) (ln2 cap2 : Nat) (K2 N2 : Nat → Int) (w : World) (hsum : len + ln2 ≤ 9223372036854775807) (hZ : DuesAt w a0 len K N) (hY : DuesAt w a1 ln2 K2 N2) :
    Calls Try.prog 8 #[.slice a0 len cap, .slice a1 ln2 cap2] w fun e w' => e = .returned (.bool true) ∧ Below w.heap.size w w' := by
  have HZ := Lib.hid hZ
  have HY := Lib.hid hY
  clear hZ hY
  have hf := phfit_true w
  go_enter Try.func8, Try.ntmps8
  go_wp2_with fail
  refine hf.mono ?_
  rintro e w1 ⟨rfl, hB⟩
  clear hf
  by_cases hbig : 150 < (len : Int) + (ln2 : Int)
  · go_wp2_with fail
    go_ret
    exact ⟨rfl, hB⟩
  have hbd : decide (150 < (len : Int) + (ln2 : Int)) = false := by simpa using hbig
  go_wp2_with fail
  refine (phIn_new (B := w.heap.size) (wb := w) (wr := w1) hB (Nat.le_refl _)).mono ?_
  rintro e w2 ⟨p, rfl, h2, _⟩
  have H2 := Lib.hid h2
  have hl150 : len ≤ 150 := by omega
  have hm150 : ln2 ≤ 150 := by omega
  clear hB h2
  go_wp2_with fail
  clear hbd
  go_loopw [7, 27] (fun _ v wr => QuiA w.heap.size p len w v wr) (fun _ v _ => len - (intOf v).toNat)
  case atStart => exact ⟨0, Phs.init, Nat.zero_le _, rfl, Nat.le_refl _, by decide, H2.out⟩
  case round =>
    clear H2
    obtain ⟨i, S, hi, rfl, hSr, hS4, h1⟩ := hrel
    have hi0 : (0 : Int) ≤ (i : Int) := by omega
    by_cases hlt : i < len
    · have hi1 : (i : Int) < (len : Int) := by omega
      obtain ⟨bk, off, rfl, hbk, hq0, hq1, hw0, hw1⟩ := HZ.out i hlt
      have hc0 := (h1.below.cell (p := ⟨bk, off + i * 2, none⟩) hbk).trans hq0
      have hc1 := (h1.below.cell (p := ⟨bk, off + i * 2 + 1, none⟩) hbk).trans hq1
      generalize K i = kd at *
      generalize N i = td at *
      obtain ⟨kind, t, hk7, ht4, hke, hte, hk0, hk9⟩ := due_of (n := td) hw0
      have hke2 : kd % 7 = (kind : Int) := by rw [Int.tmod_eq_emod_of_nonneg hk0] at hke; exact hke
      clear hq0 hq1 hw0 hw1 hbk
      have h2 := h1.alloc (.cells #[.int .u8 kd, .int .u8 td] 31)
      have hbx := Blk.new wr #[.int .u8 kd, .int .u8 td] 31
      have hbx0 := hbx.cell 0
      have hbx1 := hbx.cell 1
      simp only [List.getElem?_toArray, List.getElem?_cons_zero, List.getElem?_cons_succ] at hbx0 hbx1
      have hkI : (kind : Int) < 7 := by omega
      have htI : (t : Int) < 4 := by omega
      have htI0 : (0 : Int) ≤ (t : Int) := by omega
      clear h1 hbx
      have hn := (Phs.doS_now hS4 hk7 t).1
      have hr2 : (S.doS kind t).rounds ≤ i + 1 := by have := Phs.doS_rounds S hk7 t; omega
      have cD := h2.at_.doneC (by omega) hk7 ht4
      generalize S.doB kind t = bq at *
      generalize S.doS kind t = S2 at *
      have CD := Lib.hid cD
      have H2 := Lib.hid (And.intro h2 (And.intro hn hr2))
      clear cD h2 hn hr2 hS4 hSr
      go_wp2_with fail
      refine CD.out.mono ?_
      rintro e w5 ⟨rfl, k, T⟩
      have H3 := Lib.hid (H2.out.1.step k T)
      clear k T CD
      go_wp2_with fail
      go_roundw
      case rel => exact ⟨i + 1, S2, hlt, by go_num, H2.out.2.2, H2.out.2.1, H3.out⟩
      case measure => simp [intOf]; omega
    · obtain rfl : i = len := by omega
      have cN := h1.at_.nowC
      have hbl := h1.below
      have HS := Lib.hid (And.intro hSr hS4)
      clear hlt hi HZ hSr hS4
      go_wp2_with fail
      refine cN.mono ?_
      rintro e w5 ⟨rfl, rfl⟩
      by_cases hq1 : S.now = 1
      · have e1 : ((S.now : Int) == 1) = true := by simp; omega
        clear hq1 cN h1
        go_wp2_with fail
        go_ret
        exact ⟨rfl, hbl⟩
      by_cases hq2 : S.now = 2
      · have e1 : ((S.now : Int) == 1) = false := by simp; omega
        have e2 : ((S.now : Int) == 2) = true := by simp; omega
        clear hq1 hq2 cN h1
        go_wp2_with fail
        go_ret
        exact ⟨rfl, hbl⟩
      have e1 : ((S.now : Int) == 1) = false := by simp; omega
      have e2 : ((S.now : Int) == 2) = false := by simp; omega
      have hq : S.asks = false := Phs.asks_no hq1 hq2
      have HQ := Lib.hid hq
      clear hq hq1 hq2 hbl
      have cR := h1.at_.roundsC
      have hlv : PhLv w.heap.size p wr.heap.size S (upto S.a 0) w (wr.alloc (.cells #[.bool false, .bool false, .bool false, .bool false] 27)) :=
        ⟨h1.alloc _, by rw [upto_zero]; exact Blk.new wr _ _, h1.size, fun e => by have := h1.at_.lt; omega⟩
      have HL := Lib.hid hlv
      clear h1 hlv
      go_wp2_with fail
      refine cN.mono ?_
      rintro e w5 ⟨rfl, rfl⟩
      go_wp2_with fail
      refine cR.mono ?_
      rintro e w5 ⟨rfl, rfl⟩
      clear cN cR
      go_wp2_with fail
      generalize wr.alloc (.cells #[.bool false, .bool false, .bool false, .bool false] 27) = W3 at *
      generalize wr.heap.size = b at *
      go_loopw [12, 54] (fun _ v wr => QuiB w.heap.size p b S w v wr) (fun _ v _ => 4 - (intOf v).toNat)
      case atStart => exact ⟨0, by omega, rfl, HL.out⟩
      case round =>
        clear HL
        obtain ⟨j, hj, rfl, h3⟩ := hrel
        by_cases hj4 : j < 4
        · have d1 : (j : Int) < 4 := by omega
          have d0 : (0 : Int) ≤ (j : Int) := by omega
          have cA := h3.ph.at_.armedC hj4
          have hy := lvCell h3.lv hj4
          have hz := h3.lv.free j
          have H4 := Lib.hid ((h3.set hj4 (S.a j)).is (upto_succ S.a j))
          clear h3
          generalize S.a j = ba at *
          go_wp2_with fail
          refine cA.mono ?_
          rintro e w5 ⟨rfl, rfl⟩
          clear cA
          go_wp2_with fail
          go_roundw
          case rel => exact ⟨j + 1, by omega, by go_num, H4.out⟩
          case measure => simp [intOf]; omega
        · obtain rfl : j = 4 := by omega
          simp only [show ((4 : Nat) : Int) = 4 from rfl]
          have H4 := Lib.hid h3
          clear h3 hj hj4
          go_wp2_with fail
          go_loopw [14, 65] (fun _ v wr => QuiC w.heap.size p b ln2 S w v wr) (fun _ v _ => ln2 - (intOf v).toNat)
          case atStart => exact ⟨0, Nat.zero_le _, rfl, H4.out⟩
          case round =>
            clear H4
            obtain ⟨i2, hi, rfl, h4⟩ := hrel
            have hi0 : (0 : Int) ≤ (i2 : Int) := by omega
            by_cases hlt : i2 < ln2
            · have hi1 : (i2 : Int) < (ln2 : Int) := by omega
              obtain ⟨bk, off, rfl, hbk, hq0, hq1, hw0, hw1⟩ := HY.out i2 hlt
              have hc0 := (h4.ph.below.cell (p := ⟨bk, off + i2 * 2, none⟩) hbk).trans hq0
              have hc1 := (h4.ph.below.cell (p := ⟨bk, off + i2 * 2 + 1, none⟩) hbk).trans hq1
              generalize K2 i2 = kd at *
              generalize N2 i2 = td at *
              obtain ⟨kind, t, hk7, ht4, hke, hte, hk0, hk9⟩ := due_of (n := td) hw0
              clear hq0 hq1 hw0 hw1 hbk hke
              have h5 := h4.alloc (.cells #[.int .u8 kd, .int .u8 td] 31)
              have hbx := Blk.new wr #[.int .u8 kd, .int .u8 td] 31
              have hne : wr.heap.size ≠ p := fun e => by have := h4.ph.at_.lt; omega
              have hbx1 := hbx.cell 1
              simp only [List.getElem?_toArray, List.getElem?_cons_zero, List.getElem?_cons_succ] at hbx1
              have htI : (t : Int) < 4 := by omega
              have htI0 : (0 : Int) ≤ (t : Int) := by omega
              have cW := h5.ph.at_.wantsC ht4
              rw [Phs.wants_no HQ.out] at cW
              have cA := h5.ph.at_.ackC ht4
              rw [Phs.wants_no HQ.out, Phs.quiet_ack HQ.out] at cA
              have CA := Lib.hid cA
              have H5 := Lib.hid h5
              have HX := Lib.hid hbx
              have hr6 : S.rounds ≤ 1000000 := by have := HS.out.1; omega
              clear cA h4 h5 hbx hk7 ht4 hk0 hk9
              go_wp2_with fail
              refine cW.mono ?_
              rintro e w5 ⟨rfl, rfl⟩
              clear cW
              go_wp2_with fail
              refine CA.out.mono ?_
              rintro e w5 ⟨rfl, k, T⟩
              have h6 := H5.out.step k T
              have hb6 := (HX.out.turn T hne).cell 1
              simp only [List.getElem?_toArray, List.getElem?_cons_zero, List.getElem?_cons_succ] at hb6
              have cV := h6.ph.at_.advanceC hr6
              rw [Phs.quiet_advB HQ.out, Phs.quiet_adv HQ.out] at cV
              have CV := Lib.hid cV
              clear k T CA cV H5 HX hbx1
              go_wp2_with fail
              refine CV.out.mono ?_
              rintro e w6 ⟨rfl, k, T⟩
              have H7 := Lib.hid (h6.step k T)
              clear k T CV h6 hb6
              go_wp2_with fail
              go_roundw
              case rel => exact ⟨i2 + 1, hlt, by go_num, H7.out⟩
              case measure => simp [intOf]; omega
            · obtain rfl : i2 = ln2 := by omega
              have H4 := Lib.hid h4
              clear h4 hi hlt HY
              go_wp2_with fail
              go_loopw [15, 88] (fun _ v wr => QuiD w.heap.size p b S w v wr) (fun _ v _ => 4 - (intOf v).toNat)
              case atStart => exact ⟨0, by omega, rfl, H4.out⟩
              case round =>
                clear H4
                obtain ⟨j, hj, rfl, h3⟩ := hrel
                by_cases hj4 : j < 4
                · have d1 : (j : Int) < 4 := by omega
                  have d0 : (0 : Int) ≤ (j : Int) := by omega
                  have h3d := h3.drewN 1
                  have h3e : PhLv w.heap.size p b S (upto S.a 4) w wr.drew := ⟨h3.ph.drew, h3.lv.drew, h3.lo, h3.ne⟩
                  have cA := h3e.ph.at_.armedC hj4
                  have hy := lvCell h3e.lv hj4
                  rw [upto_lt _ hj4] at hy
                  have H3 := Lib.hid h3e
                  clear h3 h3d h3e
                  generalize S.a j = ba at *
                  go_wp2_with fail
                  go_region_held3 (fun W' => W'.cell? ⟨b, j, none⟩ = some (.bool ba)) (exact hy)
                    (first
                      | (go_at_call 15; refine cA.mono ?_; rintro e w7 ⟨rfl, rfl⟩))
                  all_goals
                    clear cA hy
                    go_wp2_with fail
                    go_roundw
                    case rel => exact ⟨j + 1, by omega, by go_num, H3.out⟩
                    case measure => simp [intOf]; omega
                · obtain rfl : j = 4 := by omega
                  have cN := h3.ph.at_.nowC
                  have cR := h3.ph.at_.roundsC
                  have hbl := h3.ph.below
                  clear h3
                  go_wp2_with fail
                  refine cN.mono ?_
                  rintro e w7 ⟨rfl, rfl⟩
                  go_wp2_with fail
                  refine cR.mono ?_
                  rintro e w7 ⟨rfl, rfl⟩
                  go_wp2_with fail
                  go_ret
                  exact ⟨rfl, hbl⟩
end Go.Proofs.Ytacnikibmhlmiaa
