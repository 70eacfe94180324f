/- CardRuns, walked, at this seat's numbers. -/
import Derived.Test.YtfipflghnhfcjaaCdV
import Derived.Test.YtfipflghnhfcjaaArgsI
import Derived.WalkMore
namespace Go.Proofs.Ytfipflghnhfcjaa
open Go Go.RowKit Go.Shelf Go.MuLone Go.RwLone
set_option linter.unusedSimpArgs false
set_option linter.unusedVariables false
attribute [local go_sem] Oper.semAt_some

def CrX (B : Nat) (X : ArB) (ct P len : Nat) (wb : World) (v24 v6 : Value) (wr : World) : Prop :=
  ∃ (i : Nat) (C : CdB) (S : Nat → Bool) (mb cnt : Nat), i ≤ len ∧ v24 = .int .i64 (i : Int) ∧ v6 = .map (some mb) ∧ C.t = ct ∧ cnt ≤ i ∧ Crn B X C P S mb cnt wb wr
def CrZ (B : Nat) (X : ArB) (C : CdB) (P : Nat) (S : Nat → Bool) (mb cnt : Nat) (wb : World) (v10 : Value) (wr : World) : Prop :=
  ∃ p : Int, -1 ≤ p ∧ p ≤ (P : Int) + 1 ∧ v10 = .int .i64 p ∧ Crn B X C P S mb cnt wb wr

set_option maxRecDepth 100000 in
set_option maxHeartbeats 8000000 in
theorem cruns_true (pages : Int) (a0 : Option Addr) (zs : List Int) (cap : Nat) (w : World) (hl0 : zs.length ≤ 9223372036854775807) (hZ : NumsAt w a0 zs) :
    Calls Try.prog 3 #[.int .i64 pages, .slice a0 zs.length cap] w fun e w' => e = .returned (.bool true) ∧ Below w.heap.size w w' := by
  have HZ := Lib.hid hZ
  clear hZ
  have hf := cdfit_true w
  obtain ⟨P, hP, hPe⟩ := i64_and_mask pages 15 (by decide)
  replace hPe : bits .and .i64 pages 15 = (P : Int) := hPe
  have hP0 : (0 : Int) ≤ (P : Int) := by omega
  have hP15 : (P : Int) ≤ 15 := by omega
  clear hP
  go_enter Try.func3, Try.ntmps3
  go_wp2_with fail
  refine hf.mono ?_
  rintro e w1 ⟨rfl, hB⟩
  clear hf
  by_cases hbig : (100 : Int) < (zs.length : Int)
  · go_wp2_with fail
    go_ret
    exact ⟨rfl, hB⟩
  go_wp2_with fail
  refine (ar_new (P : Int) P (by omega) w1).mono ?_
  rintro e w2 ⟨X, rfl, hA, hX, hB2⟩
  have hs1 := hB.size
  go_wp2_with fail
  refine (cdNew (B := w.heap.size) (wb := w) hA (fun k hk => by have := hX k hk; omega) (hB.trans (hB2.mono hs1)) (Nat.le_refl _)).mono ?_
  rintro e w3 ⟨C, rfl, h3, _, _⟩
  have h4 := Crn.start h3
  have hmm := @run_makeMap Try.prog
  clear hA hX hB hB2 hPe h3
  go_wp2_with fail
  generalize w3.alloc (.map #[] 0) = w4 at *
  generalize w3.heap.size = mb at *
  obtain ⟨ct, hct⟩ : ∃ ct, C.t = ct := ⟨_, rfl⟩
  simp only [hct]
  have HC := Lib.hid hct
  clear hct
  go_loopw [24, 6] (fun v24 v6 wr => CrX w.heap.size X ct P zs.length w v24 v6 wr) (fun v24 _ _ => zs.length - (intOf v24).toNat)
  case atStart => exact ⟨0, C, _, mb, 0, Nat.zero_le _, rfl, rfl, HC.out, Nat.le_refl _, h4⟩
  case round =>
    clear h4 HC
    obtain ⟨i, C, S, mb, cnt, hi, rfl, rfl, hct, hcnt, h1⟩ := hrel
    have hi0 : (0 : Int) ≤ (i : Int) := by omega
    by_cases hlt : i < zs.length
    · have hi1 : (i : Int) < (zs.length : Int) := by omega
      obtain ⟨bk, off, rfl, hbk, hc0, hwx⟩ := HZ.out i hlt
      replace hc0 := (h1.c.below.cell (p := ⟨bk, off + i, none⟩) hbk).trans hc0
      generalize zs.getD i 0 = x at *
      obtain ⟨t, ht, hte⟩ := i64_and_mask x 255 (by decide)
      replace hte : bits .and .i64 x 255 = (t : Int) := hte
      clear hwx
      by_cases ht5 : t = 255
      · subst ht5
        have hte2 : bits .and .i64 x 255 = 255 := hte
        have cK := h1.clean
        rw [hct] at cK
        have HCT := Lib.hid hct
        clear hte h1 hct ht
        go_wp2_with fail
        refine cK.mono ?_
        rintro e w6 ⟨rfl, h6⟩
        clear cK hc0
        go_wp2_with fail
        go_roundw
        case rel => exact ⟨i + 1, C, _, _, 0, hlt, by go_num, rfl, HCT.out, Nat.zero_le _, h6⟩
        case measure => simp [intOf]; omega
      · have ht6 : ¬ (t : Int) = 255 := by omega
        clear ht ht5
        by_cases hr : 1 ≤ x ∧ x ≤ 32 * (P : Int)
        · obtain ⟨hx1, hx2⟩ := hr
          have cD := h1.dirtyYes (by omega) x ⟨hx1, hx2⟩ (by omega)
          obtain ⟨p, hp⟩ : ∃ p, (x.toNat - 1) / 32 = p := ⟨_, rfl⟩
          have hq : (x - 1).tdiv 32 = (p : Int) := by rw [Int.tdiv_eq_ediv_of_nonneg (by omega)]; omega
          have hpI : (p : Int) ≤ 15 := by omega
          have hp0 : (0 : Int) ≤ (p : Int) := by omega
          have hx3 : x ≤ 480 := by omega
          rw [hp, hct] at cD
          clear hp h1
          go_wp2_with fail
          refine cD.mono ?_
          rintro e w6 ⟨rfl, w7, lo', hrun, h7⟩
          have h7t : (C.with lo').t = ct := hct
          generalize C.with lo' = C2 at *
          obtain ⟨n, hn⟩ : ∃ n, card (putS P S (p : Int)) = n := ⟨_, rfl⟩
          have cC := h7.c.count n hn
          have c1 := h7.c.cd.c0
          rw [h7t] at c1
          have hlen : ∀ W, Crn w.heap.size X C2 P (putS P S (p : Int)) mb (cnt + 1) w W → ∀ ty, (Builtin.len_ #[28] ty #[.map (some mb)]).run Try.prog W = .ok (.int .i64 (n : Int)) W := fun W h ty => by
            rw [← hn]; exact h.map.len ty
          have HLN := Lib.hid hlen
          have H7 := Lib.hid h7
          have HT := Lib.hid h7t
          have hnn : ((n : Int) == (n : Int)) = true := by simp
          clear cD hc0 hlen h7 h7t hn hct
          go_wp2_with fail
          refine cC.mono ?_
          rintro e w8 ⟨rfl, _, hB8⟩
          have h8 := H7.out.ask hB8
          have hlen8 := HLN.out _ h8
          clear cC c1 hB8
          go_wp2_with fail
          go_roundw
          case rel => exact ⟨i + 1, C2, _, mb, cnt + 1, hlt, by go_num, rfl, HT.out, by omega, h8⟩
          case measure => simp [intOf]; omega
        · have cD := h1.dirtyNo x hr
          rw [hct] at cD
          have fin : ∀ w6, (∃ lo', Crn w.heap.size X (C.with lo') P S mb cnt w w6) → ∃ C2 n, C2.t = ct ∧ Crn w.heap.size X C2 P S mb cnt w w6 ∧ card S = n := fun w6 ⟨lo', h⟩ => ⟨C.with lo', _, hct, h, rfl⟩
          have HF := Lib.hid fin
          clear fin h1 hct
          by_cases hx1 : 1 ≤ x
          · have hx2 : ¬ x ≤ 32 * (P : Int) := fun h => hr ⟨hx1, h⟩
            clear hr
            go_wp2_with fail
            refine cD.mono ?_
            rintro e w6 ⟨rfl, h6⟩
            obtain ⟨C2, n, h7t, h7, hn⟩ := HF.out w6 h6
            have cC := h7.c.count n hn
            have c1 := h7.c.cd.c0
            rw [h7t] at c1
            have hlen : ∀ W, Crn w.heap.size X C2 P S mb cnt w W → ∀ ty, (Builtin.len_ #[28] ty #[.map (some mb)]).run Try.prog W = .ok (.int .i64 (n : Int)) W := fun W h ty => by
              rw [← hn]; exact h.map.len ty
            have HLN := Lib.hid hlen
            have H7 := Lib.hid h7
            have HT := Lib.hid h7t
            have hnn : ((n : Int) == (n : Int)) = true := by simp
            clear cD hc0 hlen h7 h7t hn h6 HF
            go_wp2_with fail
            refine cC.mono ?_
            rintro e w8 ⟨rfl, _, hB8⟩
            have h8 := H7.out.ask hB8
            have hlen8 := HLN.out _ h8
            clear cC c1 hB8
            go_wp2_with fail
            go_roundw
            case rel => exact ⟨i + 1, C2, _, mb, cnt, hlt, by go_num, rfl, HT.out, by omega, h8⟩
            case measure => simp [intOf]; omega
          · clear hr
            go_wp2_with fail
            refine cD.mono ?_
            rintro e w6 ⟨rfl, h6⟩
            obtain ⟨C2, n, h7t, h7, hn⟩ := HF.out w6 h6
            have cC := h7.c.count n hn
            have c1 := h7.c.cd.c0
            rw [h7t] at c1
            have hlen : ∀ W, Crn w.heap.size X C2 P S mb cnt w W → ∀ ty, (Builtin.len_ #[28] ty #[.map (some mb)]).run Try.prog W = .ok (.int .i64 (n : Int)) W := fun W h ty => by
              rw [← hn]; exact h.map.len ty
            have HLN := Lib.hid hlen
            have H7 := Lib.hid h7
            have HT := Lib.hid h7t
            have hnn : ((n : Int) == (n : Int)) = true := by simp
            clear cD hc0 hlen h7 h7t hn h6 HF
            go_wp2_with fail
            refine cC.mono ?_
            rintro e w8 ⟨rfl, _, hB8⟩
            have h8 := H7.out.ask hB8
            have hlen8 := HLN.out _ h8
            clear cC c1 hB8
            go_wp2_with fail
            go_roundw
            case rel => exact ⟨i + 1, C2, _, mb, cnt, hlt, by go_num, rfl, HT.out, by omega, h8⟩
            case measure => simp [intOf]; omega
    · have hi1 : ¬ (i : Int) < (zs.length : Int) := by omega
      have HC := Lib.hid hct
      clear hlt hi hi0 hcnt hct hmm
      go_wp2_with fail
      go_loopw [10] (fun v10 wr => CrZ w.heap.size X C P S mb cnt w v10 wr) (fun v10 _ => ((P : Int) + 1 - intOf v10).toNat)
      case atStart => exact ⟨-1, Int.le_refl _, by omega, rfl, h1⟩
      case round =>
        clear h1
        obtain ⟨p, hp1, hp2, rfl, h1⟩ := hrel
        by_cases hlt : p ≤ (P : Int)
        · have hwf : (Lit.int .i64 p).wf = true := by simp [Lit.wf, IntKind.min, IntKind.max, IntKind.signed, IntKind.bits]; omega
          obtain ⟨q, hq⟩ : ∃ q, inS S p = q := ⟨_, rfl⟩
          obtain ⟨z, hz⟩ : ∃ z, oneAt S p = z := ⟨_, rfl⟩
          have h0 := h1.drew
          have cI1 := h0.c.is_ p q hq
          have hLk : ∀ W, Crn w.heap.size X C P S mb cnt w W → (Instr.lookup 28 (.map (some mb)) (.int .i64 p) false).run Try.prog W = .ok (.int .i64 z) W := fun W h => by
            rw [← hz]; exact h.map.look _ hwf
          have hl0 := hLk _ h0
          rw [HC.out] at cI1
          have hzq : z = if q then 1 else 0 := by
            rw [← hz]
            unfold oneAt
            rw [hq]
          have HLK := Lib.hid hLk
          clear hLk hz hq hwf h1
          cases q
          · obtain rfl : z = 0 := hzq
            go_wp2_with fail
            go_region_held3 (fun W' => (Instr.lookup 28 (.map (some mb)) (.int .i64 p) false).run Try.prog W' = .ok (.int .i64 0) W')
              (first | exact hl6 | exact hl0)
              (first | (go_at_call 15; refine cI1.mono ?_; rintro e w6 ⟨rfl, hB6⟩; have h6 := h0.ask hB6; have hl6 := HLK.out _ h6))
            all_goals
              clear cI1 hl0 hl6 h0 hB6
              go_wp2_with fail
              go_roundw
              case rel => exact ⟨p + 1, by omega, by omega, by go_num, h6⟩
              case measure => simp [intOf]; omega
          · obtain rfl : z = 1 := hzq
            go_wp2_with fail
            go_region_held3 (fun W' => (Instr.lookup 28 (.map (some mb)) (.int .i64 p) false).run Try.prog W' = .ok (.int .i64 1) W')
              (first | exact hl6 | exact hl0)
              (first | (go_at_call 15; refine cI1.mono ?_; rintro e w6 ⟨rfl, hB6⟩; have h6 := h0.ask hB6; have hl6 := HLK.out _ h6))
            all_goals
              clear cI1 hl0 hl6 h0 hB6
              go_wp2_with fail
              go_roundw
              case rel => exact ⟨p + 1, by omega, by omega, by go_num, h6⟩
              case measure => simp [intOf]; omega
        · have hbl := h1.c.below
          clear h1
          go_wp2_with fail
          go_ret
          exact ⟨rfl, hbl⟩
end Go.Proofs.Ytfipflghnhfcjaa
