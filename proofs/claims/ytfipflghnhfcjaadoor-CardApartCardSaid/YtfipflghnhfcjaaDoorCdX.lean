/- CardApart, walked, at this seat's numbers. -/
import Derived.Test.YtfipflghnhfcjaaDoorCdW
import Derived.Test.YtfipflghnhfcjaaDoorArgsJ
import Derived.WalkMore
namespace Go.Proofs.YtfipflghnhfcjaaDoor
open Go Go.RowKit Go.Shelf Go.MuLone Go.RwLone
set_option linter.unusedSimpArgs false
set_option linter.unusedVariables false
attribute [local go_sem] Oper.semAt_some

theorem u8_rangeX {a : Int} (h : (Lit.int .u8 a).wf = true) : 0 ≤ a ∧ a ≤ 255 := by
  simp [Lit.wf, IntKind.min, IntKind.max, IntKind.signed, IntKind.bits] at h
  omega
def ApX (B xa ct : Nat) (D : CdB) (mb len : Nat) (wb : World) (v32 : Value) (wr : World) : Prop :=
  ∃ (i : Nat) (X : ArB) (C : CdB) (s : ArS) (S : Nat → Bool) (cnt : Nat), i ≤ len ∧ v32 = .int .i64 (i : Int) ∧ X.a = xa ∧ C.t = ct ∧ cnt ≤ i ∧ Apt B X C D s S (fun _ => false) mb cnt wb wr
def ApY (B : Nat) (X : ArB) (C : CdB) (dt : Nat) (s : ArS) (S : Nat → Bool) (mb cnt len : Nat) (wb : World) (v65 : Value) (wr : World) : Prop :=
  ∃ (j : Nat) (D : CdB) (S2 : Nat → Bool), j ≤ len ∧ v65 = .int .i64 (j : Int) ∧ D.t = dt ∧ Apt B X C D s S S2 mb cnt wb wr
def ApZ (B : Nat) (X : ArB) (C D : CdB) (s : ArS) (S : Nat → Bool) (mb cnt : Nat) (wb : World) (v77 : Value) (wr : World) : Prop :=
  ∃ p : Nat, p ≤ 8 ∧ v77 = .int .i64 (p : Int) ∧ Apt B X C D s S (fun _ => false) mb cnt wb wr

set_option maxRecDepth 100000 in
set_option maxHeartbeats 8000000 in
theorem apart_true (a0 : Option Addr) (ys : List Int) (cap : Nat) (a1 : Option Addr) (zs : List Int) (cap1 : Nat) (w : World) (hl0 : ys.length ≤ 9223372036854775807) (hl1 : zs.length ≤ 9223372036854775807) (hZ : U8sAt w a0 ys) (hZ1 : U8sAt w a1 zs) (hTab : TableAt w) :
    Calls Tryd.prog 8 #[.slice a0 ys.length cap, .slice a1 zs.length cap1] w fun e w' => e = .returned (.bool true) ∧ Below w.heap.size w w' := by
  have HZ := Lib.hid hZ
  have HZ1 := Lib.hid hZ1
  clear hZ hZ1
  have hf := cdfit_true w
  have htl := hTab.lt
  go_enter Tryd.func8, Tryd.ntmps8
  go_wp2_with fail
  refine hf.mono ?_
  rintro e w1 ⟨rfl, hB⟩
  clear hf
  by_cases hbig : 80 < wrap64 ((ys.length : Int) + (zs.length : Int))
  · go_wp2_with fail
    go_ret
    exact ⟨rfl, hB⟩
  go_wp2_with fail
  refine (new_in 8 8 (by decide) w.heap.size w w1 hB (Nat.le_refl _) hTab htl).mono ?_
  rintro e w2 ⟨X, rfl, hA, hX, hB2⟩
  go_wp2_with fail
  refine (cdNew (B := w.heap.size) (wb := w) hA.at_.toArMem hA.own hA.below (Nat.le_refl _)).mono ?_
  rintro e w3 ⟨C, rfl, h3, hC, hB3⟩
  go_wp2_with fail
  have hA3 := hA.ask hB3
  refine (cdNew (B := w.heap.size) (wb := w) hA3.at_.toArMem hA3.own hA3.below (Nat.le_refl _)).mono ?_
  rintro e w4 ⟨D, rfl, h4, hD, hB4⟩
  have hA4 := hA3.ask hB4
  have h34 := h3.ask hB4
  have hCl := h3.cd.lt
  have hs4 := hA4.size
  have hm := MapOf.made w4
  have hBm : Below w4.heap.size w4 (w4.alloc (.map #[] 0)) := (Below.refl _ w4).alloc (Nat.le_refl _) _
  have h5 : Apt w.heap.size X C D (.new 8) (fun _ => false) (fun _ => false) w4.heap.size 0 w (w4.alloc (.map #[] 0)) :=
    ⟨hA4.ask hBm, rfl, (h34.ask hBm).cd, (h4.ask hBm).cd, fun k hk => ⟨h34.own k hk, h34.sep k hk, fun hx => by have := hD k hx; have := hCl k hk; omega⟩, fun k hk => ⟨h4.own k hk, h4.sep k hk⟩, hm, hs4, fun hx => by have := hA4.at_.lt _ hx; omega⟩
  clear hA hX hB2 h3 hC hB3 hA3 h4 hD hB4 hA4 h34 hCl hs4 hm hBm hB
  have hmm := @run_makeMap Tryd.prog
  go_wp2_with fail
  generalize w4.alloc (.map #[] 0) = w5 at *
  generalize w4.heap.size = mb at *
  obtain ⟨xa, hxa⟩ : ∃ xa, X.a = xa := ⟨_, rfl⟩
  obtain ⟨ct, hct⟩ : ∃ ct, C.t = ct := ⟨_, rfl⟩
  obtain ⟨dt, hdt⟩ : ∃ dt, D.t = dt := ⟨_, rfl⟩
  simp only [hxa, hct, hdt]
  have HD := Lib.hid hdt
  have H5 := Lib.hid (⟨hxa, hct⟩ : X.a = xa ∧ C.t = ct)
  clear hxa hct hdt
  go_loopw [32] (fun v32 wr => ApX w.heap.size xa ct D mb ys.length w v32 wr) (fun v32 _ => ys.length - (intOf v32).toNat)
  case atStart => exact ⟨0, X, C, _, _, 0, Nat.zero_le _, rfl, H5.out.1, H5.out.2, Nat.le_refl _, h5⟩
  case round =>
    clear h5 H5
    obtain ⟨i, X, C, s, S, cnt, hi, rfl, hxa, hct, hcnt, h1⟩ := hrel
    have hi0 : (0 : Int) ≤ (i : Int) := by omega
    by_cases hlt : i < ys.length
    · have hi1 : (i : Int) < (ys.length : Int) := by omega
      obtain ⟨bk, off, rfl, hbk, hc0, hwy⟩ := HZ.out i hlt
      replace hc0 := (h1.ar.below.cell (p := ⟨bk, off + i, none⟩) hbk).trans hc0
      obtain ⟨hv0, hv1⟩ := u8_rangeX hwy
      generalize ys.getD i 0 = v at *
      obtain ⟨n, rfl⟩ : ∃ n : Nat, v = (n : Int) := ⟨v.toNat, by omega⟩
      have cD := h1.dirty1 n (by omega) (by omega)
      obtain ⟨p, hp⟩ : ∃ p, n / 32 = p := ⟨_, rfl⟩
      have hq : (n : Int).tdiv 32 = (p : Int) := by rw [Int.tdiv_eq_ediv_of_nonneg (by omega)]; omega
      rw [hp, hct] at cD
      obtain ⟨c0, hc3⟩ : ∃ c0 : Nat, (i : Int).tmod 3 = (c0 : Int) := ⟨i % 3, by rw [Int.tmod_eq_emod_of_nonneg (by omega)]; omega⟩
      obtain ⟨bq, hbq⟩ : ∃ bq, (bits .and .u8 (n : Int) 1 == 1) = bq := ⟨_, rfl⟩
      have hpI : (p : Int) ≤ 8 := by omega
      have hp0 : (0 : Int) ≤ (p : Int) := by omega
      clear hp hwy h1
      go_wp2_with fail
      refine cD.mono ?_
      rintro e w6 ⟨rfl, w7, lo', hrun, h7⟩
      have h7t : (C.with lo').t = ct := hct
      generalize C.with lo' = C2 at *
      have cT := h7.take (c0 : Int)
      rw [hxa] at cT
      obtain ⟨rr, hrr⟩ : ∃ rr, seekF s (c0 : Int) = rr := ⟨_, rfl⟩
      obtain ⟨ok, hok⟩ : ∃ ok, decide (seekF s (c0 : Int) ≠ 0) = ok := ⟨_, rfl⟩
      rw [hok, hrr] at cT
      clear cD hrr hok hc0
      go_wp2_with fail
      refine cT.mono ?_
      rintro e w8 ⟨rfl, lo8, h8⟩
      have hxa8 : (X.with lo8).a = xa := hxa
      generalize X.with lo8 = X2 at *
      have cG := h8.give ((rr : Nat) : Int)
      rw [hxa8] at cG
      clear cT hrun h7
      have fin0 : ∃ (i1 : Nat) (X3 : ArB) (C3 : CdB) (s3 : ArS) (S3 : Nat → Bool) (cnt3 : Nat), i1 ≤ ys.length ∧ (i : Int) + 1 = (i1 : Int) ∧ X3.a = xa ∧ C3.t = ct ∧ cnt3 ≤ i1 ∧ Apt w.heap.size X3 C3 D s3 S3 (fun _ => false) mb cnt3 w w8 :=
        ⟨i + 1, X2, C2, _, _, cnt + 1, hlt, by omega, hxa8, h7t, by omega, h8⟩
      have HF := Lib.hid fin0
      clear fin0
      cases ok
      · clear cG h8
        go_wp2_with fail
        go_roundw
        case rel =>
          obtain ⟨i1, X3, C3, s3, S3, cnt3, e1, e2, e3, e4, e5, e6⟩ := HF.out
          exact ⟨i1, X3, C3, s3, S3, cnt3, e1, by rw [e2], e3, e4, e5, e6⟩
        case measure => simp [intOf]; omega
      · cases bq
        · clear cG h8
          go_wp2_with fail
          go_roundw
          case rel =>
            obtain ⟨i1, X3, C3, s3, S3, cnt3, e1, e2, e3, e4, e5, e6⟩ := HF.out
            exact ⟨i1, X3, C3, s3, S3, cnt3, e1, by rw [e2], e3, e4, e5, e6⟩
          case measure => simp [intOf]; omega
        · clear h8 HF
          go_wp2_with fail
          refine cG.mono ?_
          rintro e w9 ⟨rfl, lo9, h9⟩
          clear cG
          go_wp2_with fail
          go_roundw
          case rel => exact ⟨i + 1, X2.with lo9, C2, _, _, cnt + 1, hlt, by go_num, hxa8, h7t, by omega, h9⟩
          case measure => simp [intOf]; omega
    · have hi1 : ¬ (i : Int) < (ys.length : Int) := by omega
      have HC := Lib.hid hct
      clear hlt hi hi0 hcnt hxa hct hmm
      go_wp2_with fail
      go_loopw [65] (fun v65 wr => ApY w.heap.size X C dt s S mb cnt zs.length w v65 wr) (fun v65 _ => zs.length - (intOf v65).toNat)
      case atStart => exact ⟨0, D, _, Nat.zero_le _, rfl, HD.out, h1⟩
      case round =>
        clear h1 HD
        obtain ⟨j, D2, S2, hj, rfl, hdt, h1⟩ := hrel
        have hj0 : (0 : Int) ≤ (j : Int) := by omega
        by_cases hlt : j < zs.length
        · have hj1 : (j : Int) < (zs.length : Int) := by omega
          obtain ⟨bk, off, rfl, hbk, hc0, hwy⟩ := HZ1.out j hlt
          replace hc0 := (h1.ar.below.cell (p := ⟨bk, off + j, none⟩) hbk).trans hc0
          obtain ⟨hv0, hv1⟩ := u8_rangeX hwy
          generalize zs.getD j 0 = v at *
          obtain ⟨n, rfl⟩ : ∃ n : Nat, v = (n : Int) := ⟨v.toNat, by omega⟩
          have cD := h1.dirty2 n (by omega)
          rw [hdt] at cD
          clear hwy h1
          have HDT := Lib.hid hdt
          clear hdt
          go_wp2_with fail
          refine cD.mono ?_
          rintro e w6 ⟨rfl, lo', h7⟩
          clear cD hc0
          go_wp2_with fail
          go_roundw
          case rel => exact ⟨j + 1, D2.with lo', _, hlt, by go_num, HDT.out, h7⟩
          case measure => simp [intOf]; omega
        · have hj1 : ¬ (j : Int) < (zs.length : Int) := by omega
          have cK := h1.clean2
          rw [hdt] at cK
          have HDT := Lib.hid hdt
          clear hlt hj hj0 h1 hdt
          go_wp2_with fail
          refine cK.mono ?_
          rintro e w6 ⟨rfl, h6⟩
          clear cK
          go_wp2_with fail
          go_loopw [77] (fun v77 wr => ApZ w.heap.size X C D2 s S mb cnt w v77 wr) (fun v77 _ => 8 - (intOf v77).toNat)
          case atStart => exact ⟨0, by omega, rfl, h6⟩
          case round =>
            clear h6
            obtain ⟨p, hp, rfl, h1⟩ := hrel
            have hp0 : (0 : Int) ≤ (p : Int) := by omega
            by_cases hlt : p < 8
            · have hp1 : (p : Int) < 8 := by omega
              have hwf : (Lit.int .i64 (p : Int)).wf = true := by simp [Lit.wf, IntKind.min, IntKind.max, IntKind.signed, IntKind.bits]; omega
              obtain ⟨q, hq⟩ : ∃ q, S p = q := ⟨_, rfl⟩
              obtain ⟨z, hz⟩ : ∃ z, oneAt S (p : Int) = z := ⟨_, rfl⟩
              have h0 := h1.drew
              have cI1 := h0.c1.is_ (p : Int) q (by rw [Int.toNat_natCast, hq]; simp)
              have hIs2 : ∀ W, Apt w.heap.size X C D2 s S (fun _ => false) mb cnt w W → Calls Tryd.prog 36 #[.pointer (some ⟨dt, 0, none⟩), .int .i64 (p : Int)] W fun e w' => e = .returned (.bool false) ∧ Below W.heap.size W w' := fun W h => by
                have := h.c2.is_ (p : Int) false (by simp)
                rw [HDT.out] at this
                exact this
              have hLk : ∀ W, Apt w.heap.size X C D2 s S (fun _ => false) mb cnt w W → (Instr.lookup 74 (.map (some mb)) (.int .i64 (p : Int)) false).run Tryd.prog W = .ok (.int .i64 z) W := fun W h => by
                rw [← hz]; exact h.map.look _ hwf
              have hl0 := hLk _ h0
              rw [HC.out] at cI1
              have hzq : z = if q then 1 else 0 := by
                rw [← hz]
                unfold oneAt
                rw [inS_nat, hq]
              have HLK := Lib.hid hLk
              have HI2 := Lib.hid hIs2
              clear hLk hIs2 hz hq hwf h1
              cases q
              · obtain rfl : z = 0 := hzq
                go_wp2_with fail
                go_region_held3 (fun W' => (Instr.lookup 74 (.map (some mb)) (.int .i64 (p : Int)) false).run Tryd.prog W' = .ok (.int .i64 0) W')
                  (first | exact hl7 | exact hl6 | exact hl0)
                  (first
                    | (go_at_call 36; refine cI2.mono ?_; rintro e w7 ⟨rfl, hB7⟩; have h7 := h6.ask hB7; have hl7 := HLK.out _ h7)
                    | (go_at_call 36; refine cI1.mono ?_; rintro e w6 ⟨rfl, hB6⟩; have h6 := h0.ask hB6; have hl6 := HLK.out _ h6; have cI2 := HI2.out _ h6))
                all_goals
                  clear cI1 cI2 hl0 hl6 hl7 h0 h6 hB6 hB7
                  go_wp2_with fail
                  go_roundw
                  case rel => exact ⟨p + 1, hlt, by go_num, h7⟩
                  case measure => simp [intOf]; omega
              · obtain rfl : z = 1 := hzq
                go_wp2_with fail
                go_region_held3 (fun W' => (Instr.lookup 74 (.map (some mb)) (.int .i64 (p : Int)) false).run Tryd.prog W' = .ok (.int .i64 1) W')
                  (first | exact hl7 | exact hl6 | exact hl0)
                  (first
                    | (go_at_call 36; refine cI2.mono ?_; rintro e w7 ⟨rfl, hB7⟩; have h7 := h6.ask hB7; have hl7 := HLK.out _ h7)
                    | (go_at_call 36; refine cI1.mono ?_; rintro e w6 ⟨rfl, hB6⟩; have h6 := h0.ask hB6; have hl6 := HLK.out _ h6; have cI2 := HI2.out _ h6))
                all_goals
                  clear cI1 cI2 hl0 hl6 hl7 h0 h6 hB6 hB7
                  go_wp2_with fail
                  go_roundw
                  case rel => exact ⟨p + 1, hlt, by go_num, h7⟩
                  case measure => simp [intOf]; omega
            · obtain rfl : p = 8 := by omega
              obtain ⟨n, hn⟩ : ∃ n, card S = n := ⟨_, rfl⟩
              have cC1 := h1.c1.count n hn
              have c1 := h1.cd.c0
              rw [HC.out] at c1
              have hLen : ∀ W, Apt w.heap.size X C D2 s S (fun _ => false) mb cnt w W → ∀ ty, (Builtin.len_ #[74] ty #[.map (some mb)]).run Tryd.prog W = .ok (.int .i64 (n : Int)) W := fun W h ty => by
                rw [← hn]; exact h.map.len ty
              have HLN := Lib.hid hLen
              have H1 := Lib.hid h1
              clear hn hLen h1 hlt hp hp0
              have hnn : ((n : Int) == (n : Int)) = true := by simp
              go_wp2_with fail
              refine cC1.mono ?_
              rintro e w7 ⟨rfl, _, hB7⟩
              have h7 := H1.out.ask hB7
              have hlen7 := HLN.out _ h7
              have c2 := h7.ce.c0
              rw [HDT.out] at c2
              have cC2 := h7.c2.count 0 (card_none _ (fun _ => rfl))
              clear cC1 c1 hB7
              go_wp2_with fail
              refine cC2.mono ?_
              rintro e w8 ⟨rfl, _, hB8⟩
              have hbl := (h7.ask hB8).ar.below
              clear cC2 c2 h7 hB8 hlen7
              go_wp2_with fail
              go_ret
              exact ⟨rfl, hbl⟩
end Go.Proofs.YtfipflghnhfcjaaDoor
