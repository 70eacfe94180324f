/- VybSaturates, walked, over the barrier's contracts; at this seat's numbers. -/
import Derived.Test.YtkjpeacnponcfaaGreatDoorLVyF
import Derived.Deep.RegionHeld3
namespace Go.Proofs.YtkjpeacnponcfaaGreatDoor
open Go Go.RowKit Go.Shelf Go.MuLone Go.RwLone
set_option linter.unusedSimpArgs false
set_option linter.unusedVariables false
attribute [local go_sem] Oper.semAt_some

/-- One alone counts. -/
def oneC (y : Int) (k : Nat) : Int → Nat := fun r => if r = y then k else 0
theorem oneC_zero (y : Int) : oneC y 0 = fun _ => 0 := by funext r; unfold oneC; split <;> rfl
theorem oneC_at (y : Int) (k : Nat) : oneC y k y = k := if_pos rfl
theorem oneC_ne {y z : Int} (k : Nat) (h : z ≠ y) : oneC y k z = 0 := if_neg h
theorem oneC_up {y : Int} (k : Nat) (h : y ≠ 0) : vyPost (oneC y k) true y 0 = oneC y (min 3 (k + 1)) := by
  unfold vyPost; rw [if_pos rfl, vyDown_zero]
  funext r
  by_cases e : r = y
  · rw [e, vyUp_at h, oneC_at, oneC_at]
  · rw [vyUp_ne e, oneC_ne _ e, oneC_ne _ e]
theorem oneC_down {y : Int} (k : Nat) (h : y ≠ 0) : vyPost (oneC y k) true 0 y = oneC y (if k = 1 ∨ k = 2 then k - 1 else k) := by
  unfold vyPost; rw [if_pos rfl, vyUp_zero]
  funext r
  by_cases e : r = y
  · rw [e, vyDown_at h, oneC_at, oneC_at]
  · rw [vyDown_ne e, oneC_ne _ e, oneC_ne _ e]
/-- Behind u up, j down. -/
def satK (u j : Nat) : Nat := if 3 ≤ u then 3 else u - j
theorem satK_zero (u : Nat) : satK u 0 = min 3 u := by unfold satK; split <;> omega
theorem satK_next (u j : Nat) : (if satK u j = 1 ∨ satK u j = 2 then satK u j - 1 else satK u j) = satK u (j + 1) := by
  unfold satK; split <;> split <;> omega
theorem wrapS {r : Nat} (h : r < 256) : IntKind.i64.wrap (r : Int) = (r : Int) := by simp [IntKind.wrap, IntKind.bits, IntKind.signed]; omega
set_option maxRecDepth 100000 in
set_option maxHeartbeats 16000000 in
theorem vsat_true (qu qd qr : Nat) (hu : qu < 256) (hd : qd < 256) (hr : qr < 256) (w : World) (hT : Tabs w) :
    Calls Tryz.prog 6 #[.int .u8 (qu : Int), .int .u8 (qd : Int), .int .u8 (qr : Int)] w fun e w' => e = .returned (.bool true) ∧ Below w.heap.size w w' := by
  obtain ⟨u, hu6⟩ : ∃ u : Nat, u = qu % 6 := ⟨_, rfl⟩
  obtain ⟨d, hd8⟩ : ∃ d : Nat, d = qd % 8 := ⟨_, rfl⟩
  obtain ⟨rm, hr8⟩ : ∃ rm : Nat, rm = qr % 8 := ⟨_, rfl⟩
  have hut : (qu : Int).tmod 6 = (u : Int) := by rw [Int.tmod_eq_emod_of_nonneg (by omega), hu6]; omega
  have hdt : (qd : Int).tmod 8 = (d : Int) := by rw [Int.tmod_eq_emod_of_nonneg (by omega), hd8]; omega
  have hrt : (qr : Int).tmod 8 = (rm : Int) := by rw [Int.tmod_eq_emod_of_nonneg (by omega), hr8]; omega
  have huw := wrapS (r := u) (by omega)
  have hdw := wrapS (r := d) (by omega)
  have hrw := wrapS (r := rm) (by omega)
  have hul : u < 6 := by omega
  have hdl : d < 8 := by omega
  have hrl : rm < 8 := by omega
  have HN := Lib.hid (And.intro hul (And.intro hdl hrl))
  clear hu6 hd8 hr8 hu hd hr hul hdl hrl
  go_enter Tryz.func6, Tryz.ntmps6
  go_wp2_with fail
  refine (vyfit_true w hT).mono ?_
  rintro e w1 ⟨rfl, hB1⟩
  have hT1 := hT.below hB1
  have hB0 := (Below.refl w1.heap.size w1).alloc (Nat.le_refl _) (.cells #[.int .u8 2, .int .u8 2, .int .u8 2] 5)
  have hb := Blk.new w1 #[.int .u8 2, .int .u8 2, .int .u8 2] 5
  have hF : BytesW (w1.alloc (.cells #[.int .u8 2, .int .u8 2, .int .u8 2] 5)) (some ⟨w1.heap.size, 0, none⟩) [2, 2, 2] := fun k hk => by
    have hk2 : k = 0 ∨ k = 1 ∨ k = 2 := by simp at hk; omega
    rcases hk2 with rfl | rfl | rfl
    · exact ⟨w1.heap.size, 0, rfl, by simp, hb.cell 0, by decide⟩
    · exact ⟨w1.heap.size, 0, rfl, by simp, hb.cell 1, by decide⟩
    · exact ⟨w1.heap.size, 0, rfl, by simp, hb.cell 2, by decide⟩
  have hT2 := hT1.below hB0
  have cM := made_any (some ⟨w1.heap.size, 0, none⟩) [2, 2, 2] 3 none 0 0 (fun _ _ => 0) _ (by decide) (by omega) hF (fun k hk => absurd hk (Nat.not_lt_zero _)) hT2.c
  have HT := Lib.hid (And.intro hT2.b (hB1.trans (hB0.mono hB1.size)))
  clear hF hT1 hT2 hT hB0 hB1 hb
  go_wp2_with fail
  generalize w1.alloc (.cells #[.int .u8 2, .int .u8 2, .int .u8 2] 5) = w2 at *
  refine cM.mono ?_
  rintro e w3 hMP
  obtain ⟨X, s, obs, vl, mb, n, f, rfl, hMO⟩ := hMP.ok HT.out.1
  have hol : obs.length = 3 := hMO.len
  obtain ⟨x, y, z, rfl⟩ : ∃ x y z, obs = [x, y, z] := by
    match obs, hol with
    | [x, y, z], _ => exact ⟨x, y, z, rfl⟩
  have hlen := hMO.go.row.lenRun 3
  rw [refsI_length] at hlen
  have hl2 : ((([x, y, z] : List Ob).length : Nat) : Int) = 3 := rfl
  rw [hl2] at hlen
  have cN := gm_new (E := fun _ => False) hMO.go hMO.P 4 (fun _ h => h.elim) (by omega) hMO.tab hMO.tab.lt
  have HO := Lib.hid hMO
  clear hMO hMP cM hol hl2
  go_wp2_with fail
  refine cN.mono ?_
  rintro e w4 ⟨T, rfl, hGm, hB3⟩
  obtain ⟨tm, htm⟩ : ∃ tm, T.m = tm := ⟨_, rfl⟩
  rw [htm]
  have cS := vy_new (room := rm) hGm htm (rm : Int) (by omega) (by have := HN.out; omega)
  clear cN hB3 hGm htm
  go_wp2_with fail
  refine cS.mono ?_
  rintro e w5 ⟨bt, rfl, h4, _⟩
  clear cS
  rcases h4.go.row.is with ⟨_, e⟩ | ⟨g, cap, cur, hv, hg, hlc, hcm, hcs, hcell⟩
  · simp [refsI] at e
  have hR0 : (refsI [x, y, z])[0]? = some (x.r : Int) := rfl
  have hR1 : (refsI [x, y, z])[1]? = some (y.r : Int) := rfl
  have hR2 : (refsI [x, y, z])[2]? = some (z.r : Int) := rfl
  have hv2 : vl = .slice (some ⟨g, 0, none⟩) 3 cap := hv
  subst hv2
  have hxR : (x.r : Int) ∈ refsI [x, y, z] := by simp [refsI]
  have hyR : (y.r : Int) ∈ refsI [x, y, z] := by simp [refsI]
  have hzR : (z.r : Int) ∈ refsI [x, y, z] := by simp [refsI]
  have hxb := HO.out.bd _ hxR
  have hyb := HO.out.bd _ hyR
  have hy0 : (y.r : Int) ≠ 0 := by omega
  have hne : (x.r : Int) ≠ (y.r : Int) ∧ (z.r : Int) ≠ (y.r : Int) := by
    have := HO.out.nd
    simp [refsI] at this
    omega
  have HX := Lib.hid (And.intro hxR (And.intro hyR (And.intro hy0 (And.intro hne.1 (And.intro hne.2 HO.out.bd)))))
  clear hg hlc hcm hcs hcell hv hyR hxR hzR hxb hyb hy0 hne hlen
  rw [← oneC_zero (y.r : Int)] at h4
  go_wp2_with fail
  go_loopw [41] (fun v41 W => ∃ i : Nat, i ≤ u ∧ v41 = .int .i64 (i : Int) ∧ VyIn w2.heap.size mb n X s [x, y, z] (.slice (some ⟨g, 0, none⟩) 3 cap) f (ptsAt [x, y, z]) (fun _ => False) T Col.white bt tm (oneC (y.r : Int) (min 3 i)) i rm w2 W) (fun v41 _ => u - (intOf v41).toNat)
  case atStart => exact ⟨0, Nat.zero_le _, rfl, h4⟩
  case round =>
  clear h4
  obtain ⟨i, hi, rfl, h1⟩ := hrel
  have hi0 : (0 : Int) ≤ (i : Int) := by omega
  have hul : u < 6 := HN.out.1
  by_cases hlt : i < u
  · have hi1 : (i : Int) < (u : Int) := by omega
    have hDa := h1.ask (Below.refl _ wr).drew
    have hxDa := row_cellB hDa.go.row hR0
    have hyDa := row_cellB hDa.go.row hR1
    have cP := vy_post hDa (x.r : Int) 0 (y.r : Int) true false (.inr rfl) (.inl HX.out.2.1) HX.out.2.2.2.2.2 (by have := HN.out; omega)
    rw [oneC_up _ HX.out.2.2.1] at cP
    clear h1 hDa
    go_wp2_with fail
    go_region_held3 (fun W' => W'.cell? ⟨g, 0, none⟩ = some (.int .i64 (x.r : Int)) ∧ W'.cell? ⟨g, 1, none⟩ = some (.int .i64 (y.r : Int))) (first | exact hS6 | exact ⟨hxDa, hyDa⟩)
      (first
        | (go_at_call 15; refine cP.mono ?_; rintro e w6 ⟨rfl, h6, _⟩; have hS6 : w6.cell? ⟨g, 0, none⟩ = some (.int .i64 (x.r : Int)) ∧ w6.cell? ⟨g, 1, none⟩ = some (.int .i64 (y.r : Int)) := ⟨row_cellB h6.go.row hR0, row_cellB h6.go.row hR1⟩))
    all_goals
      have hl1 : vyLg i true (y.r : Int) = i + 1 := by unfold vyLg; rw [if_pos rfl, if_neg HX.out.2.2.1]
      have hk1 : min 3 (min 3 i + 1) = min 3 (i + 1) := by omega
      rw [hl1, hk1] at h6
      have H6 := Lib.hid h6
      clear hS6 cP hxDa hyDa h6 hl1 hk1
      go_wp2_with fail
      go_roundw
      case rel => exact ⟨i + 1, hlt, by go_num, H6.out⟩
      case measure => simp [intOf]; omega
  · have hi1 : ¬ (i : Int) < (u : Int) := by omega
    obtain rfl : u = i := by omega
    rw [← satK_zero u] at h1
    clear hlt hi hi0 hi1
    have hnu : ¬ (u : Int) < (u : Int) := by omega
    go_wp2_with fail
    clear hnu
    go_loopw [54] (fun v54 W => ∃ j : Nat, j ≤ d ∧ v54 = .int .i64 (j : Int) ∧ VyIn w2.heap.size mb n X s [x, y, z] (.slice (some ⟨g, 0, none⟩) 3 cap) f (ptsAt [x, y, z]) (fun _ => False) T Col.white bt tm (oneC (y.r : Int) (satK u j)) u rm w2 W) (fun v54 _ => d - (intOf v54).toNat)
    case atStart => exact ⟨0, Nat.zero_le _, rfl, h1⟩
    case round =>
    clear h1
    obtain ⟨j, hj, rfl, h1⟩ := hrel
    have hj0 : (0 : Int) ≤ (j : Int) := by omega
    have hdl : d < 8 := HN.out.2.1
    by_cases hlt : j < d
    · have hj1 : (j : Int) < (d : Int) := by omega
      have hDa := h1.ask (Below.refl _ wr).drew
      have hxDa := row_cellB hDa.go.row hR0
      have hyDa := row_cellB hDa.go.row hR1
      have cP := vy_post hDa (x.r : Int) (y.r : Int) 0 true false (.inl HX.out.2.1) (.inr rfl) HX.out.2.2.2.2.2 (by have := HN.out; omega)
      rw [oneC_down _ HX.out.2.2.1, satK_next] at cP
      clear h1 hDa
      go_wp2_with fail
      go_region_held3 (fun W' => W'.cell? ⟨g, 0, none⟩ = some (.int .i64 (x.r : Int)) ∧ W'.cell? ⟨g, 1, none⟩ = some (.int .i64 (y.r : Int))) (first | exact hS6 | exact ⟨hxDa, hyDa⟩)
        (first
          | (go_at_call 15; refine cP.mono ?_; rintro e w6 ⟨rfl, h6, _⟩; have hS6 : w6.cell? ⟨g, 0, none⟩ = some (.int .i64 (x.r : Int)) ∧ w6.cell? ⟨g, 1, none⟩ = some (.int .i64 (y.r : Int)) := ⟨row_cellB h6.go.row hR0, row_cellB h6.go.row hR1⟩))
      all_goals
        have hl1 : vyLg u true 0 = u := by unfold vyLg; rw [if_pos rfl, if_pos rfl]
        rw [hl1] at h6
        have hDb := h6.ask (Below.refl _ w6).drew
        have hxDb := row_cellB hDb.go.row hR0
        have hyDb := row_cellB hDb.go.row hR1
        have cQ := vy_post hDb (x.r : Int) (y.r : Int) 0 false false (.inl HX.out.2.1) (.inr rfl) HX.out.2.2.2.2.2 (by have := HN.out; omega)
        rw [vyPost_white, vyLg_white] at cQ
        clear hS6 cP hxDa hyDa h6 hl1 hDb
        go_wp2_with fail
        go_region_held3 (fun W' => W'.cell? ⟨g, 0, none⟩ = some (.int .i64 (x.r : Int)) ∧ W'.cell? ⟨g, 1, none⟩ = some (.int .i64 (y.r : Int))) (first | exact hS7 | exact ⟨hxDb, hyDb⟩)
          (first
            | (go_at_call 15; refine cQ.mono ?_; rintro e w7 ⟨rfl, h7, _⟩; have hS7 : w7.cell? ⟨g, 0, none⟩ = some (.int .i64 (x.r : Int)) ∧ w7.cell? ⟨g, 1, none⟩ = some (.int .i64 (y.r : Int)) := ⟨row_cellB h7.go.row hR0, row_cellB h7.go.row hR1⟩))
        all_goals
          have H7 := Lib.hid h7
          clear hS7 cQ hxDb hyDb h7
          go_wp2_with fail
          go_roundw
          case rel => exact ⟨j + 1, hlt, by go_num, H7.out⟩
          case measure => simp [intOf]; omega
    · have hj1 : ¬ (j : Int) < (d : Int) := by omega
      obtain rfl : d = j := by omega
      obtain ⟨wt, hwt⟩ : ∃ wt : Nat, wt = satK u d := ⟨_, rfl⟩
      have hu6 : u < 6 := HN.out.1
      have hd8 : d < 8 := HN.out.2.1
      rw [← hwt] at h1
      obtain ⟨nd, hnd⟩ : ∃ nd : Int, nd = (u : Int) - (d : Int) := ⟨_, rfl⟩
      have hsub : wrap64 ((u : Int) - (d : Int)) = nd := by simp [wrap64]; omega
      obtain ⟨q, hq⟩ : ∃ q : Bool, decide (rm < u) = q := ⟨_, rfl⟩
      have hqI : decide ((rm : Int) < (u : Int)) = q := by rw [← hq]; simp
      have hqq : (q != q) = false := by cases q <;> rfl
      have hqe : (q == q) = true := by cases q <;> rfl
      have hqx : (!q == q) = false := by cases q <;> rfl
      have hq2 : (!q == decide (rm < u)) = false := by rw [hq]; exact hqx
      have HQ := Lib.hid hq
      have hyD := row_cellB h1.go.row hR1
      unfold satK at hwt
      clear hlt hj hj0 hj1 hdl
      by_cases h3 : 3 ≤ u
      · have h3I : (3 : Int) ≤ (u : Int) := by omega
        have hV : ((wt : Nat) : Int) = 3 := by rw [if_pos h3] at hwt; omega
        by_cases hp : 0 < nd
        · clear h3 hwt hnd hu6 hd8
          as_aux_lemma =>
            have cC := vy_count h1 (y.r : Int) 3 (by rw [oneC_at]; exact hV)
            have H1 := Lib.hid (And.intro h1 hV)
            clear h1 hV
            go_wp2_with fail
            refine cC.mono ?_
            rintro e w9 ⟨rfl, hB9⟩
            have h9 := H1.out.1.ask hB9
            have hzD := row_cellB h9.go.row hR2
            have cZ := vy_count h9 (z.r : Int) 0 (by rw [oneC_ne _ HX.out.2.2.2.2.1]; rfl)
            have H9 := Lib.hid h9
            clear cC hB9 h9 hyD
            go_wp2_with fail
            refine cZ.mono ?_
            rintro e w10 ⟨rfl, hB10⟩
            have h10 := H9.out.ask hB10
            have cO := vy_over h10 q HQ.out
            have H10 := Lib.hid h10
            clear cZ hB10 h10 hzD
            go_wp2_with fail
            refine cO.mono ?_
            rintro e w11 ⟨rfl, hB11⟩
            have h11 := H10.out.ask hB11
            have cR := vy_remark h11
            have H11 := Lib.hid h11
            clear cO hB11 h11
            go_wp2_with fail
            refine cR.mono ?_
            rintro e w12 ⟨rfl, T8, h12, _⟩
            have hmy : (vyCol Col.white (oneC (y.r : Int) wt)).ma (y.r : Int) = true := by
              show (false || decide (0 < oneC (y.r : Int) wt (y.r : Int))) = _
              rw [oneC_at]; have := H1.out.2; simp; omega
            have hmo : ∀ r : Int, r ≠ (y.r : Int) → (vyCol Col.white (oneC (y.r : Int) wt)).ma r = false := fun r hr => by
              show (false || decide (0 < oneC (y.r : Int) wt r)) = _
              rw [oneC_ne _ hr]; rfl
            have cM1 := h12.by_.marked (y.r : Int)
            rw [h12.tmE, hmy] at cM1
            have hy12 := row_cellB h12.go.row hR1
            have H12 := Lib.hid (And.intro h12 hmo)
            clear cR h12 hmy hmo
            go_wp2_with fail
            refine cM1.mono ?_
            rintro e w13 ⟨rfl, hB13⟩
            have h13 := H12.out.1.ask hB13
            have hx13 := row_cellB h13.go.row hR0
            have cM2 := h13.by_.marked (x.r : Int)
            rw [h13.tmE, H12.out.2 _ HX.out.2.2.2.1] at cM2
            have H13 := Lib.hid h13
            clear cM1 hB13 h13 hy12
            go_wp2_with fail
            refine cM2.mono ?_
            rintro e w14 ⟨rfl, hB14⟩
            have h14 := H13.out.ask hB14
            have hz14 := row_cellB h14.go.row hR2
            have cM3 := h14.by_.marked (z.r : Int)
            rw [h14.tmE, H12.out.2 _ HX.out.2.2.2.2.1] at cM3
            have H14 := Lib.hid h14
            clear cM2 hB14 h14 hx13
            go_wp2_with fail
            refine cM3.mono ?_
            rintro e w15 ⟨rfl, hB15⟩
            have HF := Lib.hid (HT.out.2.trans ((H14.out.ask hB15).go.ar.below.mono HT.out.2.size))
            clear cM3 hB15 hz14
            go_wp2_with fail
            go_ret
            exact ⟨rfl, HF.out⟩
        · clear h3 hwt hnd hu6 hd8
          as_aux_lemma =>
            have cC := vy_count h1 (y.r : Int) 3 (by rw [oneC_at]; exact hV)
            have H1 := Lib.hid (And.intro h1 hV)
            clear h1 hV
            go_wp2_with fail
            refine cC.mono ?_
            rintro e w9 ⟨rfl, hB9⟩
            have h9 := H1.out.1.ask hB9
            have hzD := row_cellB h9.go.row hR2
            have cZ := vy_count h9 (z.r : Int) 0 (by rw [oneC_ne _ HX.out.2.2.2.2.1]; rfl)
            have H9 := Lib.hid h9
            clear cC hB9 h9 hyD
            go_wp2_with fail
            refine cZ.mono ?_
            rintro e w10 ⟨rfl, hB10⟩
            have h10 := H9.out.ask hB10
            have cO := vy_over h10 q HQ.out
            have H10 := Lib.hid h10
            clear cZ hB10 h10 hzD
            go_wp2_with fail
            refine cO.mono ?_
            rintro e w11 ⟨rfl, hB11⟩
            have h11 := H10.out.ask hB11
            have cR := vy_remark h11
            have H11 := Lib.hid h11
            clear cO hB11 h11
            go_wp2_with fail
            refine cR.mono ?_
            rintro e w12 ⟨rfl, T8, h12, _⟩
            have hmy : (vyCol Col.white (oneC (y.r : Int) wt)).ma (y.r : Int) = true := by
              show (false || decide (0 < oneC (y.r : Int) wt (y.r : Int))) = _
              rw [oneC_at]; have := H1.out.2; simp; omega
            have hmo : ∀ r : Int, r ≠ (y.r : Int) → (vyCol Col.white (oneC (y.r : Int) wt)).ma r = false := fun r hr => by
              show (false || decide (0 < oneC (y.r : Int) wt r)) = _
              rw [oneC_ne _ hr]; rfl
            have cM1 := h12.by_.marked (y.r : Int)
            rw [h12.tmE, hmy] at cM1
            have hy12 := row_cellB h12.go.row hR1
            have H12 := Lib.hid (And.intro h12 hmo)
            clear cR h12 hmy hmo
            go_wp2_with fail
            refine cM1.mono ?_
            rintro e w13 ⟨rfl, hB13⟩
            have h13 := H12.out.1.ask hB13
            have hx13 := row_cellB h13.go.row hR0
            have cM2 := h13.by_.marked (x.r : Int)
            rw [h13.tmE, H12.out.2 _ HX.out.2.2.2.1] at cM2
            have H13 := Lib.hid h13
            clear cM1 hB13 h13 hy12
            go_wp2_with fail
            refine cM2.mono ?_
            rintro e w14 ⟨rfl, hB14⟩
            have h14 := H13.out.ask hB14
            have hz14 := row_cellB h14.go.row hR2
            have cM3 := h14.by_.marked (z.r : Int)
            rw [h14.tmE, H12.out.2 _ HX.out.2.2.2.2.1] at cM3
            have H14 := Lib.hid h14
            clear cM2 hB14 h14 hx13
            go_wp2_with fail
            refine cM3.mono ?_
            rintro e w15 ⟨rfl, hB15⟩
            have HF := Lib.hid (HT.out.2.trans ((H14.out.ask hB15).go.ar.below.mono HT.out.2.size))
            clear cM3 hB15 hz14
            go_wp2_with fail
            go_ret
            exact ⟨rfl, HF.out⟩
      · have h3I : ¬ (3 : Int) ≤ (u : Int) := by omega
        rw [if_neg h3] at hwt
        by_cases hp : 0 < nd
        · have hV : ((wt : Nat) : Int) = nd := by omega
          clear h3 hwt hnd hu6 hd8
          as_aux_lemma =>
            have cC := vy_count h1 (y.r : Int) nd (by rw [oneC_at]; exact hV)
            have H1 := Lib.hid (And.intro h1 hV)
            clear h1 hV
            go_wp2_with fail
            refine cC.mono ?_
            rintro e w9 ⟨rfl, hB9⟩
            have h9 := H1.out.1.ask hB9
            have hzD := row_cellB h9.go.row hR2
            have cZ := vy_count h9 (z.r : Int) 0 (by rw [oneC_ne _ HX.out.2.2.2.2.1]; rfl)
            have H9 := Lib.hid h9
            clear cC hB9 h9 hyD
            go_wp2_with fail
            refine cZ.mono ?_
            rintro e w10 ⟨rfl, hB10⟩
            have h10 := H9.out.ask hB10
            have cO := vy_over h10 q HQ.out
            have H10 := Lib.hid h10
            clear cZ hB10 h10 hzD
            go_wp2_with fail
            refine cO.mono ?_
            rintro e w11 ⟨rfl, hB11⟩
            have h11 := H10.out.ask hB11
            have cR := vy_remark h11
            have H11 := Lib.hid h11
            clear cO hB11 h11
            go_wp2_with fail
            refine cR.mono ?_
            rintro e w12 ⟨rfl, T8, h12, _⟩
            have hmy : (vyCol Col.white (oneC (y.r : Int) wt)).ma (y.r : Int) = true := by
              show (false || decide (0 < oneC (y.r : Int) wt (y.r : Int))) = _
              rw [oneC_at]; have := H1.out.2; simp; omega
            have hmo : ∀ r : Int, r ≠ (y.r : Int) → (vyCol Col.white (oneC (y.r : Int) wt)).ma r = false := fun r hr => by
              show (false || decide (0 < oneC (y.r : Int) wt r)) = _
              rw [oneC_ne _ hr]; rfl
            have cM1 := h12.by_.marked (y.r : Int)
            rw [h12.tmE, hmy] at cM1
            have hy12 := row_cellB h12.go.row hR1
            have H12 := Lib.hid (And.intro h12 hmo)
            clear cR h12 hmy hmo
            go_wp2_with fail
            refine cM1.mono ?_
            rintro e w13 ⟨rfl, hB13⟩
            have h13 := H12.out.1.ask hB13
            have hx13 := row_cellB h13.go.row hR0
            have cM2 := h13.by_.marked (x.r : Int)
            rw [h13.tmE, H12.out.2 _ HX.out.2.2.2.1] at cM2
            have H13 := Lib.hid h13
            clear cM1 hB13 h13 hy12
            go_wp2_with fail
            refine cM2.mono ?_
            rintro e w14 ⟨rfl, hB14⟩
            have h14 := H13.out.ask hB14
            have hz14 := row_cellB h14.go.row hR2
            have cM3 := h14.by_.marked (z.r : Int)
            rw [h14.tmE, H12.out.2 _ HX.out.2.2.2.2.1] at cM3
            have H14 := Lib.hid h14
            clear cM2 hB14 h14 hx13
            go_wp2_with fail
            refine cM3.mono ?_
            rintro e w15 ⟨rfl, hB15⟩
            have HF := Lib.hid (HT.out.2.trans ((H14.out.ask hB15).go.ar.below.mono HT.out.2.size))
            clear cM3 hB15 hz14
            go_wp2_with fail
            go_ret
            exact ⟨rfl, HF.out⟩
        · have hV : ((wt : Nat) : Int) = 0 := by omega
          clear h3 hwt hnd hu6 hd8
          as_aux_lemma =>
            have cC := vy_count h1 (y.r : Int) 0 (by rw [oneC_at]; exact hV)
            have H1 := Lib.hid (And.intro h1 hV)
            clear h1 hV
            go_wp2_with fail
            refine cC.mono ?_
            rintro e w9 ⟨rfl, hB9⟩
            have h9 := H1.out.1.ask hB9
            have hzD := row_cellB h9.go.row hR2
            have cZ := vy_count h9 (z.r : Int) 0 (by rw [oneC_ne _ HX.out.2.2.2.2.1]; rfl)
            have H9 := Lib.hid h9
            clear cC hB9 h9 hyD
            go_wp2_with fail
            refine cZ.mono ?_
            rintro e w10 ⟨rfl, hB10⟩
            have h10 := H9.out.ask hB10
            have cO := vy_over h10 q HQ.out
            have H10 := Lib.hid h10
            clear cZ hB10 h10 hzD
            go_wp2_with fail
            refine cO.mono ?_
            rintro e w11 ⟨rfl, hB11⟩
            have h11 := H10.out.ask hB11
            have cR := vy_remark h11
            have H11 := Lib.hid h11
            clear cO hB11 h11
            go_wp2_with fail
            refine cR.mono ?_
            rintro e w12 ⟨rfl, T8, h12, _⟩
            have hmy : (vyCol Col.white (oneC (y.r : Int) wt)).ma (y.r : Int) = false := by
              show (false || decide (0 < oneC (y.r : Int) wt (y.r : Int))) = _
              rw [oneC_at]; have := H1.out.2; simp; omega
            have hmo : ∀ r : Int, r ≠ (y.r : Int) → (vyCol Col.white (oneC (y.r : Int) wt)).ma r = false := fun r hr => by
              show (false || decide (0 < oneC (y.r : Int) wt r)) = _
              rw [oneC_ne _ hr]; rfl
            have cM1 := h12.by_.marked (y.r : Int)
            rw [h12.tmE, hmy] at cM1
            have hy12 := row_cellB h12.go.row hR1
            have H12 := Lib.hid (And.intro h12 hmo)
            clear cR h12 hmy hmo
            go_wp2_with fail
            refine cM1.mono ?_
            rintro e w13 ⟨rfl, hB13⟩
            have h13 := H12.out.1.ask hB13
            have hx13 := row_cellB h13.go.row hR0
            have cM2 := h13.by_.marked (x.r : Int)
            rw [h13.tmE, H12.out.2 _ HX.out.2.2.2.1] at cM2
            have H13 := Lib.hid h13
            clear cM1 hB13 h13 hy12
            go_wp2_with fail
            refine cM2.mono ?_
            rintro e w14 ⟨rfl, hB14⟩
            have h14 := H13.out.ask hB14
            have hz14 := row_cellB h14.go.row hR2
            have cM3 := h14.by_.marked (z.r : Int)
            rw [h14.tmE, H12.out.2 _ HX.out.2.2.2.2.1] at cM3
            have H14 := Lib.hid h14
            clear cM2 hB14 h14 hx13
            go_wp2_with fail
            refine cM3.mono ?_
            rintro e w15 ⟨rfl, hB15⟩
            have HF := Lib.hid (HT.out.2.trans ((H14.out.ask hB15).go.ar.below.mono HT.out.2.size))
            clear cM3 hB15 hz14
            go_wp2_with fail
            go_ret
            exact ⟨rfl, HF.out⟩
/-- As the frame asks it. -/
theorem vsat_frame (a : Int) (ha : (Lit.int .u8 a).wf = true) (b : Int) (hb : (Lit.int .u8 b).wf = true) (c : Int) (hc : (Lit.int .u8 c).wf = true) (w : World) (hT : TableAt w) :
    Calls Tryz.prog 6 #[.int .u8 a, .int .u8 b, .int .u8 c] w fun e w' => e = .returned (.bool true) ∧ Below w.heap.size w w' := by
  obtain ⟨qa, rfl, ha2⟩ := u8_natW ha
  obtain ⟨qb, rfl, hb2⟩ := u8_natW hb
  obtain ⟨qc, rfl, hc2⟩ := u8_natW hc
  exact vsat_true qa qb qc ha2 hb2 hc2 w ⟨hT, trivial⟩
end Go.Proofs.YtkjpeacnponcfaaGreatDoor
