/- The fit of law 15, over the barrier's contracts; at this seat's numbers. -/
import Derived.Test.YtkjpeacnponcfaaGreatDoorUlv
namespace Go.Proofs.YtkjpeacnponcfaaGreatDoor
open Go Go.RowKit Go.Shelf Go.MuLone Go.RwLone
set_option linter.unusedSimpArgs false
set_option linter.unusedVariables false
attribute [local go_sem] Oper.semAt_some

set_option maxRecDepth 100000 in
set_option maxHeartbeats 8000000 in
theorem vyfit_true (w : World) (hT : Tabs w) : Calls Tryz.prog 8 #[] w fun e w' => e = .returned (.bool true) ∧ Below w.heap.size w w' := by
  have hB0 := (Below.refl w.heap.size w).alloc (Nat.le_refl _) (.cells #[.int .u8 2, .int .u8 2] 5)
  have hb := Blk.new w #[.int .u8 2, .int .u8 2] 5
  have hF : BytesW (w.alloc (.cells #[.int .u8 2, .int .u8 2] 5)) (some ⟨w.heap.size, 0, none⟩) [2, 2] := fun k hk => by
    have hk2 : k = 0 ∨ k = 1 := by simp at hk; omega
    rcases hk2 with rfl | rfl
    · exact ⟨w.heap.size, 0, rfl, by simp, hb.cell 0, by decide⟩
    · exact ⟨w.heap.size, 0, rfl, by simp, hb.cell 1, by decide⟩
  have hT1 := hT.below hB0
  have cM := made_any (some ⟨w.heap.size, 0, none⟩) [2, 2] 2 none 0 0 (fun _ _ => 0) _ (by decide) (by omega) hF (fun k hk => absurd hk (Nat.not_lt_zero _)) hT1.c
  have HT := Lib.hid (And.intro hT1.b hB0)
  clear hF hT1 hT hB0 hb
  go_enter Tryz.func8, Tryz.ntmps8
  go_wp2_with fail
  generalize w.alloc (.cells #[.int .u8 2, .int .u8 2] 5) = w1 at *
  refine cM.mono ?_
  rintro e w2 hMP
  obtain ⟨X, s, obs, vl, mb, n, f, rfl, hMO⟩ := hMP.ok HT.out.1
  have hol : obs.length = 2 := hMO.len
  obtain ⟨x, y, rfl⟩ : ∃ x y, obs = [x, y] := by
    match obs, hol with
    | [x, y], _ => exact ⟨x, y, rfl⟩
  have hlen := hMO.go.row.lenRun 3
  rw [refsI_length] at hlen
  have hl2 : ((([x, y] : List Ob).length : Nat) : Int) = 2 := rfl
  rw [hl2] at hlen
  have cN := gm_new (E := fun _ => False) hMO.go hMO.P 4 (fun _ h => h.elim) (by omega) hMO.tab hMO.tab.lt
  have HO := Lib.hid hMO
  clear hMO hMP cM hol hl2
  go_wp2_with fail
  refine cN.mono ?_
  rintro e w3 ⟨T, rfl, hGm, hB3⟩
  obtain ⟨tm, htm⟩ : ∃ tm, T.m = tm := ⟨_, rfl⟩
  rw [htm]
  have cS := vy_new (room := 1) hGm htm 1 (by decide) (by decide)
  clear cN hB3 hGm htm
  go_wp2_with fail
  refine cS.mono ?_
  rintro e w4 ⟨bt, rfl, h4, _⟩
  clear cS
  rcases h4.go.row.is with ⟨_, e⟩ | ⟨g, cap, cur, hv, hg, hlc, hcm, hcs, hcell⟩
  · simp [refsI] at e
  have hR0 : (refsI [x, y])[0]? = some (x.r : Int) := rfl
  have hR1 : (refsI [x, y])[1]? = some (y.r : Int) := rfl
  have hv2 : vl = .slice (some ⟨g, 0, none⟩) 2 cap := hv
  subst hv2
  have hxR : (x.r : Int) ∈ refsI [x, y] := by simp [refsI]
  have hyR : (y.r : Int) ∈ refsI [x, y] := by simp [refsI]
  have hxb := HO.out.bd _ hxR
  have hyb := HO.out.bd _ hyR
  have hne : (y.r : Int) ≠ (x.r : Int) := fun e => by
    have := HO.out.nd
    simp [refsI] at this
    omega
  have HX := Lib.hid (And.intro hxb (And.intro hyb (And.intro hne (And.intro hxR hyR))))
  have hDa := h4.ask (Below.refl _ w4).drew
  have hxDa := row_cellB hDa.go.row hR0
  have hyDa := row_cellB hDa.go.row hR1
  have cP := vy_post hDa (x.r : Int) 0 (y.r : Int) false false (.inr rfl) (.inl hyR) HO.out.bd (by decide)
  rw [vyPost_white, vyLg_white] at cP
  clear hg hlc hcm hcs hcell hv hyR hxR hxb hyb hne h4 hDa
  go_wp2_with fail
  go_region_held3 (fun W' => W'.cell? ⟨g, 0, none⟩ = some (.int .i64 (x.r : Int)) ∧ W'.cell? ⟨g, 1, none⟩ = some (.int .i64 (y.r : Int))) (first | exact hS6 | exact ⟨hxDa, hyDa⟩)
    (first
      | (go_at_call 15; refine cP.mono ?_; rintro e w6 ⟨rfl, h6, _⟩; have hS6 : w6.cell? ⟨g, 0, none⟩ = some (.int .i64 (x.r : Int)) ∧ w6.cell? ⟨g, 1, none⟩ = some (.int .i64 (y.r : Int)) := ⟨row_cellB h6.go.row hR0, row_cellB h6.go.row hR1⟩))
  all_goals
    have hD := h6.ask (Below.refl _ w6).drew
    have hxD := row_cellB hD.go.row hR0
    have cQ := vy_post hD (x.r : Int) 0 (x.r : Int) true false (.inr rfl) (.inl HX.out.2.2.2.1) HO.out.bd (by decide)
    clear hD cP hS6 hxDa hyDa h6
    go_wp2_with fail
    go_region_held3 (fun W' => W'.cell? ⟨g, 0, none⟩ = some (.int .i64 (x.r : Int))) (first | exact hS7 | exact hxD)
      (first
        | (go_at_call 15; refine cQ.mono ?_; rintro e w7 ⟨rfl, h7, _⟩; have hS7 : w7.cell? ⟨g, 0, none⟩ = some (.int .i64 (x.r : Int)) := row_cellB h7.go.row hR0))
    all_goals
      have hx0 : (x.r : Int) ≠ 0 := by have := HX.out.1; omega
      have hcx : vyPost (fun _ => 0) true (x.r : Int) 0 (x.r : Int) = 1 := by
        unfold vyPost; rw [if_pos rfl, vyDown_zero, vyUp_at hx0]; rfl
      have hcy : vyPost (fun _ => 0) true (x.r : Int) 0 (y.r : Int) = 0 := by
        unfold vyPost; rw [if_pos rfl, vyDown_zero, vyUp_ne HX.out.2.2.1]
      have hlg : vyLg 0 true (x.r : Int) = 1 := by unfold vyLg; rw [if_pos rfl, if_neg hx0]
      rw [hlg] at h7
      have cR := vy_remark h7
      have HC := Lib.hid (And.intro hcx hcy)
      clear hS7 cQ hxD hlg hcx hcy h7
      generalize vyPost (fun _ => 0) true (x.r : Int) 0 = cn at *
      go_wp2_with fail
      refine cR.mono ?_
      rintro e w8 ⟨rfl, T8, h8, _⟩
      have cRs := vy_rescans bt w8
      have hmx : (vyCol Col.white cn).ma (x.r : Int) = true := by
        show (false || decide (0 < cn (x.r : Int))) = true
        rw [HC.out.1]; rfl
      have hmy : (vyCol Col.white cn).ma (y.r : Int) = false := by
        show (false || decide (0 < cn (y.r : Int))) = false
        rw [HC.out.2]; rfl
      have cM1 := h8.by_.marked (x.r : Int)
      rw [h8.tmE, hmx] at cM1
      have hx8 := row_cellB h8.go.row hR0
      have H8 := Lib.hid (And.intro h8 hmy)
      clear cR h8 hmx hmy
      go_wp2_with fail
      refine cRs.mono ?_
      rintro e w' ⟨rfl, rfl⟩
      clear cRs
      go_wp2_with fail
      refine cM1.mono ?_
      rintro e w9 ⟨rfl, hB9⟩
      have h9 := H8.out.1.ask hB9
      have hy9 := row_cellB h9.go.row hR1
      have cM0 := h9.by_.marked (y.r : Int)
      rw [h9.tmE, H8.out.2] at cM0
      have H9 := Lib.hid h9
      clear cM1 hB9 h9 hx8
      go_wp2_with fail
      refine cM0.mono ?_
      rintro e w10 ⟨rfl, hB10⟩
      have h10 := H9.out.ask hB10
      have hx10 := row_cellB h10.go.row hR0
      have cC := vy_count h10 (x.r : Int) 1 (by rw [HC.out.1]; rfl)
      have H10 := Lib.hid h10
      clear cM0 hB10 h10 hy9
      go_wp2_with fail
      refine cC.mono ?_
      rintro e w11 ⟨rfl, hB11⟩
      have h11 := H10.out.ask hB11
      have cO := vy_over h11 false (by decide)
      have H11 := Lib.hid h11
      clear cC hB11 h11 hx10
      go_wp2_with fail
      refine cO.mono ?_
      rintro e w12 ⟨rfl, hB12⟩
      have HF := Lib.hid (HT.out.2.trans ((H11.out.ask hB12).go.ar.below.mono HT.out.2.size))
      clear cO hB12
      go_wp2_with fail
      go_ret
      exact ⟨rfl, HF.out⟩
end Go.Proofs.YtkjpeacnponcfaaGreatDoor
