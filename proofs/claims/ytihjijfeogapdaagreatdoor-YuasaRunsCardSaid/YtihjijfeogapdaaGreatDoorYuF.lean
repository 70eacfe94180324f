/- The fit of law 14, over the barrier's contracts; at this seat's numbers. -/
import Derived.Test.YtihjijfeogapdaaGreatDoorYuA
namespace Go.Proofs.YtihjijfeogapdaaGreatDoor
open Go Go.RowKit Go.Shelf Go.MuLone Go.RwLone
set_option linter.unusedSimpArgs false
set_option linter.unusedVariables false
attribute [local go_sem] Oper.semAt_some

set_option maxRecDepth 100000 in
set_option maxHeartbeats 8000000 in
theorem yufit_true (w : World) (hT : Tabs w) : Calls Tryz.prog 6 #[] w fun e w' => e = .returned (.bool true) ∧ Below w.heap.size w w' := by
  have hB0 := (Below.refl w.heap.size w).alloc (Nat.le_refl _) (.cells #[.int .u8 2, .int .u8 2, .int .u8 2] 5)
  have hb := Blk.new w #[.int .u8 2, .int .u8 2, .int .u8 2] 5
  have hF : BytesW (w.alloc (.cells #[.int .u8 2, .int .u8 2, .int .u8 2] 5)) (some ⟨w.heap.size, 0, none⟩) [2, 2, 2] := fun k hk => by
    have hk2 : k = 0 ∨ k = 1 ∨ k = 2 := by simp at hk; omega
    rcases hk2 with rfl | rfl | rfl
    · exact ⟨w.heap.size, 0, rfl, by simp, hb.cell 0, by decide⟩
    · exact ⟨w.heap.size, 0, rfl, by simp, hb.cell 1, by decide⟩
    · exact ⟨w.heap.size, 0, rfl, by simp, hb.cell 2, by decide⟩
  have hT1 := hT.below hB0
  have cM := made_any (some ⟨w.heap.size, 0, none⟩) [2, 2, 2] 3 none 0 0 (fun _ _ => 0) _ (by decide) (by omega) hF (fun k hk => absurd hk (Nat.not_lt_zero _)) hT1.c
  have HT := Lib.hid (And.intro hT1.b hB0)
  clear hF hT1 hT hB0 hb
  go_enter Tryz.func6, Tryz.ntmps6
  go_wp2_with fail
  generalize w.alloc (.cells #[.int .u8 2, .int .u8 2, .int .u8 2] 5) = w1 at *
  refine cM.mono ?_
  rintro e w2 hMP
  obtain ⟨X, s, obs, vl, mb, n, f, rfl, hMO⟩ := hMP.ok HT.out.1
  have hol : obs.length = 3 := hMO.len
  obtain ⟨x, y, z, rfl⟩ : ∃ x y z, obs = [x, y, z] := by
    match obs, hol with
    | [x, y, z], _ => exact ⟨x, y, z, rfl⟩
  have hlen := hMO.go.row.lenRun 3
  rw [refsI_length] at hlen
  have hl2 : ((([x, y, z] : List Ob).length : Nat) : Int) = 3 := rfl
  rw [hl2] at hlen
  have cN := gm_new (E := fun _ => False) hMO.go hMO.P 4 (fun _ h => h.elim) (by omega) hMO.tab hMO.tab.lt
  have HO := Lib.hid hMO
  clear hMO hMP cM hol hl2
  go_wp2_with fail
  refine cN.mono ?_
  rintro e w3 ⟨T, rfl, hGm, hB3⟩
  obtain ⟨tm, htm⟩ : ∃ tm, T.m = tm := ⟨_, rfl⟩
  rw [htm]
  have h4 := BrIn.made (t := yuK) hGm htm
  have cS := yu_new tm w3
  have H4 := Lib.hid h4
  clear cN hB3 h4
  go_wp2_with fail
  refine cS.mono ?_
  rintro e w' ⟨rfl, rfl⟩
  have h4 := H4.out
  clear H4 cS hGm htm
  generalize w3.alloc (.cells (BrCells yuK tm) yuK.t) = w4 at *
  generalize w3.heap.size = bt at *
  rcases h4.gm.go.row.is with ⟨_, e⟩ | ⟨g, cap, cur, hv, hg, hlc, hcm, hcs, hcell⟩
  · simp [refsI] at e
  have hR0 : (refsI [x, y, z])[0]? = some (x.r : Int) := rfl
  have hR1 : (refsI [x, y, z])[1]? = some (y.r : Int) := rfl
  have hR2 : (refsI [x, y, z])[2]? = some (z.r : Int) := rfl
  have hv2 : vl = .slice (some ⟨g, 0, none⟩) 3 cap := hv
  subst hv2
  have hx0 := row_cellB h4.gm.go.row hR0
  have hyR : (y.r : Int) ∈ refsI [x, y, z] := by simp [refsI]
  have hzR : (z.r : Int) ∈ refsI [x, y, z] := by simp [refsI]
  have hyb := HO.out.bd _ hyR
  have hne : (x.r : Int) ≠ (y.r : Int) ∧ (z.r : Int) ≠ (y.r : Int) := by
    have := HO.out.nd
    simp [refsI] at this
    constructor <;> omega
  have HX := Lib.hid (And.intro hyb (And.intro hyR (And.intro hzR hne)))
  have hDa := h4.drew
  have hxDa := row_cellB hDa.gm.go.row hR0
  have hyDa := row_cellB hDa.gm.go.row hR1
  have cP := yu_pre hDa (x.r : Int) (y.r : Int) (.inl hyR) HO.out.bd
  clear hg hlc hcm hcs hcell hv hyR hzR hyb hne h4 hDa hx0
  go_wp2_with fail
  go_region_held3 (fun W' => W'.cell? ⟨g, 0, none⟩ = some (.int .i64 (x.r : Int)) ∧ W'.cell? ⟨g, 1, none⟩ = some (.int .i64 (y.r : Int))) (first | exact hS6 | exact ⟨hxDa, hyDa⟩)
    (first
      | (go_at_call 11; refine cP.mono ?_; rintro e w6 ⟨rfl, T6, h6, _⟩; have hS6 : w6.cell? ⟨g, 0, none⟩ = some (.int .i64 (x.r : Int)) ∧ w6.cell? ⟨g, 1, none⟩ = some (.int .i64 (y.r : Int)) := ⟨row_cellB h6.gm.go.row hR0, row_cellB h6.gm.go.row hR1⟩))
  all_goals
    have hD := h6.drew
    have hxD := row_cellB hD.gm.go.row hR0
    have hyD := row_cellB hD.gm.go.row hR1
    have hzD := row_cellB hD.gm.go.row hR2
    have cQ := yu_post hD (x.r : Int) (y.r : Int) (z.r : Int) false false (.inl HX.out.2.1) (.inl HX.out.2.2.1) HO.out.bd
    clear hD cP hS6 hxDa hyDa h6
    go_wp2_with fail
    go_region_held3 (fun W' => W'.cell? ⟨g, 0, none⟩ = some (.int .i64 (x.r : Int)) ∧ W'.cell? ⟨g, 1, none⟩ = some (.int .i64 (y.r : Int)) ∧ W'.cell? ⟨g, 2, none⟩ = some (.int .i64 (z.r : Int))) (first | exact hS7 | exact ⟨hxD, hyD, hzD⟩)
      (first
        | (go_at_call 12; refine cQ.mono ?_; rintro e w7 ⟨rfl, T7, h7, _⟩; have hS7 : w7.cell? ⟨g, 0, none⟩ = some (.int .i64 (x.r : Int)) ∧ w7.cell? ⟨g, 1, none⟩ = some (.int .i64 (y.r : Int)) ∧ w7.cell? ⟨g, 2, none⟩ = some (.int .i64 (z.r : Int)) := ⟨row_cellB h7.gm.go.row hR0, row_cellB h7.gm.go.row hR1, row_cellB h7.gm.go.row hR2⟩))
    all_goals
      have cR := yu_rescans bt w7
      have hy0 : (y.r : Int) ≠ 0 := by have := HX.out.1; omega
      have hcc : ((Col.white.shadeZ (y.r : Int)).shadeZ (y.r : Int)).shadeZ (if false = true then (z.r : Int) else 0) = (Col.white.shade (y.r : Int)).shade (y.r : Int) := by
        rw [if_neg (by decide), Col.shadeZ_no, Col.shadeZ_yes hy0, Col.shadeZ_yes hy0]
      rw [hcc] at h7
      have hmy : ((Col.white.shade (y.r : Int)).shade (y.r : Int)).ma (y.r : Int) = true := updI_at _ _ _
      have hm0 : ∀ u : Int, u ≠ (y.r : Int) → ((Col.white.shade (y.r : Int)).shade (y.r : Int)).ma u = false := fun u hu => by
        show updI (updI (fun _ => false) (y.r : Int) true) (y.r : Int) true u = false
        rw [updI_ne hu, updI_ne hu]
      have cM1 := h7.gm.at_.marked (y.r : Int)
      rw [h7.tm, hmy] at cM1
      have hy7 := hS7.2.1
      have H7 := Lib.hid (And.intro h7 (And.intro (hm0 _ HX.out.2.2.2.1) (hm0 _ HX.out.2.2.2.2)))
      clear hS7 hmy hm0 h7 cQ hxD hyD hzD hcc
      go_wp2_with fail
      refine cR.mono ?_
      rintro e w' ⟨rfl, rfl⟩
      clear cR
      go_wp2_with fail
      refine cM1.mono ?_
      rintro e w8 ⟨rfl, hB8⟩
      have h8 := H7.out.1.ask hB8
      have hx8 := row_cellB h8.gm.go.row hR0
      have cM0 := h8.gm.at_.marked (x.r : Int)
      rw [h8.tm, H7.out.2.1] at cM0
      have H8 := Lib.hid h8
      clear cM1 hB8 h8 hy7
      go_wp2_with fail
      refine cM0.mono ?_
      rintro e w9 ⟨rfl, hB9⟩
      have h9 := H8.out.ask hB9
      have hz9 := row_cellB h9.gm.go.row hR2
      have cM2 := h9.gm.at_.marked (z.r : Int)
      rw [h9.tm, H7.out.2.2] at cM2
      have H9 := Lib.hid h9
      clear cM0 hB9 h9 hx8
      go_wp2_with fail
      refine cM2.mono ?_
      rintro e w10 ⟨rfl, hB10⟩
      have HF := Lib.hid (HT.out.2.trans ((H9.out.ask hB10).gm.below.mono HT.out.2.size))
      clear cM2 hB10
      go_wp2_with fail
      go_ret
      exact ⟨rfl, HF.out⟩
end Go.Proofs.YtihjijfeogapdaaGreatDoor
